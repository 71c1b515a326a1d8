/-
  Plain mathematics of CRC-32 (reflected, 0xEDB88320) over natural numbers, with no program in it: one step, eight steps, a row of bytes;
  it does not matter how bytes are parted; rows of one length that differ by a pattern of at most 32 bits have unlike sums.
-/
import Derived.Laws.BitsAllLaws
namespace Go.Proofs.Ythffmojmfghbiaa.Crc

def stp (c : Nat) : Nat := if c % 2 = 1 then c / 2 ^^^ 3988292384 else c / 2
def it : Nat → Nat → Nat
  | 0, c => c
  | n + 1, c => it n (stp c)
def byt (c x : Nat) : Nat := it 8 (c ^^^ x)
def mor : Nat → List Nat → Nat
  | c, [] => c
  | c, x :: l => mor (byt c x) l

theorem stp_lt {c : Nat} (h : c < 4294967296) : stp c < 4294967296 := by
  unfold stp
  split
  · exact Nat.xor_lt_two_pow (n := 32) (by omega) (by omega)
  · omega
theorem it_lt {c : Nat} (n : Nat) (h : c < 4294967296) : it n c < 4294967296 := by
  induction n generalizing c with
  | zero => exact h
  | succ n ih => exact ih (stp_lt h)
theorem it_succ (n c : Nat) : it (n + 1) c = stp (it n c) := by
  induction n generalizing c with
  | zero => rfl
  | succ n ih => exact ih (stp c)
theorem it_add (m n c : Nat) : it (m + n) c = it m (it n c) := by
  induction n generalizing c with
  | zero => rfl
  | succ n ih => exact ih (stp c)
theorem mor_append (c : Nat) (l m : List Nat) : mor c (l ++ m) = mor (mor c l) m := by
  induction l generalizing c with
  | nil => rfl
  | cons x l ih => exact ih _
theorem xor_lt {a b : Nat} (ha : a < 4294967296) (hb : b < 4294967296) : a ^^^ b < 4294967296 :=
  Nat.xor_lt_two_pow (n := 32) ha hb
theorem mor_lt {c : Nat} (l : List Nat) (h : c < 4294967296) (hl : ∀ x ∈ l, x < 256) : mor c l < 4294967296 := by
  induction l generalizing c with
  | nil => exact h
  | cons x l ih =>
    have hx : x < 256 := hl x (by simp)
    exact ih (it_lt 8 (xor_lt h (by omega))) (fun y hy => hl y (by simp [hy]))

/-! ### linear -/
theorem stp_xor (a b : Nat) : stp (a ^^^ b) = stp a ^^^ stp b := by
  unfold stp
  have h1 : (a ^^^ b) / 2 = a / 2 ^^^ b / 2 := Nat.xor_div_two
  have h2 : (a ^^^ b) % 2 = 1 ↔ ¬ (a % 2 = 1 ↔ b % 2 = 1) := Nat.xor_mod_two_eq_one
  rw [h1]
  by_cases ha : a % 2 = 1 <;> by_cases hb : b % 2 = 1
  · rw [if_neg (by rw [h2]; simp [ha, hb]), if_pos ha, if_pos hb]
    rw [Nat.xor_assoc, ← Nat.xor_assoc 3988292384, Nat.xor_comm 3988292384 (b / 2), Nat.xor_assoc (b / 2), Nat.xor_self, Nat.xor_zero]
  · rw [if_pos (by rw [h2]; simp [ha, hb]), if_pos ha, if_neg hb]
    rw [Nat.xor_assoc, Nat.xor_comm (b / 2), ← Nat.xor_assoc]
  · rw [if_pos (by rw [h2]; simp [ha, hb]), if_neg ha, if_pos hb, Nat.xor_assoc]
  · rw [if_neg (by rw [h2]; simp [ha, hb]), if_neg ha, if_neg hb]
theorem it_xor (n a b : Nat) : it n (a ^^^ b) = it n a ^^^ it n b := by
  induction n generalizing a b with
  | zero => rfl
  | succ n ih => show it n (stp (a ^^^ b)) = it n (stp a) ^^^ it n (stp b); rw [stp_xor, ih]
theorem stp_even (m : Nat) : stp (2 * m) = m := by
  unfold stp
  rw [if_neg (by omega)]
  omega
theorem it_pow (n m : Nat) : it n (2 ^ n * m) = m := by
  induction n with
  | zero => simp [it]
  | succ n ih =>
    show it n (stp (2 ^ (n + 1) * m)) = m
    rw [show 2 ^ (n + 1) * m = 2 * (2 ^ n * m) from by rw [Nat.pow_succ, Nat.mul_comm (2 ^ n) 2, Nat.mul_assoc], stp_even, ih]

def num : List Nat → Nat
  | [] => 0
  | x :: l => x ^^^ (256 * num l)
theorem it_eight (m : Nat) : it 8 (256 * m) = m := by
  have e := it_pow 8 m
  rw [show (2 : Nat) ^ 8 = 256 from by decide] at e
  exact e
theorem mor_cons (c x : Nat) (l : List Nat) : mor c (x :: l) = mor (byt c x) l := rfl
theorem num_cons (x : Nat) (l : List Nat) : num (x :: l) = x ^^^ (256 * num l) := rfl
theorem mor_num (c : Nat) (l : List Nat) : mor c l = it (8 * l.length) (c ^^^ num l) := by
  induction l generalizing c with
  | nil => rw [List.length_nil, Nat.mul_zero]; show c = c ^^^ 0; rw [Nat.xor_zero]
  | cons x l ih =>
    rw [mor_cons, num_cons, List.length_cons, ih, Nat.mul_add, Nat.mul_one, it_add, ← Nat.xor_assoc, it_xor 8 (c ^^^ x), it_eight]
    rfl
theorem stp_ne {e : Nat} (h0 : e ≠ 0) (h : e < 4294967296) : stp e ≠ 0 := by
  unfold stp
  split
  · intro hx
    have hb : (e / 2 ^^^ 3988292384).testBit 31 = true := by
      rw [Nat.testBit_xor]
      have h1 : (e / 2).testBit 31 = false := Nat.testBit_lt_two_pow (by omega)
      have h2 : Nat.testBit 3988292384 31 = true := by decide
      rw [h1, h2]; rfl
    rw [hx, Nat.zero_testBit] at hb
    cases hb
  · omega
theorem it_ne {e : Nat} (n : Nat) (h0 : e ≠ 0) (h : e < 4294967296) : it n e ≠ 0 := by
  induction n generalizing e with
  | zero => exact h0
  | succ n ih => exact ih (stp_ne h0 h) (stp_lt h)
theorem it_zero (n : Nat) : it n 0 = 0 := by
  have := it_pow n 0
  simpa using this

/-- THE BURST: two rows of one length that differ by the pattern e (at most 32 bits) from the bit 'from' on: their sums are alike only where e is 0. -/
theorem burst (c : Nat) (l m : List Nat) (e at_ : Nat) (hlen : m.length = l.length) (hn : num m = num l ^^^ (2 ^ at_ * e)) (hat : at_ ≤ 8 * l.length) (he : e < 4294967296) :
    (mor c l = mor c m) ↔ e = 0 := by
  rw [mor_num, mor_num, hlen, hn, ← Nat.xor_assoc, it_xor (8 * l.length) (c ^^^ num l)]
  have hs : it (8 * l.length) (2 ^ at_ * e) = it (8 * l.length - at_) e := by
    have h8 : 8 * l.length = (8 * l.length - at_) + at_ := by omega
    have h9 := it_add (8 * l.length - at_) at_ (2 ^ at_ * e)
    rw [it_pow, ← h8] at h9
    exact h9
  rw [hs]
  constructor
  · intro h
    rcases Nat.eq_zero_or_pos e with h0 | h0
    · exact h0
    · exfalso
      refine it_ne (8 * l.length - at_) (e := e) (by omega) he ?_
      generalize it (8 * l.length - at_) e = y at h
      generalize it (8 * l.length) (c ^^^ num l) = x at h
      have h2 : x ^^^ x = x ^^^ (x ^^^ y) := by rw [← h]
      rw [Nat.xor_self, ← Nat.xor_assoc, Nat.xor_self, Nat.zero_xor] at h2
      exact h2.symm
  · rintro rfl
    rw [it_zero, Nat.xor_zero]
theorem num_set (l : List Nat) (i v : Nat) (h : i < l.length) : num (l.set i (l.getD i 0 ^^^ v)) = num l ^^^ (2 ^ (8 * i) * v) := by
  induction l generalizing i with
  | nil => simp at h
  | cons x l ih =>
    cases i with
    | zero =>
      show (x ^^^ v) ^^^ (256 * num l) = (x ^^^ (256 * num l)) ^^^ (2 ^ (8 * 0) * v)
      simp only [Nat.mul_zero, Nat.pow_zero, Nat.one_mul]
      rw [Nat.xor_assoc, Nat.xor_comm v, ← Nat.xor_assoc]
    | succ i =>
      have hi := ih i (by simpa using h)
      show x ^^^ (256 * num (l.set i (l.getD i 0 ^^^ v))) = (x ^^^ (256 * num l)) ^^^ (2 ^ (8 * (i + 1)) * v)
      rw [hi, Nat.xor_assoc]
      congr 1
      have e1 : (256 : Nat) = 2 ^ 8 := rfl
      have e2 : 2 ^ (8 * (i + 1)) * v = 2 ^ 8 * (2 ^ (8 * i) * v) := by
        rw [show 8 * (i + 1) = 8 + 8 * i from by omega, Nat.pow_add, Nat.mul_assoc]
      rw [e2, e1]
      generalize num l = p
      generalize 2 ^ (8 * i) * v = q
      rw [Nat.mul_comm _ (p ^^^ q), Nat.mul_comm _ p, Nat.mul_comm _ q, ← Nat.shiftLeft_eq, ← Nat.shiftLeft_eq, ← Nat.shiftLeft_eq, Nat.shiftLeft_xor_distrib]

/-! ### the same over the integers that the program holds -/
def stZ (c : Int) : Int := ((stp c.toNat : Nat) : Int)
def itZ (n : Nat) (c : Int) : Int := ((it n c.toNat : Nat) : Int)
def morZ (c : Int) (l : List Int) : Int := ((mor c.toNat (l.map Int.toNat) : Nat) : Int)
def ntZ (c : Int) : Int := bits .xor .u32 IntKind.u32.max c
def moreZ (s : Int) (l : List Int) : Int := ntZ (morZ (ntZ s) l)

theorem stZ_bd {c : Int} (h0 : 0 ≤ c) (h1 : c < 4294967296) : 0 ≤ stZ c ∧ stZ c < 4294967296 := by
  have := stp_lt (c := c.toNat) (by omega)
  unfold stZ; omega
theorem itZ_bd {c : Int} (n : Nat) (h0 : 0 ≤ c) (h1 : c < 4294967296) : 0 ≤ itZ n c ∧ itZ n c < 4294967296 := by
  have := it_lt (c := c.toNat) n (by omega)
  unfold itZ; omega
theorem itZ_zero {c : Int} (h0 : 0 ≤ c) : itZ 0 c = c := by
  show ((c.toNat : Nat) : Int) = c
  omega
theorem itZ_succ (n : Nat) (c : Int) : itZ (n + 1) c = stZ (itZ n c) := by
  unfold itZ stZ
  rw [it_succ, Int.toNat_natCast]
theorem xorZ {a b : Int} (h1 : 0 ≤ a) (h2 : a < 4294967296) (h3 : 0 ≤ b) (h4 : b < 4294967296) : bits .xor .u32 a b = ((a.toNat ^^^ b.toNat : Nat) : Int) := u32_xor a b h1 h2 h3 h4
theorem xorZ_bd {a b : Int} (h1 : 0 ≤ a) (h2 : a < 4294967296) (h3 : 0 ≤ b) (h4 : b < 4294967296) : 0 ≤ bits .xor .u32 a b ∧ bits .xor .u32 a b < 4294967296 := by
  rw [xorZ h1 h2 h3 h4]
  have := xor_lt (a := a.toNat) (b := b.toNat) (by omega) (by omega)
  omega
theorem max_eq : IntKind.u32.max = 4294967295 := by decide
theorem ntZ_eq {c : Int} (h0 : 0 ≤ c) (h1 : c < 4294967296) : ntZ c = ((4294967295 ^^^ c.toNat : Nat) : Int) := by
  unfold ntZ
  rw [max_eq, xorZ (by omega) (by omega) h0 h1]
  rfl
theorem ntZ_bd {c : Int} (h0 : 0 ≤ c) (h1 : c < 4294967296) : 0 ≤ ntZ c ∧ ntZ c < 4294967296 := by
  unfold ntZ
  rw [max_eq]
  exact xorZ_bd (by omega) (by omega) h0 h1
theorem ntZ_ntZ {c : Int} (h0 : 0 ≤ c) (h1 : c < 4294967296) : ntZ (ntZ c) = c := by
  have hb := ntZ_bd h0 h1
  rw [ntZ_eq hb.1 hb.2, ntZ_eq h0 h1, Int.toNat_natCast, ← Nat.xor_assoc, Nat.xor_self, Nat.zero_xor]
  omega
theorem ntZ_inj {a b : Int} (h0 : 0 ≤ a) (h1 : a < 4294967296) (h2 : 0 ≤ b) (h3 : b < 4294967296) (h : ntZ a = ntZ b) : a = b := by
  rw [← ntZ_ntZ h0 h1, h, ntZ_ntZ h2 h3]
def bytesB (l : List Int) : Prop := ∀ x ∈ l, 0 ≤ x ∧ x < 256
theorem morZ_bd {c : Int} (l : List Int) (h0 : 0 ≤ c) (h1 : c < 4294967296) (hl : bytesB l) : 0 ≤ morZ c l ∧ morZ c l < 4294967296 := by
  have := mor_lt (c := c.toNat) (l.map Int.toNat) (by omega) (by
    intro x hx
    obtain ⟨y, hy, rfl⟩ := List.mem_map.1 hx
    have := hl y hy
    omega)
  unfold morZ; omega
theorem moreZ_bd {s : Int} (l : List Int) (h0 : 0 ≤ s) (h1 : s < 4294967296) (hl : bytesB l) : 0 ≤ moreZ s l ∧ moreZ s l < 4294967296 := by
  have a := ntZ_bd h0 h1
  have b := morZ_bd l a.1 a.2 hl
  exact ntZ_bd b.1 b.2
theorem morZ_nil {c : Int} (h0 : 0 ≤ c) : morZ c [] = c := by
  show ((c.toNat : Nat) : Int) = c
  omega
theorem moreZ_nil {s : Int} (h0 : 0 ≤ s) (h1 : s < 4294967296) : moreZ s [] = s := by
  unfold moreZ
  rw [morZ_nil (ntZ_bd h0 h1).1, ntZ_ntZ h0 h1]
theorem morZ_append (c : Int) (l m : List Int) : morZ c (l ++ m) = morZ (morZ c l) m := by
  unfold morZ
  rw [List.map_append, mor_append, Int.toNat_natCast]
theorem morZ_snoc (c : Int) (l : List Int) (x : Int) (hc0 : 0 ≤ morZ c l) (hc1 : morZ c l < 4294967296) (hx : 0 ≤ x ∧ x < 256) :
    morZ c (l ++ [x]) = itZ 8 (bits .xor .u32 (morZ c l) x) := by
  rw [morZ_append, xorZ hc0 hc1 hx.1 (by omega)]
  unfold itZ
  rw [Int.toNat_natCast]
  show ((mor (morZ c l).toNat [x.toNat] : Nat) : Int) = _
  rw [mor_cons]
  rfl
theorem moreZ_append {s : Int} (l m : List Int) (h0 : 0 ≤ s) (h1 : s < 4294967296) (hl : bytesB l) : moreZ s (l ++ m) = moreZ (moreZ s l) m := by
  have a := ntZ_bd h0 h1
  have b := morZ_bd l a.1 a.2 hl
  unfold moreZ
  rw [ntZ_ntZ b.1 b.2, morZ_append]

/-! ### the step, as the program's text has it, and as the document's plain text has it -/
theorem andZ {a b : Int} (h1 : 0 ≤ a) (h2 : a < 4294967296) (h3 : 0 ≤ b) (h4 : b < 4294967296) : bits .and .u32 a b = ((a.toNat &&& b.toNat : Nat) : Int) := u32_and a b h1 h2 h3 h4
theorem and_one {x : Int} (h0 : 0 ≤ x) (h1 : x < 4294967296) : bits .and .u32 x 1 = x % 2 := by
  rw [andZ h0 h1 (by omega) (by omega), show (1 : Int).toNat = 1 from rfl, nat_mask1]
  omega
theorem step_text {x : Int} (h0 : 0 ≤ x) (h1 : x < 4294967296) :
    bits .xor .u32 (x / 2) (bits .and .u32 3988292384 (-bits .and .u32 x 1 % 4294967296)) = stZ x := by
  rw [and_one h0 h1]
  by_cases h : x % 2 = 1
  · rw [h, show (-1 : Int) % 4294967296 = 4294967295 from by decide, andZ (by omega) (by omega) (by omega) (by omega)]
    rw [show (3988292384 : Int).toNat &&& (4294967295 : Int).toNat = 3988292384 from by decide]
    rw [xorZ (by omega) (by omega) (by omega) (by omega)]
    unfold stZ stp
    rw [if_pos (by omega), Int.toNat_natCast, show (x / 2).toNat = x.toNat / 2 from by omega]
  · have hz : x % 2 = 0 := by omega
    rw [hz, show (-0 : Int) % 4294967296 = 0 from by decide, andZ (by omega) (by omega) (by omega) (by omega)]
    rw [show (3988292384 : Int).toNat &&& (0 : Int).toNat = 0 from by decide]
    rw [xorZ (by omega) (by omega) (by omega) (by omega)]
    unfold stZ stp
    rw [if_neg (by omega), Int.toNat_natCast, show (x / 2).toNat = x.toNat / 2 from by omega, Nat.xor_zero]
theorem step_odd {x : Int} (h0 : 0 ≤ x) (h1 : x < 4294967296) (h : x % 2 = 1) : bits .xor .u32 (x / 2) 3988292384 = stZ x := by
  rw [xorZ (by omega) (by omega) (by omega) (by omega)]
  unfold stZ stp
  rw [if_pos (by omega), show (x / 2).toNat = x.toNat / 2 from by omega]
  rfl
theorem step_even {x : Int} (h0 : 0 ≤ x) (h : x % 2 = 0) : x / 2 = stZ x := by
  unfold stZ stp
  rw [if_neg (by omega)]
  omega

end Go.Proofs.Ythffmojmfghbiaa.Crc
