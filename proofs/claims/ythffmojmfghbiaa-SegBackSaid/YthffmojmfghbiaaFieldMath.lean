/-
  Plain mathematics of fields and their bytes, of no program: a number's bytes, the highest first, and back; a field's bytes; what bytes are read as, and what is wrong with them first.
-/
namespace Go.Proofs.Ythffmojmfghbiaa.FieldMath

def big (x : Nat) : Nat → List UInt8
  | 0 => []
  | n + 1 => UInt8.ofNat (x / 256 ^ n) :: big x n
def num (l : List UInt8) : Nat := l.foldl (fun a b => a * 256 + b.toNat) 0

theorem big_length (x n : Nat) : (big x n).length = n := by
  induction n with
  | zero => rfl
  | succ n ih => rw [big, List.length_cons, ih]
theorem num_nil : num [] = 0 := rfl
theorem num_snoc (l : List UInt8) (b : UInt8) : num (l ++ [b]) = num l * 256 + b.toNat := by
  unfold num
  rw [List.foldl_append]
  rfl
theorem fold_num (l : List UInt8) (a : Nat) : l.foldl (fun a b => a * 256 + b.toNat) a = a * 256 ^ l.length + num l := by
  unfold num
  induction l generalizing a with
  | nil => simp
  | cons b l ih =>
    rw [List.foldl_cons, ih, List.foldl_cons, ih (0 * 256 + b.toNat), List.length_cons, Nat.pow_succ]
    simp [Nat.add_mul, Nat.mul_assoc, Nat.mul_comm (256 ^ l.length) 256]
    omega
theorem num_cons (b : UInt8) (l : List UInt8) : num (b :: l) = b.toNat * 256 ^ l.length + num l := by
  unfold num
  rw [List.foldl_cons, fold_num]
  unfold num
  simp
theorem num_lt (l : List UInt8) : num l < 256 ^ l.length := by
  induction l with
  | nil => decide
  | cons b l ih =>
    rw [num_cons, List.length_cons, Nat.pow_succ]
    have hb := b.toNat_lt
    have h1 : b.toNat * 256 ^ l.length ≤ 255 * 256 ^ l.length := Nat.mul_le_mul_right _ (by omega)
    omega
theorem num_big (x n : Nat) : num (big x n) = x % 256 ^ n := by
  induction n with
  | zero => rw [big, num_nil, Nat.pow_zero, Nat.mod_one]
  | succ n ih =>
    have e : x % 256 ^ (n + 1) = x % 256 ^ n + 256 ^ n * (x / 256 ^ n % 256) := by rw [Nat.pow_succ, Nat.mod_mul]
    rw [big, num_cons, big_length, ih, UInt8.toNat_ofNat', e]
    show (x / 256 ^ n) % 256 * 256 ^ n + x % 256 ^ n = _
    rw [Nat.mul_comm (256 ^ n)]
    omega
theorem num_big_of {x n : Nat} (h : x < 256 ^ n) : num (big x n) = x := by rw [num_big, Nat.mod_eq_of_lt h]
theorem big_add_mul (x a n m : Nat) (h : m ≤ n) : big (a * 256 ^ n + x) m = big x m := by
  induction m with
  | zero => rfl
  | succ m ih =>
    rw [big, big, ih (by omega)]
    congr 1
    have e : 256 ^ n = 256 ^ m * (256 * 256 ^ (n - m - 1)) := by
      rw [← Nat.pow_succ', ← Nat.pow_add]
      congr 1
      omega
    rw [e, ← Nat.mul_assoc, Nat.mul_comm a, Nat.mul_assoc, Nat.mul_add_div (Nat.pow_pos (by omega))]
    apply UInt8.toNat_inj.1
    rw [UInt8.toNat_ofNat', UInt8.toNat_ofNat']
    show (a * (256 * 256 ^ (n - m - 1)) + x / 256 ^ m) % 256 = _
    rw [← Nat.mul_assoc, Nat.mul_comm a 256, Nat.mul_assoc, Nat.mul_add_mod]
theorem big_num (l : List UInt8) : big (num l) l.length = l := by
  induction l with
  | nil => rfl
  | cons b l ih =>
    rw [List.length_cons, big, num_cons, big_add_mul _ _ _ _ (Nat.le_refl _), ih]
    congr 1
    apply UInt8.toNat_inj.1
    have hb := b.toNat_lt
    have hl := num_lt l
    rw [UInt8.toNat_ofNat', Nat.mul_comm, Nat.mul_add_div (Nat.pow_pos (by omega)), Nat.div_eq_of_lt hl]
    omega

structure Fld where
  kind : Int
  n : Int
  s : ByteArray
/-- its numbers fit -/
def Fld.ok (f : Fld) : Prop := -9223372036854775808 ≤ f.kind ∧ f.kind ≤ 9223372036854775807 ∧ -9223372036854775808 ≤ f.n ∧ f.n ≤ 9223372036854775807 ∧ f.s.size ≤ 9223372036854775807
def Fld.right (f : Fld) : Bool := (f.kind == 1 && f.s.size == 0) || (f.kind == 2 && (f.n == 0 && decide (f.s.size ≤ 4096)))

def nat64 (n : Int) : Nat := (n % 18446744073709551616).toNat
def i64 (x : Nat) : Int := if x < 9223372036854775808 then (x : Int) else (x : Int) - 18446744073709551616
theorem u64_lt (n : Int) : nat64 n < 18446744073709551616 := by unfold nat64; omega
theorem i64_u64 {n : Int} (h0 : -9223372036854775808 ≤ n) (h1 : n ≤ 9223372036854775807) : i64 (nat64 n) = n := by
  unfold i64 nat64
  split <;> omega
theorem u64_i64 {x : Nat} (h : x < 18446744073709551616) : nat64 (i64 x) = x := by
  unfold i64 nat64
  split <;> omega
theorem i64_bd {x : Nat} (h : x < 18446744073709551616) : -9223372036854775808 ≤ i64 x ∧ i64 x ≤ 9223372036854775807 := by
  unfold i64
  split <;> omega

def encF (f : Fld) : List UInt8 := if f.kind = 1 then 1 :: big (nat64 f.n) 8 else 2 :: (big f.s.size 2 ++ f.s.data.toList)
def encZ (fs : List Fld) : List UInt8 := big fs.length 2 ++ fs.flatMap encF
/-- what Encode answers: the bytes, or what is wrong -/
def enc (fs : List Fld) : Except Nat (List UInt8) := if 32767 < fs.length ∨ fs.all Fld.right = false then .error 1 else .ok (encZ fs)

def err {α : Type} : Except Nat α → Nat
  | .error e => e
  | .ok _ => 0
def got {α : Type} : Except Nat (List α) → List α
  | .error _ => []
  | .ok l => l

def takeF : List UInt8 → Except Nat (Fld × List UInt8)
  | [] => .error 2
  | k :: r =>
    if k = 1 then (if r.length < 8 then .error 2 else .ok (⟨1, i64 (num (r.take 8)), ⟨#[]⟩⟩, r.drop 8))
    else if k = 2 then
      (if r.length < 2 then .error 2
       else if 4096 < num (r.take 2) then .error 3
       else if (r.drop 2).length < num (r.take 2) then .error 2
       else .ok (⟨2, 0, ⟨((r.drop 2).take (num (r.take 2))).toArray⟩⟩, (r.drop 2).drop (num (r.take 2))))
    else .error 3
def takeN : Nat → List UInt8 → Except Nat (List Fld × List UInt8)
  | 0, b => .ok ([], b)
  | n + 1, b => match takeF b with
    | .error e => .error e
    | .ok (f, r) => match takeN n r with
      | .error e => .error e
      | .ok (fs, r') => .ok (f :: fs, r')
/-- what Decode answers: the fields, or what is wrong first -/
def dec (b : List UInt8) : Except Nat (List Fld) :=
  if b.length < 2 then .error 2
  else if 32767 < num (b.take 2) then .error 3
  else match takeN (num (b.take 2)) (b.drop 2) with
    | .error e => .error e
    | .ok (fs, r) => if 0 < r.length then .error 3 else .ok fs

/-! ### a field that is read -/
theorem takeF_nil : takeF [] = .error 2 := rfl
theorem takeF_int {r : List UInt8} (h : 8 ≤ r.length) : takeF (1 :: r) = .ok (⟨1, i64 (num (r.take 8)), ⟨#[]⟩⟩, r.drop 8) := by
  rw [takeF, if_pos rfl, if_neg (by omega)]
theorem takeF_int_short {r : List UInt8} (h : r.length < 8) : takeF (1 :: r) = .error 2 := by
  rw [takeF, if_pos rfl, if_pos h]
theorem takeF_text {r : List UInt8} (h : 2 ≤ r.length) (h1 : num (r.take 2) ≤ 4096) (h2 : num (r.take 2) ≤ (r.drop 2).length) :
    takeF (2 :: r) = .ok (⟨2, 0, ⟨((r.drop 2).take (num (r.take 2))).toArray⟩⟩, (r.drop 2).drop (num (r.take 2))) := by
  rw [takeF, if_neg (by decide), if_pos rfl, if_neg (by omega), if_neg (by omega), if_neg (by omega)]
theorem takeF_text_short {r : List UInt8} (h : r.length < 2) : takeF (2 :: r) = .error 2 := by
  rw [takeF, if_neg (by decide), if_pos rfl, if_pos h]
theorem takeF_text_long {r : List UInt8} (h : 2 ≤ r.length) (h1 : 4096 < num (r.take 2)) : takeF (2 :: r) = .error 3 := by
  rw [takeF, if_neg (by decide), if_pos rfl, if_neg (by omega), if_pos h1]
theorem takeF_text_lacks {r : List UInt8} (h : 2 ≤ r.length) (h1 : num (r.take 2) ≤ 4096) (h2 : (r.drop 2).length < num (r.take 2)) : takeF (2 :: r) = .error 2 := by
  rw [takeF, if_neg (by decide), if_pos rfl, if_neg (by omega), if_neg (by omega), if_pos h2]
theorem takeF_other {k : UInt8} {r : List UInt8} (h1 : k ≠ 1) (h2 : k ≠ 2) : takeF (k :: r) = .error 3 := by
  rw [takeF, if_neg h1, if_neg h2]
theorem takeF_err {b : List UInt8} {e : Nat} (h : takeF b = .error e) : e = 2 ∨ e = 3 := by
  cases b with
  | nil => rw [takeF_nil] at h; injection h with h; omega
  | cons k r =>
    rw [takeF] at h
    split at h
    · split at h
      · injection h with h; omega
      · cases h
    · split at h
      · split at h
        · injection h with h; omega
        · split at h
          · injection h with h; omega
          · split at h
            · injection h with h; omega
            · cases h
      · injection h with h; omega
theorem pow2_8 : 256 ^ 8 = 18446744073709551616 := by decide
theorem num8_lt {r : List UInt8} (h : 8 ≤ r.length) : num (r.take 8) < 18446744073709551616 := by
  have := num_lt (r.take 8)
  rw [List.length_take, Nat.min_eq_left h, pow2_8] at this
  exact this
theorem num2_lt {r : List UInt8} (h : 2 ≤ r.length) : num (r.take 2) < 65536 := by
  have := num_lt (r.take 2)
  rw [List.length_take, Nat.min_eq_left h] at this
  omega

/-- what was read is right, and its bytes are those that were read -/
theorem takeF_ok {b r : List UInt8} {f : Fld} (h : takeF b = .ok (f, r)) : b = encF f ++ r ∧ f.right = true ∧ f.ok := by
  cases b with
  | nil => rw [takeF_nil] at h; cases h
  | cons k q =>
    rw [takeF] at h
    split at h
    · rename_i hk
      split at h
      · cases h
      · rename_i hq
        injection h with h
        simp only [Prod.mk.injEq] at h
        obtain ⟨rfl, rfl⟩ := h
        have hq8 : 8 ≤ q.length := by omega
        have hb := i64_bd (num8_lt hq8)
        refine ⟨?_, rfl, ⟨by show (-9223372036854775808 : Int) ≤ 1; omega, by show (1 : Int) ≤ _; omega, hb.1, hb.2, by show (0 : Nat) ≤ _; omega⟩⟩
        rw [encF, if_pos rfl]
        show k :: q = 1 :: (big (nat64 (i64 (num (q.take 8)))) 8 ++ q.drop 8)
        have hl : (q.take 8).length = 8 := by rw [List.length_take]; omega
        have e : big (num (q.take 8)) 8 = q.take 8 := by have := big_num (q.take 8); rw [hl] at this; exact this
        rw [u64_i64 (num8_lt hq8), e, List.take_append_drop, hk]
    · split at h
      · rename_i hk1 hk
        split at h
        · cases h
        · rename_i hq
          split at h
          · cases h
          · rename_i hm
            split at h
            · cases h
            · rename_i hd
              injection h with h
              simp only [Prod.mk.injEq] at h
              obtain ⟨rfl, rfl⟩ := h
              have hs : ((⟨((q.drop 2).take (num (q.take 2))).toArray⟩ : ByteArray)).size = num (q.take 2) := by
                show ((q.drop 2).take (num (q.take 2))).length = _
                rw [List.length_take]; omega
              refine ⟨?_, ?_, ⟨by show (-9223372036854775808 : Int) ≤ 2; omega, by show (2 : Int) ≤ _; omega, by show (-9223372036854775808 : Int) ≤ 0; omega, by show (0 : Int) ≤ _; omega, by show ByteArray.size _ ≤ _; rw [hs]; omega⟩⟩
              · rw [encF, if_neg (by show ¬ (2 : Int) = 1; decide)]
                show k :: q = 2 :: ((big (ByteArray.size _) 2 ++ (q.drop 2).take (num (q.take 2))) ++ (q.drop 2).drop (num (q.take 2)))
                have hl : (q.take 2).length = 2 := by rw [List.length_take]; omega
                have e : big (num (q.take 2)) 2 = q.take 2 := by have := big_num (q.take 2); rw [hl] at this; exact this
                rw [hs, e, List.append_assoc, List.take_append_drop, List.take_append_drop, hk]
              · show ((2 : Int) == 1 && _ || ((2 : Int) == 2 && ((0 : Int) == 0 && decide (ByteArray.size _ ≤ 4096)))) = true
                rw [hs]
                simp
                omega
      · cases h

theorem takeN_ok {n : Nat} {b r : List UInt8} {fs : List Fld} (h : takeN n b = .ok (fs, r)) : b = fs.flatMap encF ++ r ∧ fs.length = n ∧ (∀ f ∈ fs, f.right = true ∧ f.ok) := by
  induction n generalizing b fs r with
  | zero =>
    rw [takeN] at h
    injection h with h
    simp only [Prod.mk.injEq] at h
    obtain ⟨rfl, rfl⟩ := h
    exact ⟨rfl, rfl, fun f hf => by cases hf⟩
  | succ n ih =>
    rw [takeN] at h
    split at h
    · cases h
    · rename_i f q hf
      split at h
      · cases h
      · rename_i gs q' hg
        injection h with h
        simp only [Prod.mk.injEq] at h
        obtain ⟨rfl, rfl⟩ := h
        obtain ⟨rfl, h2, h3⟩ := takeF_ok hf
        obtain ⟨rfl, h4, h5⟩ := ih hg
        refine ⟨by rw [List.flatMap_cons, List.append_assoc], by rw [List.length_cons, h4], fun x hx => ?_⟩
        rcases List.mem_cons.1 hx with rfl | hx
        · exact ⟨h2, h3⟩
        · exact h5 x hx

/-- what is decoded is right, and is encoded as the same bytes -/
theorem dec_ok {b : List UInt8} {fs : List Fld} (h : dec b = .ok fs) : enc fs = .ok b ∧ (∀ f ∈ fs, f.right = true ∧ f.ok) ∧ fs.length ≤ 32767 := by
  unfold dec at h
  split at h
  · cases h
  · split at h
    · cases h
    · rename_i hl hn
      split at h
      · cases h
      · rename_i gs r hg
        split at h
        · cases h
        · rename_i hr
          injection h with h
          subst h
          obtain ⟨h1, h2, h3⟩ := takeN_ok hg
          have hr0 : r = [] := List.eq_nil_of_length_eq_zero (by omega)
          subst hr0
          have hall : gs.all Fld.right = true := List.all_eq_true.2 fun f hf => (h3 f hf).1
          refine ⟨?_, h3, by omega⟩
          unfold enc
          rw [if_neg (by rw [hall]; simp; omega)]
          congr 1
          rw [encZ, h2]
          have hl2 : (b.take 2).length = 2 := by rw [List.length_take]; omega
          have e : big (num (b.take 2)) 2 = b.take 2 := by have := big_num (b.take 2); rw [hl2] at this; exact this
          rw [List.append_nil] at h1
          rw [e, ← h1, List.take_append_drop]

/-! ### what is encoded is decoded -/
theorem right_cases {f : Fld} (h : f.right = true) : (f.kind = 1 ∧ f.s.size = 0) ∨ (f.kind = 2 ∧ f.n = 0 ∧ f.s.size ≤ 4096) := by
  unfold Fld.right at h
  simp only [Bool.or_eq_true, Bool.and_eq_true, beq_iff_eq, decide_eq_true_eq] at h
  exact h
theorem empty_of_size {s : ByteArray} (h : s.size = 0) : s = ⟨#[]⟩ := by
  obtain ⟨⟨l⟩⟩ := s
  have : l = [] := List.eq_nil_of_length_eq_zero h
  subst this
  rfl
theorem list_size (s : ByteArray) : s.data.toList.length = s.size := by
  obtain ⟨⟨l⟩⟩ := s
  rfl
theorem list_str (s : ByteArray) : (⟨s.data.toList.toArray⟩ : ByteArray) = s := by
  obtain ⟨⟨l⟩⟩ := s
  rfl
theorem take_app {α : Type} (l m : List α) {n : Nat} (h : l.length = n) : (l ++ m).take n = l := by subst h; exact List.take_left
theorem drop_app {α : Type} (l m : List α) {n : Nat} (h : l.length = n) : (l ++ m).drop n = m := by subst h; exact List.drop_left
theorem takeF_enc {f : Fld} (h : f.right = true) (hk : f.ok) (r : List UInt8) : takeF (encF f ++ r) = .ok (f, r) := by
  obtain ⟨k, n, s⟩ := f
  rcases right_cases h with ⟨h1, h2⟩ | ⟨h1, h2, h3⟩
  · simp only at h1 h2
    subst h1
    have hs := empty_of_size h2
    subst hs
    rw [encF, if_pos rfl]
    show takeF (1 :: (big (nat64 n) 8 ++ r)) = _
    rw [takeF_int (by rw [List.length_append, big_length]; omega), take_app _ _ (big_length _ _), drop_app _ _ (big_length _ _), num_big_of (by rw [pow2_8]; exact u64_lt n), i64_u64 hk.2.2.1 hk.2.2.2.1]
  · simp only at h1 h2 h3
    subst h1 h2
    rw [encF, if_neg (by show ¬ (2 : Int) = 1; decide)]
    show takeF (2 :: ((big s.size 2 ++ s.data.toList) ++ r)) = _
    rw [List.append_assoc]
    have h4 : num ((big s.size 2 ++ (s.data.toList ++ r)).take 2) = s.size := by rw [take_app _ _ (big_length _ _), num_big_of (by omega)]
    have h5 : (big s.size 2 ++ (s.data.toList ++ r)).drop 2 = s.data.toList ++ r := drop_app _ _ (big_length _ _)
    rw [takeF_text (by rw [List.length_append, big_length]; omega) (by rw [h4]; exact h3) (by rw [h4, h5, List.length_append, list_size]; omega), h4, h5, take_app _ _ (list_size s), drop_app _ _ (list_size s), list_str]
theorem takeN_enc (fs : List Fld) (h : ∀ f ∈ fs, f.right = true ∧ f.ok) (r : List UInt8) : takeN fs.length (fs.flatMap encF ++ r) = .ok (fs, r) := by
  induction fs with
  | nil => rfl
  | cons f fs ih =>
    have hf := h f (List.mem_cons_self ..)
    rw [List.length_cons, List.flatMap_cons, List.append_assoc, takeN, takeF_enc hf.1 hf.2]
    simp only []
    rw [ih fun g hg => h g (List.mem_cons_of_mem _ hg)]
theorem encZ_two (fs : List Fld) : 2 ≤ (encZ fs).length := by rw [encZ, List.length_append, big_length]; omega
theorem encZ_num {fs : List Fld} (hl : fs.length ≤ 32767) (r : List UInt8) : num ((encZ fs ++ r).take 2) = fs.length ∧ (encZ fs ++ r).drop 2 = fs.flatMap encF ++ r := by
  rw [encZ, List.append_assoc]
  exact ⟨by rw [take_app _ _ (big_length _ _), num_big_of (by omega)], drop_app _ _ (big_length _ _)⟩
theorem dec_enc_more {fs : List Fld} (hl : fs.length ≤ 32767) (h : ∀ f ∈ fs, f.right = true ∧ f.ok) (r : List UInt8) : dec (encZ fs ++ r) = if 0 < r.length then .error 3 else .ok fs := by
  have h2 := encZ_two fs
  obtain ⟨h3, h4⟩ := encZ_num hl r
  unfold dec
  rw [if_neg (by rw [List.length_append]; omega), h3, if_neg (by omega), h4, takeN_enc fs h]
theorem dec_enc {fs : List Fld} (hl : fs.length ≤ 32767) (h : ∀ f ∈ fs, f.right = true ∧ f.ok) : dec (encZ fs) = .ok fs := by
  have := dec_enc_more hl h []
  rw [List.append_nil] at this
  exact this
theorem enc_right {fs : List Fld} (hl : fs.length ≤ 32767) (h : ∀ f ∈ fs, f.right = true ∧ f.ok) : enc fs = .ok (encZ fs) := by
  unfold enc
  have hall : fs.all Fld.right = true := List.all_eq_true.2 fun f hf => (h f hf).1
  rw [if_neg (by rw [hall]; simp; omega)]

/-! ### cut off -/
theorem takeF_cut {f : Fld} (h : f.right = true) {k : Nat} (hk : k < (encF f).length) : takeF ((encF f).take k) = .error 2 := by
  obtain ⟨kd, n, s⟩ := f
  cases k with
  | zero => rw [List.take_zero, takeF_nil]
  | succ k =>
    rcases right_cases h with ⟨h1, h2⟩ | ⟨h1, h2, h3⟩
    · simp only at h1
      subst h1
      rw [encF, if_pos rfl] at hk ⊢
      rw [List.length_cons, big_length] at hk
      rw [List.take_succ_cons, takeF_int_short (by rw [List.length_take, big_length]; omega)]
    · simp only at h1 h2 h3
      subst h1
      rw [encF, if_neg (by show ¬ (2 : Int) = 1; decide)] at hk ⊢
      rw [List.length_cons, List.length_append, big_length] at hk
      have hk : k + 1 < 2 + s.data.toList.length + 1 := hk
      rw [list_size] at hk
      rw [List.take_succ_cons]
      show takeF (2 :: (big s.size 2 ++ s.data.toList).take k) = _
      by_cases h4 : k < 2
      · exact takeF_text_short (by rw [List.length_take]; omega)
      · have h5 : (big s.size 2 ++ s.data.toList).take k = big s.size 2 ++ s.data.toList.take (k - 2) := by
          rw [List.take_append, big_length, List.take_of_length_le (by rw [big_length]; omega)]
        rw [h5]
        have h6 : num ((big s.size 2 ++ s.data.toList.take (k - 2)).take 2) = s.size := by rw [take_app _ _ (big_length _ _), num_big_of (by omega)]
        exact takeF_text_lacks (by rw [List.length_append, big_length]; omega) (by rw [h6]; exact h3) (by rw [h6, drop_app _ _ (big_length _ _), List.length_take, list_size]; omega)
theorem takeN_cut {fs : List Fld} (h : ∀ f ∈ fs, f.right = true ∧ f.ok) {k : Nat} (hk : k < (fs.flatMap encF).length) : takeN fs.length ((fs.flatMap encF).take k) = .error 2 := by
  induction fs generalizing k with
  | nil => simp at hk
  | cons f fs ih =>
    have hf := h f (List.mem_cons_self ..)
    rw [List.flatMap_cons, List.length_append] at hk
    rw [List.flatMap_cons, List.length_cons, takeN]
    by_cases h1 : k < (encF f).length
    · rw [List.take_append_of_le_length (by omega), takeF_cut hf.1 h1]
    · rw [List.take_append, List.take_of_length_le (by omega), takeF_enc hf.1 hf.2]
      simp only []
      rw [ih (fun g hg => h g (List.mem_cons_of_mem _ hg)) (by omega)]
theorem dec_cut {fs : List Fld} (hl : fs.length ≤ 32767) (h : ∀ f ∈ fs, f.right = true ∧ f.ok) {k : Nat} (hk : k < (encZ fs).length) : dec ((encZ fs).take k) = .error 2 := by
  unfold dec
  by_cases h1 : k < 2
  · rw [if_pos (by rw [List.length_take]; omega)]
  · have h2 := encZ_two fs
    have h3 : (encZ fs).take k = big fs.length 2 ++ (fs.flatMap encF).take (k - 2) := by
      rw [encZ, List.take_append, big_length, List.take_of_length_le (by rw [big_length]; omega)]
    rw [encZ, List.length_append, big_length] at hk
    rw [if_neg (by rw [List.length_take]; omega), h3, take_app _ _ (big_length _ _), drop_app _ _ (big_length _ _), num_big_of (by omega), if_neg (by omega), takeN_cut h (by omega)]
end Go.Proofs.Ythffmojmfghbiaa.FieldMath
