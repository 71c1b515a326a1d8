/-
  Plain mathematics, of no program, text behind text.
  Plain mathematics of fields and their bytes, of no program: a number's bytes, the highest first, and back; a field's bytes; what bytes are read as, and what is wrong with them first.
  Plain mathematics of CRC-32 (reflected, 0xEDB88320) over natural numbers, with no program in it: one step, eight steps, a row of bytes;
  it does not matter how bytes are parted; rows of one length that differ by a pattern of at most 32 bits have unlike sums.
  Plain mathematics of records, of no program: what a record's bytes are, what is taken off the front of bytes, or what is wrong with them first, and the records that stand one behind the other.
  Plain mathematics of a log's segment, of no program: its head's bytes, and what bytes are read as.
  Plain mathematics of a disk with power loss: files by rising numbers, how many of their bytes are safe, operations, power, crashes. No program.
  Plain mathematics of a log in segments, of no program: what is written for an entry, and where; what a log does to its disk; how files are opened as a log; what is there behind a cut, or a crash.
  Plain mathematics of a log that goes on as it should, of no program: what an Append makes of a log and its disk, wherever power goes; what is there when files whose last one is cut off are opened.
  Plain mathematics of opening a log, of no program: files whose last one is cut off anywhere are opened as the entries that are whole; a crash leaves such files.
  Plain mathematics of crashes of a log's disk, of no program: what Append told is there behind a crash, and at most the one that was on the way.
  Plain mathematics of a Tear, and of a last file that is cut, of no program: a write that broke off is taken away by the next one, and by a crash; a log that goes on without power going.
-/
import Derived.Laws.BitsAllLaws
import Derived.Lib.Hide
namespace Go.Proofs.Ytlkjmdkmcaaihaa.FieldMath

def big (x : Nat) : Nat → List UInt8
  | 0 => []
  | n + 1 => UInt8.ofNat (x / 256 ^ n) :: big x n
def num (l : List UInt8) : Nat := l.foldl (fun a b => a * 256 + b.toNat) 0

theorem big_length (x n : Nat) : (big x n).length = n := by
  induction n with
  | zero => rfl
  | succ n ih => rw [big, List.length_cons, ih]
theorem num_nil : num [] = 0 := rfl
theorem num_snoc (l : List UInt8) (b : UInt8) : num (l ++ [b]) = num l * 256 + b.toNat := by
  unfold num
  rw [List.foldl_append]
  rfl
theorem fold_num (l : List UInt8) (a : Nat) : l.foldl (fun a b => a * 256 + b.toNat) a = a * 256 ^ l.length + num l := by
  unfold num
  induction l generalizing a with
  | nil => simp
  | cons b l ih =>
    rw [List.foldl_cons, ih, List.foldl_cons, ih (0 * 256 + b.toNat), List.length_cons, Nat.pow_succ]
    simp [Nat.add_mul, Nat.mul_assoc, Nat.mul_comm (256 ^ l.length) 256]
    omega
theorem num_cons (b : UInt8) (l : List UInt8) : num (b :: l) = b.toNat * 256 ^ l.length + num l := by
  unfold num
  rw [List.foldl_cons, fold_num]
  unfold num
  simp
theorem num_lt (l : List UInt8) : num l < 256 ^ l.length := by
  induction l with
  | nil => decide
  | cons b l ih =>
    rw [num_cons, List.length_cons, Nat.pow_succ]
    have hb := b.toNat_lt
    have h1 : b.toNat * 256 ^ l.length ≤ 255 * 256 ^ l.length := Nat.mul_le_mul_right _ (by omega)
    omega
theorem num_big (x n : Nat) : num (big x n) = x % 256 ^ n := by
  induction n with
  | zero => rw [big, num_nil, Nat.pow_zero, Nat.mod_one]
  | succ n ih =>
    have e : x % 256 ^ (n + 1) = x % 256 ^ n + 256 ^ n * (x / 256 ^ n % 256) := by rw [Nat.pow_succ, Nat.mod_mul]
    rw [big, num_cons, big_length, ih, UInt8.toNat_ofNat', e]
    show (x / 256 ^ n) % 256 * 256 ^ n + x % 256 ^ n = _
    rw [Nat.mul_comm (256 ^ n)]
    omega
theorem num_big_of {x n : Nat} (h : x < 256 ^ n) : num (big x n) = x := by rw [num_big, Nat.mod_eq_of_lt h]
theorem big_add_mul (x a n m : Nat) (h : m ≤ n) : big (a * 256 ^ n + x) m = big x m := by
  induction m with
  | zero => rfl
  | succ m ih =>
    rw [big, big, ih (by omega)]
    congr 1
    have e : 256 ^ n = 256 ^ m * (256 * 256 ^ (n - m - 1)) := by
      rw [← Nat.pow_succ', ← Nat.pow_add]
      congr 1
      omega
    rw [e, ← Nat.mul_assoc, Nat.mul_comm a, Nat.mul_assoc, Nat.mul_add_div (Nat.pow_pos (by omega))]
    apply UInt8.toNat_inj.1
    rw [UInt8.toNat_ofNat', UInt8.toNat_ofNat']
    show (a * (256 * 256 ^ (n - m - 1)) + x / 256 ^ m) % 256 = _
    rw [← Nat.mul_assoc, Nat.mul_comm a 256, Nat.mul_assoc, Nat.mul_add_mod]
theorem big_num (l : List UInt8) : big (num l) l.length = l := by
  induction l with
  | nil => rfl
  | cons b l ih =>
    rw [List.length_cons, big, num_cons, big_add_mul _ _ _ _ (Nat.le_refl _), ih]
    congr 1
    apply UInt8.toNat_inj.1
    have hb := b.toNat_lt
    have hl := num_lt l
    rw [UInt8.toNat_ofNat', Nat.mul_comm, Nat.mul_add_div (Nat.pow_pos (by omega)), Nat.div_eq_of_lt hl]
    omega

structure Fld where
  kind : Int
  n : Int
  s : ByteArray
/-- its numbers fit -/
def Fld.ok (f : Fld) : Prop := -9223372036854775808 ≤ f.kind ∧ f.kind ≤ 9223372036854775807 ∧ -9223372036854775808 ≤ f.n ∧ f.n ≤ 9223372036854775807 ∧ f.s.size ≤ 9223372036854775807
def Fld.right (f : Fld) : Bool := (f.kind == 1 && f.s.size == 0) || (f.kind == 2 && (f.n == 0 && decide (f.s.size ≤ 4096)))

def nat64 (n : Int) : Nat := (n % 18446744073709551616).toNat
def i64 (x : Nat) : Int := if x < 9223372036854775808 then (x : Int) else (x : Int) - 18446744073709551616
theorem u64_lt (n : Int) : nat64 n < 18446744073709551616 := by unfold nat64; omega
theorem i64_u64 {n : Int} (h0 : -9223372036854775808 ≤ n) (h1 : n ≤ 9223372036854775807) : i64 (nat64 n) = n := by
  unfold i64 nat64
  split <;> omega
theorem u64_i64 {x : Nat} (h : x < 18446744073709551616) : nat64 (i64 x) = x := by
  unfold i64 nat64
  split <;> omega
theorem i64_bd {x : Nat} (h : x < 18446744073709551616) : -9223372036854775808 ≤ i64 x ∧ i64 x ≤ 9223372036854775807 := by
  unfold i64
  split <;> omega

def encF (f : Fld) : List UInt8 := if f.kind = 1 then 1 :: big (nat64 f.n) 8 else 2 :: (big f.s.size 2 ++ f.s.data.toList)
def encZ (fs : List Fld) : List UInt8 := big fs.length 2 ++ fs.flatMap encF
/-- what Encode answers: the bytes, or what is wrong -/
def enc (fs : List Fld) : Except Nat (List UInt8) := if 32767 < fs.length ∨ fs.all Fld.right = false then .error 1 else .ok (encZ fs)

def err {α : Type} : Except Nat α → Nat
  | .error e => e
  | .ok _ => 0
def got {α : Type} : Except Nat (List α) → List α
  | .error _ => []
  | .ok l => l

def takeF : List UInt8 → Except Nat (Fld × List UInt8)
  | [] => .error 2
  | k :: r =>
    if k = 1 then (if r.length < 8 then .error 2 else .ok (⟨1, i64 (num (r.take 8)), ⟨#[]⟩⟩, r.drop 8))
    else if k = 2 then
      (if r.length < 2 then .error 2
       else if 4096 < num (r.take 2) then .error 3
       else if (r.drop 2).length < num (r.take 2) then .error 2
       else .ok (⟨2, 0, ⟨((r.drop 2).take (num (r.take 2))).toArray⟩⟩, (r.drop 2).drop (num (r.take 2))))
    else .error 3
def takeN : Nat → List UInt8 → Except Nat (List Fld × List UInt8)
  | 0, b => .ok ([], b)
  | n + 1, b => match takeF b with
    | .error e => .error e
    | .ok (f, r) => match takeN n r with
      | .error e => .error e
      | .ok (fs, r') => .ok (f :: fs, r')
/-- what Decode answers: the fields, or what is wrong first -/
def dec (b : List UInt8) : Except Nat (List Fld) :=
  if b.length < 2 then .error 2
  else if 32767 < num (b.take 2) then .error 3
  else match takeN (num (b.take 2)) (b.drop 2) with
    | .error e => .error e
    | .ok (fs, r) => if 0 < r.length then .error 3 else .ok fs

/-! ### a field that is read -/
theorem takeF_nil : takeF [] = .error 2 := rfl
theorem takeF_int {r : List UInt8} (h : 8 ≤ r.length) : takeF (1 :: r) = .ok (⟨1, i64 (num (r.take 8)), ⟨#[]⟩⟩, r.drop 8) := by
  rw [takeF, if_pos rfl, if_neg (by omega)]
theorem takeF_int_short {r : List UInt8} (h : r.length < 8) : takeF (1 :: r) = .error 2 := by
  rw [takeF, if_pos rfl, if_pos h]
theorem takeF_text {r : List UInt8} (h : 2 ≤ r.length) (h1 : num (r.take 2) ≤ 4096) (h2 : num (r.take 2) ≤ (r.drop 2).length) :
    takeF (2 :: r) = .ok (⟨2, 0, ⟨((r.drop 2).take (num (r.take 2))).toArray⟩⟩, (r.drop 2).drop (num (r.take 2))) := by
  rw [takeF, if_neg (by decide), if_pos rfl, if_neg (by omega), if_neg (by omega), if_neg (by omega)]
theorem takeF_text_short {r : List UInt8} (h : r.length < 2) : takeF (2 :: r) = .error 2 := by
  rw [takeF, if_neg (by decide), if_pos rfl, if_pos h]
theorem takeF_text_long {r : List UInt8} (h : 2 ≤ r.length) (h1 : 4096 < num (r.take 2)) : takeF (2 :: r) = .error 3 := by
  rw [takeF, if_neg (by decide), if_pos rfl, if_neg (by omega), if_pos h1]
theorem takeF_text_lacks {r : List UInt8} (h : 2 ≤ r.length) (h1 : num (r.take 2) ≤ 4096) (h2 : (r.drop 2).length < num (r.take 2)) : takeF (2 :: r) = .error 2 := by
  rw [takeF, if_neg (by decide), if_pos rfl, if_neg (by omega), if_neg (by omega), if_pos h2]
theorem takeF_other {k : UInt8} {r : List UInt8} (h1 : k ≠ 1) (h2 : k ≠ 2) : takeF (k :: r) = .error 3 := by
  rw [takeF, if_neg h1, if_neg h2]
theorem takeF_err {b : List UInt8} {e : Nat} (h : takeF b = .error e) : e = 2 ∨ e = 3 := by
  cases b with
  | nil => rw [takeF_nil] at h; injection h with h; omega
  | cons k r =>
    rw [takeF] at h
    split at h
    · split at h
      · injection h with h; omega
      · cases h
    · split at h
      · split at h
        · injection h with h; omega
        · split at h
          · injection h with h; omega
          · split at h
            · injection h with h; omega
            · cases h
      · injection h with h; omega
theorem pow2_8 : 256 ^ 8 = 18446744073709551616 := by decide
theorem num8_lt {r : List UInt8} (h : 8 ≤ r.length) : num (r.take 8) < 18446744073709551616 := by
  have := num_lt (r.take 8)
  rw [List.length_take, Nat.min_eq_left h, pow2_8] at this
  exact this
theorem num2_lt {r : List UInt8} (h : 2 ≤ r.length) : num (r.take 2) < 65536 := by
  have := num_lt (r.take 2)
  rw [List.length_take, Nat.min_eq_left h] at this
  omega

/-- what was read is right, and its bytes are those that were read -/
theorem takeF_ok {b r : List UInt8} {f : Fld} (h : takeF b = .ok (f, r)) : b = encF f ++ r ∧ f.right = true ∧ f.ok := by
  cases b with
  | nil => rw [takeF_nil] at h; cases h
  | cons k q =>
    rw [takeF] at h
    split at h
    · rename_i hk
      split at h
      · cases h
      · rename_i hq
        injection h with h
        simp only [Prod.mk.injEq] at h
        obtain ⟨rfl, rfl⟩ := h
        have hq8 : 8 ≤ q.length := by omega
        have hb := i64_bd (num8_lt hq8)
        refine ⟨?_, rfl, ⟨by show (-9223372036854775808 : Int) ≤ 1; omega, by show (1 : Int) ≤ _; omega, hb.1, hb.2, by show (0 : Nat) ≤ _; omega⟩⟩
        rw [encF, if_pos rfl]
        show k :: q = 1 :: (big (nat64 (i64 (num (q.take 8)))) 8 ++ q.drop 8)
        have hl : (q.take 8).length = 8 := by rw [List.length_take]; omega
        have e : big (num (q.take 8)) 8 = q.take 8 := by have := big_num (q.take 8); rw [hl] at this; exact this
        rw [u64_i64 (num8_lt hq8), e, List.take_append_drop, hk]
    · split at h
      · rename_i hk1 hk
        split at h
        · cases h
        · rename_i hq
          split at h
          · cases h
          · rename_i hm
            split at h
            · cases h
            · rename_i hd
              injection h with h
              simp only [Prod.mk.injEq] at h
              obtain ⟨rfl, rfl⟩ := h
              have hs : ((⟨((q.drop 2).take (num (q.take 2))).toArray⟩ : ByteArray)).size = num (q.take 2) := by
                show ((q.drop 2).take (num (q.take 2))).length = _
                rw [List.length_take]; omega
              refine ⟨?_, ?_, ⟨by show (-9223372036854775808 : Int) ≤ 2; omega, by show (2 : Int) ≤ _; omega, by show (-9223372036854775808 : Int) ≤ 0; omega, by show (0 : Int) ≤ _; omega, by show ByteArray.size _ ≤ _; rw [hs]; omega⟩⟩
              · rw [encF, if_neg (by show ¬ (2 : Int) = 1; decide)]
                show k :: q = 2 :: ((big (ByteArray.size _) 2 ++ (q.drop 2).take (num (q.take 2))) ++ (q.drop 2).drop (num (q.take 2)))
                have hl : (q.take 2).length = 2 := by rw [List.length_take]; omega
                have e : big (num (q.take 2)) 2 = q.take 2 := by have := big_num (q.take 2); rw [hl] at this; exact this
                rw [hs, e, List.append_assoc, List.take_append_drop, List.take_append_drop, hk]
              · show ((2 : Int) == 1 && _ || ((2 : Int) == 2 && ((0 : Int) == 0 && decide (ByteArray.size _ ≤ 4096)))) = true
                rw [hs]
                simp
                omega
      · cases h

theorem takeN_ok {n : Nat} {b r : List UInt8} {fs : List Fld} (h : takeN n b = .ok (fs, r)) : b = fs.flatMap encF ++ r ∧ fs.length = n ∧ (∀ f ∈ fs, f.right = true ∧ f.ok) := by
  induction n generalizing b fs r with
  | zero =>
    rw [takeN] at h
    injection h with h
    simp only [Prod.mk.injEq] at h
    obtain ⟨rfl, rfl⟩ := h
    exact ⟨rfl, rfl, fun f hf => by cases hf⟩
  | succ n ih =>
    rw [takeN] at h
    split at h
    · cases h
    · rename_i f q hf
      split at h
      · cases h
      · rename_i gs q' hg
        injection h with h
        simp only [Prod.mk.injEq] at h
        obtain ⟨rfl, rfl⟩ := h
        obtain ⟨rfl, h2, h3⟩ := takeF_ok hf
        obtain ⟨rfl, h4, h5⟩ := ih hg
        refine ⟨by rw [List.flatMap_cons, List.append_assoc], by rw [List.length_cons, h4], fun x hx => ?_⟩
        rcases List.mem_cons.1 hx with rfl | hx
        · exact ⟨h2, h3⟩
        · exact h5 x hx

/-- what is decoded is right, and is encoded as the same bytes -/
theorem dec_ok {b : List UInt8} {fs : List Fld} (h : dec b = .ok fs) : enc fs = .ok b ∧ (∀ f ∈ fs, f.right = true ∧ f.ok) ∧ fs.length ≤ 32767 := by
  unfold dec at h
  split at h
  · cases h
  · split at h
    · cases h
    · rename_i hl hn
      split at h
      · cases h
      · rename_i gs r hg
        split at h
        · cases h
        · rename_i hr
          injection h with h
          subst h
          obtain ⟨h1, h2, h3⟩ := takeN_ok hg
          have hr0 : r = [] := List.eq_nil_of_length_eq_zero (by omega)
          subst hr0
          have hall : gs.all Fld.right = true := List.all_eq_true.2 fun f hf => (h3 f hf).1
          refine ⟨?_, h3, by omega⟩
          unfold enc
          rw [if_neg (by rw [hall]; simp; omega)]
          congr 1
          rw [encZ, h2]
          have hl2 : (b.take 2).length = 2 := by rw [List.length_take]; omega
          have e : big (num (b.take 2)) 2 = b.take 2 := by have := big_num (b.take 2); rw [hl2] at this; exact this
          rw [List.append_nil] at h1
          rw [e, ← h1, List.take_append_drop]

/-! ### what is encoded is decoded -/
theorem right_cases {f : Fld} (h : f.right = true) : (f.kind = 1 ∧ f.s.size = 0) ∨ (f.kind = 2 ∧ f.n = 0 ∧ f.s.size ≤ 4096) := by
  unfold Fld.right at h
  simp only [Bool.or_eq_true, Bool.and_eq_true, beq_iff_eq, decide_eq_true_eq] at h
  exact h
theorem empty_of_size {s : ByteArray} (h : s.size = 0) : s = ⟨#[]⟩ := by
  obtain ⟨⟨l⟩⟩ := s
  have : l = [] := List.eq_nil_of_length_eq_zero h
  subst this
  rfl
theorem list_size (s : ByteArray) : s.data.toList.length = s.size := by
  obtain ⟨⟨l⟩⟩ := s
  rfl
theorem list_str (s : ByteArray) : (⟨s.data.toList.toArray⟩ : ByteArray) = s := by
  obtain ⟨⟨l⟩⟩ := s
  rfl
theorem take_app {α : Type} (l m : List α) {n : Nat} (h : l.length = n) : (l ++ m).take n = l := by subst h; exact List.take_left
theorem drop_app {α : Type} (l m : List α) {n : Nat} (h : l.length = n) : (l ++ m).drop n = m := by subst h; exact List.drop_left
theorem takeF_enc {f : Fld} (h : f.right = true) (hk : f.ok) (r : List UInt8) : takeF (encF f ++ r) = .ok (f, r) := by
  obtain ⟨k, n, s⟩ := f
  rcases right_cases h with ⟨h1, h2⟩ | ⟨h1, h2, h3⟩
  · simp only at h1 h2
    subst h1
    have hs := empty_of_size h2
    subst hs
    rw [encF, if_pos rfl]
    show takeF (1 :: (big (nat64 n) 8 ++ r)) = _
    rw [takeF_int (by rw [List.length_append, big_length]; omega), take_app _ _ (big_length _ _), drop_app _ _ (big_length _ _), num_big_of (by rw [pow2_8]; exact u64_lt n), i64_u64 hk.2.2.1 hk.2.2.2.1]
  · simp only at h1 h2 h3
    subst h1 h2
    rw [encF, if_neg (by show ¬ (2 : Int) = 1; decide)]
    show takeF (2 :: ((big s.size 2 ++ s.data.toList) ++ r)) = _
    rw [List.append_assoc]
    have h4 : num ((big s.size 2 ++ (s.data.toList ++ r)).take 2) = s.size := by rw [take_app _ _ (big_length _ _), num_big_of (by omega)]
    have h5 : (big s.size 2 ++ (s.data.toList ++ r)).drop 2 = s.data.toList ++ r := drop_app _ _ (big_length _ _)
    rw [takeF_text (by rw [List.length_append, big_length]; omega) (by rw [h4]; exact h3) (by rw [h4, h5, List.length_append, list_size]; omega), h4, h5, take_app _ _ (list_size s), drop_app _ _ (list_size s), list_str]
theorem takeN_enc (fs : List Fld) (h : ∀ f ∈ fs, f.right = true ∧ f.ok) (r : List UInt8) : takeN fs.length (fs.flatMap encF ++ r) = .ok (fs, r) := by
  induction fs with
  | nil => rfl
  | cons f fs ih =>
    have hf := h f (List.mem_cons_self ..)
    rw [List.length_cons, List.flatMap_cons, List.append_assoc, takeN, takeF_enc hf.1 hf.2]
    simp only []
    rw [ih fun g hg => h g (List.mem_cons_of_mem _ hg)]
theorem encZ_two (fs : List Fld) : 2 ≤ (encZ fs).length := by rw [encZ, List.length_append, big_length]; omega
theorem encZ_num {fs : List Fld} (hl : fs.length ≤ 32767) (r : List UInt8) : num ((encZ fs ++ r).take 2) = fs.length ∧ (encZ fs ++ r).drop 2 = fs.flatMap encF ++ r := by
  rw [encZ, List.append_assoc]
  exact ⟨by rw [take_app _ _ (big_length _ _), num_big_of (by omega)], drop_app _ _ (big_length _ _)⟩
theorem dec_enc_more {fs : List Fld} (hl : fs.length ≤ 32767) (h : ∀ f ∈ fs, f.right = true ∧ f.ok) (r : List UInt8) : dec (encZ fs ++ r) = if 0 < r.length then .error 3 else .ok fs := by
  have h2 := encZ_two fs
  obtain ⟨h3, h4⟩ := encZ_num hl r
  unfold dec
  rw [if_neg (by rw [List.length_append]; omega), h3, if_neg (by omega), h4, takeN_enc fs h]
theorem dec_enc {fs : List Fld} (hl : fs.length ≤ 32767) (h : ∀ f ∈ fs, f.right = true ∧ f.ok) : dec (encZ fs) = .ok fs := by
  have := dec_enc_more hl h []
  rw [List.append_nil] at this
  exact this
theorem enc_right {fs : List Fld} (hl : fs.length ≤ 32767) (h : ∀ f ∈ fs, f.right = true ∧ f.ok) : enc fs = .ok (encZ fs) := by
  unfold enc
  have hall : fs.all Fld.right = true := List.all_eq_true.2 fun f hf => (h f hf).1
  rw [if_neg (by rw [hall]; simp; omega)]

/-! ### cut off -/
theorem takeF_cut {f : Fld} (h : f.right = true) {k : Nat} (hk : k < (encF f).length) : takeF ((encF f).take k) = .error 2 := by
  obtain ⟨kd, n, s⟩ := f
  cases k with
  | zero => rw [List.take_zero, takeF_nil]
  | succ k =>
    rcases right_cases h with ⟨h1, h2⟩ | ⟨h1, h2, h3⟩
    · simp only at h1
      subst h1
      rw [encF, if_pos rfl] at hk ⊢
      rw [List.length_cons, big_length] at hk
      rw [List.take_succ_cons, takeF_int_short (by rw [List.length_take, big_length]; omega)]
    · simp only at h1 h2 h3
      subst h1
      rw [encF, if_neg (by show ¬ (2 : Int) = 1; decide)] at hk ⊢
      rw [List.length_cons, List.length_append, big_length] at hk
      have hk : k + 1 < 2 + s.data.toList.length + 1 := hk
      rw [list_size] at hk
      rw [List.take_succ_cons]
      show takeF (2 :: (big s.size 2 ++ s.data.toList).take k) = _
      by_cases h4 : k < 2
      · exact takeF_text_short (by rw [List.length_take]; omega)
      · have h5 : (big s.size 2 ++ s.data.toList).take k = big s.size 2 ++ s.data.toList.take (k - 2) := by
          rw [List.take_append, big_length, List.take_of_length_le (by rw [big_length]; omega)]
        rw [h5]
        have h6 : num ((big s.size 2 ++ s.data.toList.take (k - 2)).take 2) = s.size := by rw [take_app _ _ (big_length _ _), num_big_of (by omega)]
        exact takeF_text_lacks (by rw [List.length_append, big_length]; omega) (by rw [h6]; exact h3) (by rw [h6, drop_app _ _ (big_length _ _), List.length_take, list_size]; omega)
theorem takeN_cut {fs : List Fld} (h : ∀ f ∈ fs, f.right = true ∧ f.ok) {k : Nat} (hk : k < (fs.flatMap encF).length) : takeN fs.length ((fs.flatMap encF).take k) = .error 2 := by
  induction fs generalizing k with
  | nil => simp at hk
  | cons f fs ih =>
    have hf := h f (List.mem_cons_self ..)
    rw [List.flatMap_cons, List.length_append] at hk
    rw [List.flatMap_cons, List.length_cons, takeN]
    by_cases h1 : k < (encF f).length
    · rw [List.take_append_of_le_length (by omega), takeF_cut hf.1 h1]
    · rw [List.take_append, List.take_of_length_le (by omega), takeF_enc hf.1 hf.2]
      simp only []
      rw [ih (fun g hg => h g (List.mem_cons_of_mem _ hg)) (by omega)]
theorem dec_cut {fs : List Fld} (hl : fs.length ≤ 32767) (h : ∀ f ∈ fs, f.right = true ∧ f.ok) {k : Nat} (hk : k < (encZ fs).length) : dec ((encZ fs).take k) = .error 2 := by
  unfold dec
  by_cases h1 : k < 2
  · rw [if_pos (by rw [List.length_take]; omega)]
  · have h2 := encZ_two fs
    have h3 : (encZ fs).take k = big fs.length 2 ++ (fs.flatMap encF).take (k - 2) := by
      rw [encZ, List.take_append, big_length, List.take_of_length_le (by rw [big_length]; omega)]
    rw [encZ, List.length_append, big_length] at hk
    rw [if_neg (by rw [List.length_take]; omega), h3, take_app _ _ (big_length _ _), drop_app _ _ (big_length _ _), num_big_of (by omega), if_neg (by omega), takeN_cut h (by omega)]
end Go.Proofs.Ytlkjmdkmcaaihaa.FieldMath

namespace Go.Proofs.Ytlkjmdkmcaaihaa.Crc

def stp (c : Nat) : Nat := if c % 2 = 1 then c / 2 ^^^ 3988292384 else c / 2
def it : Nat → Nat → Nat
  | 0, c => c
  | n + 1, c => it n (stp c)
def byt (c x : Nat) : Nat := it 8 (c ^^^ x)
def mor : Nat → List Nat → Nat
  | c, [] => c
  | c, x :: l => mor (byt c x) l

theorem stp_lt {c : Nat} (h : c < 4294967296) : stp c < 4294967296 := by
  unfold stp
  split
  · exact Nat.xor_lt_two_pow (n := 32) (by omega) (by omega)
  · omega
theorem it_lt {c : Nat} (n : Nat) (h : c < 4294967296) : it n c < 4294967296 := by
  induction n generalizing c with
  | zero => exact h
  | succ n ih => exact ih (stp_lt h)
theorem it_succ (n c : Nat) : it (n + 1) c = stp (it n c) := by
  induction n generalizing c with
  | zero => rfl
  | succ n ih => exact ih (stp c)
theorem it_add (m n c : Nat) : it (m + n) c = it m (it n c) := by
  induction n generalizing c with
  | zero => rfl
  | succ n ih => exact ih (stp c)
theorem mor_append (c : Nat) (l m : List Nat) : mor c (l ++ m) = mor (mor c l) m := by
  induction l generalizing c with
  | nil => rfl
  | cons x l ih => exact ih _
theorem xor_lt {a b : Nat} (ha : a < 4294967296) (hb : b < 4294967296) : a ^^^ b < 4294967296 :=
  Nat.xor_lt_two_pow (n := 32) ha hb
theorem mor_lt {c : Nat} (l : List Nat) (h : c < 4294967296) (hl : ∀ x ∈ l, x < 256) : mor c l < 4294967296 := by
  induction l generalizing c with
  | nil => exact h
  | cons x l ih =>
    have hx : x < 256 := hl x (by simp)
    exact ih (it_lt 8 (xor_lt h (by omega))) (fun y hy => hl y (by simp [hy]))

/-! ### linear -/
theorem stp_xor (a b : Nat) : stp (a ^^^ b) = stp a ^^^ stp b := by
  unfold stp
  have h1 : (a ^^^ b) / 2 = a / 2 ^^^ b / 2 := Nat.xor_div_two
  have h2 : (a ^^^ b) % 2 = 1 ↔ ¬ (a % 2 = 1 ↔ b % 2 = 1) := Nat.xor_mod_two_eq_one
  rw [h1]
  by_cases ha : a % 2 = 1 <;> by_cases hb : b % 2 = 1
  · rw [if_neg (by rw [h2]; simp [ha, hb]), if_pos ha, if_pos hb]
    rw [Nat.xor_assoc, ← Nat.xor_assoc 3988292384, Nat.xor_comm 3988292384 (b / 2), Nat.xor_assoc (b / 2), Nat.xor_self, Nat.xor_zero]
  · rw [if_pos (by rw [h2]; simp [ha, hb]), if_pos ha, if_neg hb]
    rw [Nat.xor_assoc, Nat.xor_comm (b / 2), ← Nat.xor_assoc]
  · rw [if_pos (by rw [h2]; simp [ha, hb]), if_neg ha, if_pos hb, Nat.xor_assoc]
  · rw [if_neg (by rw [h2]; simp [ha, hb]), if_neg ha, if_neg hb]
theorem it_xor (n a b : Nat) : it n (a ^^^ b) = it n a ^^^ it n b := by
  induction n generalizing a b with
  | zero => rfl
  | succ n ih => show it n (stp (a ^^^ b)) = it n (stp a) ^^^ it n (stp b); rw [stp_xor, ih]
theorem stp_even (m : Nat) : stp (2 * m) = m := by
  unfold stp
  rw [if_neg (by omega)]
  omega
theorem it_pow (n m : Nat) : it n (2 ^ n * m) = m := by
  induction n with
  | zero => simp [it]
  | succ n ih =>
    show it n (stp (2 ^ (n + 1) * m)) = m
    rw [show 2 ^ (n + 1) * m = 2 * (2 ^ n * m) from by rw [Nat.pow_succ, Nat.mul_comm (2 ^ n) 2, Nat.mul_assoc], stp_even, ih]

def num : List Nat → Nat
  | [] => 0
  | x :: l => x ^^^ (256 * num l)
theorem it_eight (m : Nat) : it 8 (256 * m) = m := by
  have e := it_pow 8 m
  rw [show (2 : Nat) ^ 8 = 256 from by decide] at e
  exact e
theorem mor_cons (c x : Nat) (l : List Nat) : mor c (x :: l) = mor (byt c x) l := rfl
theorem num_cons (x : Nat) (l : List Nat) : num (x :: l) = x ^^^ (256 * num l) := rfl
theorem mor_num (c : Nat) (l : List Nat) : mor c l = it (8 * l.length) (c ^^^ num l) := by
  induction l generalizing c with
  | nil => rw [List.length_nil, Nat.mul_zero]; show c = c ^^^ 0; rw [Nat.xor_zero]
  | cons x l ih =>
    rw [mor_cons, num_cons, List.length_cons, ih, Nat.mul_add, Nat.mul_one, it_add, ← Nat.xor_assoc, it_xor 8 (c ^^^ x), it_eight]
    rfl
theorem stp_ne {e : Nat} (h0 : e ≠ 0) (h : e < 4294967296) : stp e ≠ 0 := by
  unfold stp
  split
  · intro hx
    have hb : (e / 2 ^^^ 3988292384).testBit 31 = true := by
      rw [Nat.testBit_xor]
      have h1 : (e / 2).testBit 31 = false := Nat.testBit_lt_two_pow (by omega)
      have h2 : Nat.testBit 3988292384 31 = true := by decide
      rw [h1, h2]; rfl
    rw [hx, Nat.zero_testBit] at hb
    cases hb
  · omega
theorem it_ne {e : Nat} (n : Nat) (h0 : e ≠ 0) (h : e < 4294967296) : it n e ≠ 0 := by
  induction n generalizing e with
  | zero => exact h0
  | succ n ih => exact ih (stp_ne h0 h) (stp_lt h)
theorem it_zero (n : Nat) : it n 0 = 0 := by
  have := it_pow n 0
  simpa using this

/-- THE BURST: two rows of one length that differ by the pattern e (at most 32 bits) from the bit 'from' on: their sums are alike only where e is 0. -/
theorem burst (c : Nat) (l m : List Nat) (e at_ : Nat) (hlen : m.length = l.length) (hn : num m = num l ^^^ (2 ^ at_ * e)) (hat : at_ ≤ 8 * l.length) (he : e < 4294967296) :
    (mor c l = mor c m) ↔ e = 0 := by
  rw [mor_num, mor_num, hlen, hn, ← Nat.xor_assoc, it_xor (8 * l.length) (c ^^^ num l)]
  have hs : it (8 * l.length) (2 ^ at_ * e) = it (8 * l.length - at_) e := by
    have h8 : 8 * l.length = (8 * l.length - at_) + at_ := by omega
    have h9 := it_add (8 * l.length - at_) at_ (2 ^ at_ * e)
    rw [it_pow, ← h8] at h9
    exact h9
  rw [hs]
  constructor
  · intro h
    rcases Nat.eq_zero_or_pos e with h0 | h0
    · exact h0
    · exfalso
      refine it_ne (8 * l.length - at_) (e := e) (by omega) he ?_
      generalize it (8 * l.length - at_) e = y at h
      generalize it (8 * l.length) (c ^^^ num l) = x at h
      have h2 : x ^^^ x = x ^^^ (x ^^^ y) := by rw [← h]
      rw [Nat.xor_self, ← Nat.xor_assoc, Nat.xor_self, Nat.zero_xor] at h2
      exact h2.symm
  · rintro rfl
    rw [it_zero, Nat.xor_zero]
theorem num_set (l : List Nat) (i v : Nat) (h : i < l.length) : num (l.set i (l.getD i 0 ^^^ v)) = num l ^^^ (2 ^ (8 * i) * v) := by
  induction l generalizing i with
  | nil => simp at h
  | cons x l ih =>
    cases i with
    | zero =>
      show (x ^^^ v) ^^^ (256 * num l) = (x ^^^ (256 * num l)) ^^^ (2 ^ (8 * 0) * v)
      simp only [Nat.mul_zero, Nat.pow_zero, Nat.one_mul]
      rw [Nat.xor_assoc, Nat.xor_comm v, ← Nat.xor_assoc]
    | succ i =>
      have hi := ih i (by simpa using h)
      show x ^^^ (256 * num (l.set i (l.getD i 0 ^^^ v))) = (x ^^^ (256 * num l)) ^^^ (2 ^ (8 * (i + 1)) * v)
      rw [hi, Nat.xor_assoc]
      congr 1
      have e1 : (256 : Nat) = 2 ^ 8 := rfl
      have e2 : 2 ^ (8 * (i + 1)) * v = 2 ^ 8 * (2 ^ (8 * i) * v) := by
        rw [show 8 * (i + 1) = 8 + 8 * i from by omega, Nat.pow_add, Nat.mul_assoc]
      rw [e2, e1]
      generalize num l = p
      generalize 2 ^ (8 * i) * v = q
      rw [Nat.mul_comm _ (p ^^^ q), Nat.mul_comm _ p, Nat.mul_comm _ q, ← Nat.shiftLeft_eq, ← Nat.shiftLeft_eq, ← Nat.shiftLeft_eq, Nat.shiftLeft_xor_distrib]

/-! ### the same over the integers that the program holds -/
def stZ (c : Int) : Int := ((stp c.toNat : Nat) : Int)
def itZ (n : Nat) (c : Int) : Int := ((it n c.toNat : Nat) : Int)
def morZ (c : Int) (l : List Int) : Int := ((mor c.toNat (l.map Int.toNat) : Nat) : Int)
def ntZ (c : Int) : Int := bits .xor .u32 IntKind.u32.max c
def moreZ (s : Int) (l : List Int) : Int := ntZ (morZ (ntZ s) l)

theorem stZ_bd {c : Int} (h0 : 0 ≤ c) (h1 : c < 4294967296) : 0 ≤ stZ c ∧ stZ c < 4294967296 := by
  have := stp_lt (c := c.toNat) (by omega)
  unfold stZ; omega
theorem itZ_bd {c : Int} (n : Nat) (h0 : 0 ≤ c) (h1 : c < 4294967296) : 0 ≤ itZ n c ∧ itZ n c < 4294967296 := by
  have := it_lt (c := c.toNat) n (by omega)
  unfold itZ; omega
theorem itZ_zero {c : Int} (h0 : 0 ≤ c) : itZ 0 c = c := by
  show ((c.toNat : Nat) : Int) = c
  omega
theorem itZ_succ (n : Nat) (c : Int) : itZ (n + 1) c = stZ (itZ n c) := by
  unfold itZ stZ
  rw [it_succ, Int.toNat_natCast]
theorem xorZ {a b : Int} (h1 : 0 ≤ a) (h2 : a < 4294967296) (h3 : 0 ≤ b) (h4 : b < 4294967296) : bits .xor .u32 a b = ((a.toNat ^^^ b.toNat : Nat) : Int) := u32_xor a b h1 h2 h3 h4
theorem xorZ_bd {a b : Int} (h1 : 0 ≤ a) (h2 : a < 4294967296) (h3 : 0 ≤ b) (h4 : b < 4294967296) : 0 ≤ bits .xor .u32 a b ∧ bits .xor .u32 a b < 4294967296 := by
  rw [xorZ h1 h2 h3 h4]
  have := xor_lt (a := a.toNat) (b := b.toNat) (by omega) (by omega)
  omega
theorem max_eq : IntKind.u32.max = 4294967295 := by decide
theorem ntZ_eq {c : Int} (h0 : 0 ≤ c) (h1 : c < 4294967296) : ntZ c = ((4294967295 ^^^ c.toNat : Nat) : Int) := by
  unfold ntZ
  rw [max_eq, xorZ (by omega) (by omega) h0 h1]
  rfl
theorem ntZ_bd {c : Int} (h0 : 0 ≤ c) (h1 : c < 4294967296) : 0 ≤ ntZ c ∧ ntZ c < 4294967296 := by
  unfold ntZ
  rw [max_eq]
  exact xorZ_bd (by omega) (by omega) h0 h1
theorem ntZ_ntZ {c : Int} (h0 : 0 ≤ c) (h1 : c < 4294967296) : ntZ (ntZ c) = c := by
  have hb := ntZ_bd h0 h1
  rw [ntZ_eq hb.1 hb.2, ntZ_eq h0 h1, Int.toNat_natCast, ← Nat.xor_assoc, Nat.xor_self, Nat.zero_xor]
  omega
theorem ntZ_inj {a b : Int} (h0 : 0 ≤ a) (h1 : a < 4294967296) (h2 : 0 ≤ b) (h3 : b < 4294967296) (h : ntZ a = ntZ b) : a = b := by
  rw [← ntZ_ntZ h0 h1, h, ntZ_ntZ h2 h3]
def bytesB (l : List Int) : Prop := ∀ x ∈ l, 0 ≤ x ∧ x < 256
theorem morZ_bd {c : Int} (l : List Int) (h0 : 0 ≤ c) (h1 : c < 4294967296) (hl : bytesB l) : 0 ≤ morZ c l ∧ morZ c l < 4294967296 := by
  have := mor_lt (c := c.toNat) (l.map Int.toNat) (by omega) (by
    intro x hx
    obtain ⟨y, hy, rfl⟩ := List.mem_map.1 hx
    have := hl y hy
    omega)
  unfold morZ; omega
theorem moreZ_bd {s : Int} (l : List Int) (h0 : 0 ≤ s) (h1 : s < 4294967296) (hl : bytesB l) : 0 ≤ moreZ s l ∧ moreZ s l < 4294967296 := by
  have a := ntZ_bd h0 h1
  have b := morZ_bd l a.1 a.2 hl
  exact ntZ_bd b.1 b.2
theorem morZ_nil {c : Int} (h0 : 0 ≤ c) : morZ c [] = c := by
  show ((c.toNat : Nat) : Int) = c
  omega
theorem moreZ_nil {s : Int} (h0 : 0 ≤ s) (h1 : s < 4294967296) : moreZ s [] = s := by
  unfold moreZ
  rw [morZ_nil (ntZ_bd h0 h1).1, ntZ_ntZ h0 h1]
theorem morZ_append (c : Int) (l m : List Int) : morZ c (l ++ m) = morZ (morZ c l) m := by
  unfold morZ
  rw [List.map_append, mor_append, Int.toNat_natCast]
theorem morZ_snoc (c : Int) (l : List Int) (x : Int) (hc0 : 0 ≤ morZ c l) (hc1 : morZ c l < 4294967296) (hx : 0 ≤ x ∧ x < 256) :
    morZ c (l ++ [x]) = itZ 8 (bits .xor .u32 (morZ c l) x) := by
  rw [morZ_append, xorZ hc0 hc1 hx.1 (by omega)]
  unfold itZ
  rw [Int.toNat_natCast]
  show ((mor (morZ c l).toNat [x.toNat] : Nat) : Int) = _
  rw [mor_cons]
  rfl
theorem moreZ_append {s : Int} (l m : List Int) (h0 : 0 ≤ s) (h1 : s < 4294967296) (hl : bytesB l) : moreZ s (l ++ m) = moreZ (moreZ s l) m := by
  have a := ntZ_bd h0 h1
  have b := morZ_bd l a.1 a.2 hl
  unfold moreZ
  rw [ntZ_ntZ b.1 b.2, morZ_append]

/-! ### the step, as the program's text has it, and as the document's plain text has it -/
theorem andZ {a b : Int} (h1 : 0 ≤ a) (h2 : a < 4294967296) (h3 : 0 ≤ b) (h4 : b < 4294967296) : bits .and .u32 a b = ((a.toNat &&& b.toNat : Nat) : Int) := u32_and a b h1 h2 h3 h4
theorem and_one {x : Int} (h0 : 0 ≤ x) (h1 : x < 4294967296) : bits .and .u32 x 1 = x % 2 := by
  rw [andZ h0 h1 (by omega) (by omega), show (1 : Int).toNat = 1 from rfl, nat_mask1]
  omega
theorem step_text {x : Int} (h0 : 0 ≤ x) (h1 : x < 4294967296) :
    bits .xor .u32 (x / 2) (bits .and .u32 3988292384 (-bits .and .u32 x 1 % 4294967296)) = stZ x := by
  rw [and_one h0 h1]
  by_cases h : x % 2 = 1
  · rw [h, show (-1 : Int) % 4294967296 = 4294967295 from by decide, andZ (by omega) (by omega) (by omega) (by omega)]
    rw [show (3988292384 : Int).toNat &&& (4294967295 : Int).toNat = 3988292384 from by decide]
    rw [xorZ (by omega) (by omega) (by omega) (by omega)]
    unfold stZ stp
    rw [if_pos (by omega), Int.toNat_natCast, show (x / 2).toNat = x.toNat / 2 from by omega]
  · have hz : x % 2 = 0 := by omega
    rw [hz, show (-0 : Int) % 4294967296 = 0 from by decide, andZ (by omega) (by omega) (by omega) (by omega)]
    rw [show (3988292384 : Int).toNat &&& (0 : Int).toNat = 0 from by decide]
    rw [xorZ (by omega) (by omega) (by omega) (by omega)]
    unfold stZ stp
    rw [if_neg (by omega), Int.toNat_natCast, show (x / 2).toNat = x.toNat / 2 from by omega, Nat.xor_zero]
theorem step_odd {x : Int} (h0 : 0 ≤ x) (h1 : x < 4294967296) (h : x % 2 = 1) : bits .xor .u32 (x / 2) 3988292384 = stZ x := by
  rw [xorZ (by omega) (by omega) (by omega) (by omega)]
  unfold stZ stp
  rw [if_pos (by omega), show (x / 2).toNat = x.toNat / 2 from by omega]
  rfl
theorem step_even {x : Int} (h0 : 0 ≤ x) (h : x % 2 = 0) : x / 2 = stZ x := by
  unfold stZ stp
  rw [if_neg (by omega)]
  omega

end Go.Proofs.Ytlkjmdkmcaaihaa.Crc

namespace Go.Proofs.Ytlkjmdkmcaaihaa.RecMath
open FieldMath

/-- bytes as the integers of the sum -/
def zs (l : List UInt8) : List Int := l.map fun b => (b.toNat : Int)
theorem zs_bytes (l : List UInt8) : Crc.bytesB (zs l) := by
  intro x hx
  obtain ⟨b, _, rfl⟩ := List.mem_map.1 hx
  have := b.toNat_lt
  omega
theorem zs_append (l m : List UInt8) : zs (l ++ m) = zs l ++ zs m := List.map_append
theorem zs_length (l : List UInt8) : (zs l).length = l.length := List.length_map _
theorem zs_take (l : List UInt8) (k : Nat) : (zs l).take k = zs (l.take k) := (List.map_take ..).symm
/-- the sum of some bytes -/
def sum (l : List UInt8) : Nat := (Crc.moreZ 0 (zs l)).toNat
theorem sum_cast (l : List UInt8) : ((sum l : Nat) : Int) = Crc.moreZ 0 (zs l) := by
  have := Crc.moreZ_bd (s := 0) (zs l) (by omega) (by omega) (zs_bytes l)
  unfold sum
  omega
theorem sum_lt (l : List UInt8) : sum l < 4294967296 := by
  have := Crc.moreZ_bd (s := 0) (zs l) (by omega) (by omega) (zs_bytes l)
  unfold sum
  omega
theorem more_sum (l m : List UInt8) : Crc.moreZ (sum l : Nat) (zs m) = ((sum (l ++ m) : Nat) : Int) := by
  rw [sum_cast, sum_cast, zs_append, Crc.moreZ_append _ _ (by omega) (by omega) (zs_bytes l)]

/-- the record that holds p -/
def recB (p : List UInt8) : List UInt8 := big p.length 4 ++ (big (sum (big p.length 4 ++ p)) 4 ++ p)
/-- what Put answers -/
def put (p : List UInt8) : Except Nat (List UInt8) := if 1048576 < p.length then .error 1 else .ok (recB p)
/-- what Take answers -/
def tk (b : List UInt8) : Except Nat (List UInt8) :=
  if b.length < 8 then .error 2
  else if 1048576 < num (b.take 4) then .error 3
  else if b.length - 8 < num (b.take 4) then .error 2
  else if num ((b.drop 4).take 4) = sum (b.take 4 ++ (b.drop 8).take (num (b.take 4))) then .ok ((b.drop 8).take (num (b.take 4))) else .error 4
/-- how many bytes the record has that Take answers -/
def tsize : Except Nat (List UInt8) → Nat
  | .error _ => 0
  | .ok p => 8 + p.length

theorem recB_length (p : List UInt8) : (recB p).length = 8 + p.length := by
  rw [recB, List.length_append, List.length_append, big_length, big_length]; omega
theorem pow4 : 256 ^ 4 = 4294967296 := by decide
theorem num4_lt {r : List UInt8} (h : 4 ≤ r.length) : num (r.take 4) < 4294967296 := by
  have := num_lt (r.take 4)
  rw [List.length_take, Nat.min_eq_left h, pow4] at this
  exact this

theorem tk_short {b : List UInt8} (h : b.length < 8) : tk b = .error 2 := by rw [tk, if_pos h]
theorem tk_long {b : List UInt8} (h : 8 ≤ b.length) (h1 : 1048576 < num (b.take 4)) : tk b = .error 3 := by rw [tk, if_neg (by omega), if_pos h1]
theorem tk_lacks {b : List UInt8} (h : 8 ≤ b.length) (h1 : num (b.take 4) ≤ 1048576) (h2 : b.length - 8 < num (b.take 4)) : tk b = .error 2 := by
  rw [tk, if_neg (by omega), if_neg (by omega), if_pos h2]
theorem tk_ok {b : List UInt8} (h : 8 ≤ b.length) (h1 : num (b.take 4) ≤ 1048576) (h2 : num (b.take 4) ≤ b.length - 8) (h3 : num ((b.drop 4).take 4) = sum (b.take 4 ++ (b.drop 8).take (num (b.take 4)))) :
    tk b = .ok ((b.drop 8).take (num (b.take 4))) := by
  rw [tk, if_neg (by omega), if_neg (by omega), if_neg (by omega), if_pos h3]
theorem tk_bad {b : List UInt8} (h : 8 ≤ b.length) (h1 : num (b.take 4) ≤ 1048576) (h2 : num (b.take 4) ≤ b.length - 8) (h3 : ¬ num ((b.drop 4).take 4) = sum (b.take 4 ++ (b.drop 8).take (num (b.take 4)))) :
    tk b = .error 4 := by
  rw [tk, if_neg (by omega), if_neg (by omega), if_neg (by omega), if_neg h3]
theorem tk_fits {b p : List UInt8} (h : tk b = .ok p) : 8 + p.length ≤ b.length ∧ p.length ≤ 1048576 := by
  unfold tk at h
  split at h
  · cases h
  · split at h
    · cases h
    · split at h
      · cases h
      · split at h
        · injection h with h
          subst h
          rw [List.length_take, List.length_drop]
          omega
        · cases h
theorem tk_err {b : List UInt8} {e : Nat} (h : tk b = .error e) : e = 2 ∨ e = 3 ∨ e = 4 := by
  unfold tk at h
  split at h
  · injection h with h; omega
  · split at h
    · injection h with h; omega
    · split at h
      · injection h with h; omega
      · split at h
        · cases h
        · injection h with h; omega

/-- four bytes, four bytes, and so many bytes as the first four say -/
theorem tk_parts {n s : Nat} (q r : List UInt8) (hq : q.length = n) (hn : n ≤ 1048576) (hs : s < 4294967296) :
    tk (big n 4 ++ (big s 4 ++ (q ++ r))) = if s = sum (big n 4 ++ q) then .ok q else .error 4 := by
  have e1 : (big n 4 ++ (big s 4 ++ (q ++ r))).take 4 = big n 4 := take_app _ _ (big_length _ _)
  have e2 : (big n 4 ++ (big s 4 ++ (q ++ r))).drop 4 = big s 4 ++ (q ++ r) := drop_app _ _ (big_length _ _)
  have e3 : (big n 4 ++ (big s 4 ++ (q ++ r))).drop 8 = q ++ r := by
    rw [show 8 = 4 + 4 from rfl, ← List.drop_drop, e2]; exact drop_app _ _ (big_length _ _)
  have e4 : num (big n 4) = n := num_big_of (by rw [pow4]; omega)
  have e5 : ((big n 4 ++ (big s 4 ++ (q ++ r))).drop 4).take 4 = big s 4 := by rw [e2]; exact take_app _ _ (big_length _ _)
  have e6 : num (big s 4) = s := num_big_of (by rw [pow4]; exact hs)
  have e7 : (q ++ r).take n = q := take_app _ _ hq
  have hl : (big n 4 ++ (big s 4 ++ (q ++ r))).length = 8 + n + r.length := by
    rw [List.length_append, List.length_append, List.length_append, big_length, big_length]; omega
  rw [tk, hl, e1, e3, e4, e5, e6, e7, if_neg (by omega), if_neg (by omega), if_neg (by omega)]
theorem tk_rec {p : List UInt8} (h : p.length ≤ 1048576) (r : List UInt8) : tk (recB p ++ r) = .ok p := by
  rw [recB, List.append_assoc, List.append_assoc, tk_parts p r rfl h (sum_lt _), if_pos rfl]
theorem tk_rec0 {p : List UInt8} (h : p.length ≤ 1048576) : tk (recB p) = .ok p := by
  have := tk_rec h []
  rwa [List.append_nil] at this
theorem tk_cut {p : List UInt8} (h : p.length ≤ 1048576) {k : Nat} (hk : k < (recB p).length) : tk ((recB p).take k) = .error 2 := by
  rw [recB_length] at hk
  have hl : ((recB p).take k).length = k := by rw [List.length_take, recB_length]; omega
  by_cases h8 : k < 8
  · exact tk_short (by omega)
  · have e1 : ((recB p).take k).take 4 = big p.length 4 := by
      rw [List.take_take, Nat.min_eq_left (by omega), recB]; exact take_app _ _ (big_length _ _)
    have e2 : num (((recB p).take k).take 4) = p.length := by rw [e1]; exact num_big_of (by rw [pow4]; omega)
    exact tk_lacks (by omega) (by omega) (by omega)

/-! ### records one behind the other -/
def scan (b : List UInt8) : List (List UInt8) × Nat :=
  match h : tk b with
  | .error _ => ([], 0)
  | .ok p => ((p :: (scan (b.drop (8 + p.length))).1), 8 + p.length + (scan (b.drop (8 + p.length))).2)
termination_by b.length
decreasing_by all_goals (have := tk_fits h; rw [List.length_drop]; omega)
theorem scan_end {b : List UInt8} {e : Nat} (h : tk b = .error e) : scan b = ([], 0) := by
  rw [scan]
  split
  · rfl
  · rename_i h2; rw [h] at h2; cases h2
theorem scan_more {b p : List UInt8} (h : tk b = .ok p) : scan b = (p :: (scan (b.drop (8 + p.length))).1, 8 + p.length + (scan (b.drop (8 + p.length))).2) := by
  rw [scan]
  split
  · rename_i h2; rw [h] at h2; cases h2
  · rename_i q h2
    rw [h] at h2
    injection h2 with h2
    subst h2
    rfl
theorem scan_nil : scan [] = ([], 0) := scan_end (tk_short (by simp))
theorem scan_le (b : List UInt8) : (scan b).2 ≤ b.length := by
  generalize hn : b.length = n
  induction n using Nat.strongRecOn generalizing b with
  | ind n ih =>
    subst hn
    cases h : tk b with
    | error e => rw [scan_end h]; exact Nat.zero_le _
    | ok p =>
      have hf := tk_fits h
      have := ih _ (by rw [List.length_drop]; omega) (b.drop (8 + p.length)) rfl
      rw [scan_more h]
      rw [List.length_drop] at this
      show 8 + p.length + (scan (b.drop (8 + p.length))).2 ≤ _
      omega
theorem scan_count (b : List UInt8) : 8 * (scan b).1.length ≤ (scan b).2 := by
  generalize hn : b.length = n
  induction n using Nat.strongRecOn generalizing b with
  | ind n ih =>
    subst hn
    cases h : tk b with
    | error e => rw [scan_end h]; exact Nat.le_refl _
    | ok p =>
      have hf := tk_fits h
      have := ih _ (by rw [List.length_drop]; omega) (b.drop (8 + p.length)) rfl
      rw [scan_more h]
      show 8 * ((scan (b.drop (8 + p.length))).1.length + 1) ≤ 8 + p.length + (scan (b.drop (8 + p.length))).2
      omega

/-- records one behind the other -/
def recs (ls : List (List UInt8)) : List UInt8 := ls.flatMap recB
theorem recs_nil : recs [] = [] := rfl
theorem recs_cons (p : List UInt8) (ls : List (List UInt8)) : recs (p :: ls) = recB p ++ recs ls := List.flatMap_cons
theorem recs_snoc (ls : List (List UInt8)) (p : List UInt8) : recs (ls ++ [p]) = recs ls ++ recB p := by
  unfold recs
  rw [List.flatMap_append, List.flatMap_cons, List.flatMap_nil, List.append_nil]
theorem recs_append (ls ms : List (List UInt8)) : recs (ls ++ ms) = recs ls ++ recs ms := List.flatMap_append
/-- k of the records are whole in what is cut off at c -/
theorem scan_recs (ls : List (List UInt8)) (h : ∀ p ∈ ls, p.length ≤ 1048576) (c k : Nat) (hk : k ≤ ls.length) (h1 : (recs (ls.take k)).length ≤ c) (h2 : k < ls.length → c < (recs (ls.take (k + 1))).length) (hc : c ≤ (recs ls).length) :
    scan ((recs ls).take c) = (ls.take k, (recs (ls.take k)).length) := by
  induction ls generalizing c k with
  | nil =>
    rw [recs_nil, List.take_nil, scan_nil]
    simp
    rfl
  | cons p ls ih =>
    have hp := h p (List.mem_cons_self ..)
    cases k with
    | zero =>
      have hc2 := h2 (by simp)
      rw [List.take_succ_cons, List.take_zero, recs_cons, recs_nil, List.append_nil] at hc2
      rw [recs_cons, List.take_append_of_le_length (by omega), scan_end (tk_cut hp hc2)]
      rfl
    | succ k =>
      rw [List.take_succ_cons, recs_cons, List.length_append] at h1
      rw [List.take_succ_cons]
      have e : (recs (p :: ls)).take c = recB p ++ (recs ls).take (c - (recB p).length) := by
        rw [recs_cons, List.take_append, List.take_of_length_le (by omega)]
      have e2 : (recB p ++ (recs ls).take (c - (recB p).length)).drop (8 + p.length) = (recs ls).take (c - (recB p).length) := drop_app _ _ (recB_length p)
      have := ih (fun q hq => h q (List.mem_cons_of_mem _ hq)) (c - (recB p).length) k (by simpa using hk) (by omega) (fun hlt => by
        have := h2 (by simpa using hlt)
        rw [List.take_succ_cons, recs_cons, List.length_append] at this
        have h3 : 8 ≤ (recB p).length := by rw [recB_length]; omega
        omega) (by rw [recs_cons, List.length_append] at hc; omega)
      rw [e, scan_more (tk_rec hp _), e2, this, ← recB_length, recs_cons, List.length_append]

/-! ### bits that are turned -/
theorem zs_nat (l : List UInt8) : (zs l).map Int.toNat = l.map UInt8.toNat := by
  unfold zs
  rw [List.map_map]
  rfl
/-- the same head, and rows of one length that differ by a pattern of at most 32 bits -/
theorem burst_sum (hd p q : List UInt8) (e f : Nat) (hlen : q.length = p.length) (hn : Crc.num (q.map UInt8.toNat) = Crc.num (p.map UInt8.toNat) ^^^ (2 ^ f * e)) (hf : f ≤ 8 * p.length) (he : e < 4294967296) :
    sum (hd ++ p) = sum (hd ++ q) ↔ e = 0 := by
  have hm := more_sum hd p
  have hm2 := more_sum hd q
  have hs := sum_lt hd
  have hnt := Crc.ntZ_bd (c := (sum hd : Nat)) (by omega) (by omega)
  have hb := Crc.burst (Crc.ntZ (sum hd : Nat)).toNat (p.map UInt8.toNat) (q.map UInt8.toNat) e f (by rw [List.length_map, List.length_map, hlen]) hn (by rw [List.length_map]; exact hf) he
  have h1 := Crc.morZ_bd (zs p) hnt.1 hnt.2 (zs_bytes p)
  have h2 := Crc.morZ_bd (zs q) hnt.1 hnt.2 (zs_bytes q)
  rw [← hb]
  constructor
  · intro h
    have h3 : Crc.moreZ (sum hd : Nat) (zs p) = Crc.moreZ (sum hd : Nat) (zs q) := by rw [hm, hm2, h]
    have h4 := Crc.ntZ_inj h1.1 h1.2 h2.1 h2.2 h3
    unfold Crc.morZ at h4
    rw [zs_nat, zs_nat] at h4
    omega
  · intro h
    have h3 : Crc.moreZ (sum hd : Nat) (zs p) = Crc.moreZ (sum hd : Nat) (zs q) := by
      unfold Crc.moreZ Crc.morZ
      rw [zs_nat, zs_nat, h]
    rw [hm, hm2] at h3
    omega
end Go.Proofs.Ytlkjmdkmcaaihaa.RecMath

namespace Go.Proofs.Ytlkjmdkmcaaihaa.SegMath
open FieldMath RecMath

def numF (x : Int) : Fld := ⟨1, x, ⟨#[]⟩⟩
def headP (x : Int) : List UInt8 := encZ [numF x]
def headB (x : Int) : List UInt8 := recB (headP x)
/-- what Head answers -/
def head (x : Int) : Except Nat (List UInt8) := if 1 ≤ x ∧ x ≤ 1099511627776 then .ok (headB x) else .error 1
/-- the number that the fields of a head are -/
def only : Except Nat (List Fld) → Option Int
  | .ok [f] => if f.kind = 1 ∧ 1 ≤ f.n ∧ f.n ≤ 1099511627776 then some f.n else none
  | _ => none
/-- the number of the head that holds p -/
def first (p : List UInt8) : Option Int := only (dec p)
structure Sr where
  x : Int
  rows : List (List UInt8)
  n : Nat
  e : Nat
def bad : Sr := ⟨0, [], 0, 3⟩
def sreads (s : List (List UInt8) × Nat) : Sr := match s.1 with
  | [] => bad
  | p :: l => match first p with
    | some x => ⟨x, l, s.2, 0⟩
    | none => bad
/-- what Read answers -/
def sread (b : List UInt8) : Sr := sreads (scan b)

theorem numF_right (x : Int) : (numF x).right = true := by simp [numF, Fld.right, ByteArray.size]
theorem numF_ok {x : Int} (h0 : -9223372036854775808 ≤ x) (h1 : x ≤ 9223372036854775807) : (numF x).ok := ⟨by simp [numF], by simp [numF], h0, h1, by simp [numF, ByteArray.size]⟩
theorem headP_length (x : Int) : (headP x).length = 11 := by
  rw [headP, encZ, List.length_append, big_length, List.flatMap_cons, List.flatMap_nil, List.append_nil, encF, if_pos (show (numF x).kind = 1 from rfl), List.length_cons, big_length]
theorem headB_length (x : Int) : (headB x).length = 19 := by rw [headB, recB_length, headP_length]
theorem enc_num (x : Int) : enc [numF x] = .ok (headP x) := by
  unfold enc
  rw [if_neg (by simp [numF_right])]
  rfl
theorem put_head (x : Int) : put (headP x) = .ok (headB x) := by
  unfold put
  rw [if_neg (by rw [headP_length]; omega)]
  rfl
theorem first_head {x : Int} (h0 : 1 ≤ x) (h1 : x ≤ 1099511627776) : first (headP x) = some x := by
  unfold first
  rw [headP, dec_enc (by simp) (by intro f hf; rw [List.mem_singleton] at hf; subst hf; exact ⟨numF_right x, numF_ok (by omega) (by omega)⟩)]
  show (if (numF x).kind = 1 ∧ 1 ≤ (numF x).n ∧ (numF x).n ≤ 1099511627776 then some (numF x).n else none) = some x
  rw [if_pos ⟨rfl, h0, h1⟩]
  rfl
theorem scan_head (x : Int) (r : List UInt8) : scan (headB x ++ r) = (headP x :: (scan r).1, 19 + (scan r).2) := by
  have h := headP_length x
  rw [headB, scan_more (tk_rec (by omega) r), drop_app _ _ (by rw [recB_length]), h]
theorem sread_head {x : Int} (h0 : 1 ≤ x) (h1 : x ≤ 1099511627776) (r : List UInt8) : sread (headB x ++ r) = ⟨x, (scan r).1, 19 + (scan r).2, 0⟩ := by
  rw [sread, scan_head]
  unfold sreads
  simp only [first_head h0 h1]
theorem sread_none {b : List UInt8} (h : scan b = ([], 0)) : sread b = bad := by rw [sread, h]; rfl
theorem sread_cut {x : Int} {m : Nat} (r : List UInt8) (h : m < 19) : sread ((headB x ++ r).take m) = bad := by
  refine sread_none ?_
  rw [List.take_append_of_le_length (by rw [headB_length]; omega)]
  exact scan_end (tk_cut (by rw [headP_length]; omega) (by rw [← headB, headB_length]; omega))
theorem scan_all (ls : List (List UInt8)) (h : ∀ p ∈ ls, p.length ≤ 1048576) : scan (recs ls) = (ls, (recs ls).length) := by
  have := scan_recs ls h (recs ls).length ls.length (Nat.le_refl _) (by rw [List.take_length]; exact Nat.le_refl _) (fun h => absurd h (by omega)) (Nat.le_refl _)
  rw [List.take_length, List.take_length] at this
  exact this
/-- so many records are whole -/
theorem whole (ls : List (List UInt8)) (c : Nat) (hc : c < (recs ls).length) : ∃ k, k < ls.length ∧ (recs (ls.take k)).length ≤ c ∧ c < (recs (ls.take (k + 1))).length := by
  induction ls generalizing c with
  | nil => simp [recs] at hc
  | cons p ls ih =>
    rw [recs_cons, List.length_append] at hc
    by_cases h : c < (recB p).length
    · exact ⟨0, by simp, by simp [recs], by simpa [recs] using h⟩
    · obtain ⟨k, h1, h2, h3⟩ := ih (c - (recB p).length) (by omega)
      refine ⟨k + 1, by simpa using h1, ?_, ?_⟩
      · rw [List.take_succ_cons, recs_cons, List.length_append]; omega
      · rw [List.take_succ_cons, recs_cons, List.length_append]; omega
theorem sread_some {x : Int} (h0 : 1 ≤ x) (h1 : x ≤ 1099511627776) (ls : List (List UInt8)) (h : ∀ p ∈ ls, p.length ≤ 1048576) {m : Nat} (hm : 19 ≤ m) (hl : m < (headB x ++ recs ls).length) :
    ∃ k n, k < ls.length ∧ n ≤ m ∧ sread ((headB x ++ recs ls).take m) = ⟨x, ls.take k, n, 0⟩ := by
  rw [List.length_append, headB_length] at hl
  obtain ⟨k, hk, h2, h3⟩ := whole ls (m - 19) (by omega)
  have h4 := scan_recs ls h (m - 19) k (by omega) h2 (fun _ => h3) (by omega)
  refine ⟨k, 19 + (recs (ls.take k)).length, hk, by omega, ?_⟩
  rw [List.take_append, List.take_of_length_le (by rw [headB_length]; omega), headB_length, sread_head h0 h1, h4]
theorem sread_all {x : Int} (h0 : 1 ≤ x) (h1 : x ≤ 1099511627776) (ls : List (List UInt8)) (h : ∀ p ∈ ls, p.length ≤ 1048576) : sread (headB x ++ recs ls) = ⟨x, ls, (headB x ++ recs ls).length, 0⟩ := by
  rw [sread_head h0 h1, scan_all ls h, List.length_append, headB_length]
theorem sread_fields {fs : List Fld} (h : ∀ f ∈ fs, f.right = true ∧ f.ok) (hl : fs.length ≤ 32767) (h1 : fs.length ≠ 1) : sread (got (put (encZ fs))) = bad := by
  by_cases hp : 1048576 < (encZ fs).length
  · have : put (encZ fs) = .error 1 := by unfold put; rw [if_pos hp]
    rw [this]
    exact sread_none scan_nil
  · have : put (encZ fs) = .ok (recB (encZ fs)) := by unfold put; rw [if_neg hp]
    rw [this]
    show sread (recB (encZ fs)) = bad
    rw [sread, scan_more (tk_rec0 (by omega))]
    have h2 : first (encZ fs) = none := by
      unfold first
      rw [dec_enc hl h]
      unfold only
      split
      · rename_i f he
        injection he with he
        subst he
        simp at h1
      · rfl
    unfold sreads
    simp only [h2]
theorem sread_rows (b : List UInt8) : 8 * (sread b).rows.length ≤ b.length := by
  have h1 := scan_le b
  have h2 := scan_count b
  rw [sread]
  unfold sreads
  split
  · simp [bad]
  · rename_i p l he
    rw [he, List.length_cons] at h2
    split <;> simp [bad] <;> omega
end Go.Proofs.Ytlkjmdkmcaaihaa.SegMath

namespace Go.Proofs.Ytlkjmdkmcaaihaa.DiskMath

/-- a file: its number, its bytes, how many are safe -/
structure Fl where
  id : Int
  b : List UInt8
  safe : Nat

/-- a disk: its files, the operations till power goes (0: none is armed), whether power is off, how many operations there were -/
structure Dk where
  files : List Fl
  left : Nat
  off : Bool
  ops : Nat

/-- numbers rise from lo on and are files' numbers; no more is safe than there is -/
def Up (lo : Int) : List Fl → Prop
  | [] => True
  | x :: r => lo ≤ x.id ∧ x.id < 16384 ∧ x.safe ≤ x.b.length ∧ Up (x.id + 1) r

theorem Up.mono {lo lo' : Int} (h : lo' ≤ lo) : ∀ {l : List Fl}, Up lo l → Up lo' l
  | [], _ => trivial
  | _ :: _, ⟨h1, h2, h3, h4⟩ => ⟨by omega, h2, h3, h4⟩
theorem Up.mem {lo : Int} : ∀ {l : List Fl}, Up lo l → ∀ x ∈ l, lo ≤ x.id ∧ x.id < 16384 ∧ x.safe ≤ x.b.length
  | [], _, x, hx => by cases hx
  | y :: r, ⟨h1, h2, h3, h4⟩, x, hx => by
    rcases List.mem_cons.1 hx with rfl | hx
    · exact ⟨h1, h2, h3⟩
    · have := h4.mem x hx
      exact ⟨by omega, this.2.1, this.2.2⟩
theorem Up.length {lo : Int} : ∀ {l : List Fl}, Up lo l → lo ≤ 16384 → (l.length : Int) ≤ 16384 - lo
  | [], _, h => by simp; omega
  | y :: r, ⟨h1, h2, h3, h4⟩, _ => by
    have := h4.length (by omega)
    rw [List.length_cons]
    omega
theorem Up.le {l : List Fl} (h : Up 0 l) : l.length ≤ 16384 := by
  have := h.length (by omega)
  omega
/-- a number is there once -/
theorem Up.one {lo : Int} : ∀ {l : List Fl}, Up lo l → ∀ x ∈ l, ∀ y ∈ l, x.id = y.id → x = y
  | [], _, x, hx, _, _, _ => by cases hx
  | z :: r, ⟨_, _, _, h4⟩, x, hx, y, hy, e => by
    rcases List.mem_cons.1 hx with e1 | h1
    · rcases List.mem_cons.1 hy with e2 | h2
      · rw [e1, e2]
      · have := h4.mem y h2
        rw [e1] at e
        omega
    · rcases List.mem_cons.1 hy with e2 | h2
      · have := h4.mem x h1
        rw [e2] at e
        omega
      · exact h4.one x h1 y h2 e

/-- the file of that number -/
def seek (l : List Fl) (f : Int) : Option Fl := l.find? fun x => decide (x.id = f)
theorem seek_mem {l : List Fl} {f : Int} {x : Fl} (h : seek l f = some x) : x ∈ l ∧ x.id = f := by
  unfold seek at h
  exact ⟨List.mem_of_find?_eq_some h, by simpa using List.find?_some h⟩
theorem seek_none {l : List Fl} {f : Int} (h : seek l f = none) : ∀ x ∈ l, x.id ≠ f := by
  unfold seek at h
  intro x hx
  simpa using List.find?_eq_none.1 h x hx
theorem seek_of {lo : Int} {l : List Fl} (hu : Up lo l) {x : Fl} (hx : x ∈ l) : seek l x.id = some x := by
  cases h : seek l x.id with
  | none => exact absurd rfl (seek_none h x hx)
  | some y => rw [hu.one y (seek_mem h).1 x hx (seek_mem h).2]

/-- the files with one of them turned -/
def put (l : List Fl) (f : Int) (g : Fl → Fl) : List Fl := l.map fun x => if x.id = f then g x else x
/-- .. with one more, without bytes -/
def ins (f : Int) : List Fl → List Fl
  | [] => [⟨f, [], 0⟩]
  | x :: r => if x.id < f then x :: ins f r else ⟨f, [], 0⟩ :: x :: r
/-- .. without it -/
def del (l : List Fl) (f : Int) : List Fl := l.filter fun x => decide (x.id ≠ f)

theorem put_ids (l : List Fl) (f : Int) (g : Fl → Fl) (hg : ∀ x, (g x).id = x.id) : (put l f g).map (·.id) = l.map (·.id) := by
  unfold put
  rw [List.map_map]
  apply List.map_congr_left
  intro x _
  simp only [Function.comp]
  split
  · exact hg x
  · rfl
theorem put_mem {l : List Fl} {f : Int} {g : Fl → Fl} {y : Fl} (h : y ∈ put l f g) : ∃ x ∈ l, (x.id = f ∧ y = g x) ∨ (x.id ≠ f ∧ y = x) := by
  unfold put at h
  obtain ⟨x, hx, rfl⟩ := List.mem_map.1 h
  refine ⟨x, hx, ?_⟩
  by_cases e : x.id = f
  · exact .inl ⟨e, by rw [if_pos e]⟩
  · exact .inr ⟨e, by rw [if_neg e]⟩
theorem put_up {lo : Int} {f : Int} {g : Fl → Fl} (hg : ∀ x, (g x).id = x.id) (hs : ∀ x, x.safe ≤ x.b.length → (g x).safe ≤ (g x).b.length) : ∀ {l : List Fl}, Up lo l → Up lo (put l f g)
  | [], _ => trivial
  | x :: r, ⟨h1, h2, h3, h4⟩ => by
    have ih : Up (x.id + 1) (put r f g) := put_up hg hs h4
    unfold put at ih ⊢
    rw [List.map_cons]
    by_cases e : x.id = f
    · rw [if_pos e]
      exact ⟨by rw [hg]; exact h1, by rw [hg]; exact h2, hs x h3, by rw [hg]; exact ih⟩
    · rw [if_neg e]
      exact ⟨h1, h2, h3, ih⟩
theorem put_length (l : List Fl) (f : Int) (g : Fl → Fl) : (put l f g).length = l.length := List.length_map _
theorem ins_up {f : Int} (hf : f < 16384) : ∀ {lo : Int} {l : List Fl}, lo ≤ f → Up lo l → (∀ x ∈ l, x.id ≠ f) → Up lo (ins f l)
  | lo, [], h0, _, _ => ⟨h0, hf, Nat.le_refl _, trivial⟩
  | lo, x :: r, h0, ⟨h1, h2, h3, h4⟩, hn => by
    unfold ins
    have hx := hn x List.mem_cons_self
    split
    · rename_i hlt
      exact ⟨h1, h2, h3, ins_up hf (by omega) h4 fun y hy => hn y (List.mem_cons_of_mem _ hy)⟩
    · rename_i hlt
      exact ⟨h0, hf, Nat.le_refl _, by show f + 1 ≤ x.id; omega, h2, h3, h4⟩
theorem ins_mem {f : Int} : ∀ {l : List Fl} {y : Fl}, y ∈ ins f l → y = ⟨f, [], 0⟩ ∨ y ∈ l
  | [], y, h => by simp [ins] at h; exact .inl h
  | x :: r, y, h => by
    unfold ins at h
    split at h
    · rcases List.mem_cons.1 h with rfl | h
      · exact .inr List.mem_cons_self
      · exact (ins_mem h).imp id (List.mem_cons_of_mem _)
    · rcases List.mem_cons.1 h with rfl | h
      · exact .inl rfl
      · exact .inr h
theorem ins_here (f : Int) : ∀ l : List Fl, (⟨f, [], 0⟩ : Fl) ∈ ins f l
  | [] => by simp [ins]
  | x :: r => by
    unfold ins
    split
    · exact List.mem_cons_of_mem _ (ins_here f r)
    · exact List.mem_cons_self
theorem ins_length (f : Int) : ∀ l : List Fl, (ins f l).length = l.length + 1
  | [] => rfl
  | x :: r => by
    unfold ins
    split
    · rw [List.length_cons, ins_length f r, List.length_cons]
    · rfl
theorem del_up {f : Int} : ∀ {lo : Int} {l : List Fl}, Up lo l → Up lo (del l f)
  | _, [], _ => trivial
  | lo, x :: r, ⟨h1, h2, h3, h4⟩ => by
    have ih : Up (x.id + 1) (del r f) := del_up h4
    unfold del at ih ⊢
    rw [List.filter_cons]
    split
    · exact ⟨h1, h2, h3, ih⟩
    · exact ih.mono (by omega)
theorem del_mem {l : List Fl} {f : Int} {y : Fl} (h : y ∈ del l f) : y ∈ l ∧ y.id ≠ f := by
  unfold del at h
  have := List.mem_filter.1 h
  exact ⟨this.1, by simpa using this.2⟩

/-! ### operations -/
def refuse (d : Dk) (f : Int) (needs : Bool) : Int := if d.off then 8 else if f < 0 ∨ 16384 ≤ f then 1 else if needs ∧ seek d.files f = none then 5 else 0
/-- an operation is counted -/
def tick (d : Dk) : Dk := { d with ops := d.ops + 1, left := d.left - 1, off := decide (d.left = 1) }
/-- what it tells: power goes at it, or not -/
def told (d : Dk) : Int := if d.left = 1 then 8 else 0

def grow (b : List UInt8) (x : Fl) : Fl := { x with b := x.b ++ b }
def sure (x : Fl) : Fl := { x with safe := x.b.length }
def trim (n : Nat) (x : Fl) : Fl := { x with b := x.b.take n, safe := min x.safe n }
/-- what is left of a file behind a crash -/
def keeps (k : Int) (x : Fl) : Nat := x.safe + k.toNat % (x.b.length - x.safe + 1)
def setl (k : Int) (x : Fl) : Fl := { x with b := x.b.take (keeps k x), safe := keeps k x }

/-- the file begins, if it is not there -/
def begunL (l : List Fl) (f : Int) : List Fl := if seek l f = none then ins f l else l

def append (d : Dk) (f : Int) (b : List UInt8) : Int × Dk :=
  if refuse d f false = 0 then (told d, { tick d with files := put (begunL d.files f) f (grow b) }) else (refuse d f false, d)
/-- one of the three others: what it does, if power does not go at it -/
def oper (d : Dk) (l : List Fl) : Int × Dk := if d.left = 1 then (8, tick d) else (0, { tick d with files := l })
def sync (d : Dk) (f : Int) : Int × Dk := if refuse d f true = 0 then oper d (put d.files f sure) else (refuse d f true, d)
def size (d : Dk) (f : Int) : Int := match seek d.files f with | some x => x.b.length | none => -1
def safe (d : Dk) (f : Int) : Int := match seek d.files f with | some x => x.safe | none => -1
def cut (d : Dk) (f n : Int) : Int × Dk :=
  if refuse d f true = 0 then (if n < 0 ∨ size d f < n then (1, d) else oper d (put d.files f (trim n.toNat))) else (refuse d f true, d)
def remove (d : Dk) (f : Int) : Int × Dk := if refuse d f true = 0 then oper d (del d.files f) else (refuse d f true, d)
def arm (d : Dk) (n : Int) : Dk := { d with left := n.toNat }
def crashL : List Fl → List Int → List Fl
  | [], _ => []
  | x :: r, ks => setl (ks.headD 0) x :: crashL r ks.tail
def crash (d : Dk) (ks : List Int) : Dk := { d with files := crashL d.files ks, left := 0, off := false }

def none_ : Dk := ⟨[], 0, false, 0⟩

theorem keeps_le (k : Int) (x : Fl) (h : x.safe ≤ x.b.length) : x.safe ≤ keeps k x ∧ keeps k x ≤ x.b.length := by
  unfold keeps
  have := Nat.mod_lt k.toNat (show x.b.length - x.safe + 1 > 0 by omega)
  omega
theorem setl_id (k : Int) (x : Fl) : (setl k x).id = x.id := rfl
theorem setl_ok (k : Int) (x : Fl) (h : x.safe ≤ x.b.length) : (setl k x).safe ≤ (setl k x).b.length := by
  have := keeps_le k x h
  simp only [setl, List.length_take]
  omega
theorem grow_ok (b : List UInt8) (x : Fl) (h : x.safe ≤ x.b.length) : (grow b x).safe ≤ (grow b x).b.length := by
  simp only [grow, List.length_append]
  omega
theorem sure_ok (x : Fl) (_ : x.safe ≤ x.b.length) : (sure x).safe ≤ (sure x).b.length := Nat.le_refl _
theorem trim_ok (n : Nat) (x : Fl) (h : x.safe ≤ x.b.length) : (trim n x).safe ≤ (trim n x).b.length := by
  simp only [trim, List.length_take]
  omega
theorem crashL_length : ∀ (l : List Fl) (ks : List Int), (crashL l ks).length = l.length
  | [], _ => rfl
  | x :: r, ks => by rw [crashL, List.length_cons, crashL_length r, List.length_cons]
theorem crashL_ids : ∀ (l : List Fl) (ks : List Int), (crashL l ks).map (·.id) = l.map (·.id)
  | [], _ => rfl
  | x :: r, ks => by rw [crashL, List.map_cons, crashL_ids r, List.map_cons]; rfl
theorem crashL_up {lo : Int} : ∀ {l : List Fl} (ks : List Int), Up lo l → Up lo (crashL l ks)
  | [], _, _ => trivial
  | x :: _, ks, ⟨h1, h2, h3, h4⟩ => ⟨h1, h2, setl_ok _ x h3, crashL_up ks.tail h4⟩
theorem crashL_get : ∀ (l : List Fl) (ks : List Int) (i : Nat), (crashL l ks)[i]? = l[i]?.map (setl (ks.getD i 0))
  | [], _, _ => by simp [crashL]
  | x :: r, ks, 0 => by
    rw [crashL]
    cases ks <;> simp
  | x :: r, ks, i + 1 => by
    rw [crashL, List.getElem?_cons_succ, crashL_get r, List.getElem?_cons_succ]
    cases ks <;> simp

/-- i files of a crash are done -/
def crashTo (l : List Fl) (ks : List Int) (i : Nat) : List Fl := (crashL l ks).take i ++ l.drop i
theorem crashTo_zero (l : List Fl) (ks : List Int) : crashTo l ks 0 = l := by simp [crashTo]
theorem crashTo_all (l : List Fl) (ks : List Int) {i : Nat} (h : l.length ≤ i) : crashTo l ks i = crashL l ks := by
  rw [crashTo, List.drop_eq_nil_of_le h, List.append_nil, List.take_of_length_le (by rw [crashL_length]; exact h)]
theorem crashTo_up {lo : Int} : ∀ {l : List Fl} (ks : List Int) (i : Nat), Up lo l → Up lo (crashTo l ks i)
  | [], ks, i, _ => by simp [crashTo, crashL]; trivial
  | _ :: _, ks, 0, h => by rw [crashTo_zero]; exact h
  | x :: r, ks, i + 1, ⟨h1, h2, h3, h4⟩ => by
    have ih := crashTo_up (l := r) ks.tail i h4
    exact ⟨h1, h2, setl_ok _ x h3, ih⟩
theorem crashTo_ids (l : List Fl) (ks : List Int) (i : Nat) : (crashTo l ks i).map (·.id) = l.map (·.id) := by
  rw [crashTo, List.map_append, List.map_take, crashL_ids, List.map_drop, List.take_append_drop]
theorem crashTo_length (l : List Fl) (ks : List Int) (i : Nat) : (crashTo l ks i).length = l.length := by
  have := congrArg List.length (crashTo_ids l ks i)
  simpa using this
theorem crashTo_get (l : List Fl) (ks : List Int) {i : Nat} (h : i < l.length) : (crashTo l ks i)[i]? = l[i]? := by
  have hl : ((crashL l ks).take i).length = i := by rw [List.length_take, crashL_length]; omega
  rw [crashTo, List.getElem?_append_right (by omega), hl, Nat.sub_self, List.getElem?_drop, Nat.add_zero]
theorem crashTo_succ {lo : Int} : ∀ {l : List Fl} (ks : List Int) {i : Nat} {x : Fl}, Up lo l → l[i]? = some x → crashTo l ks (i + 1) = put (crashTo l ks i) x.id (setl (ks.getD i 0))
  | [], _, _, _, _, h => by simp at h
  | y :: r, ks, 0, x, ⟨h1, h2, h3, h4⟩, h => by
    simp only [List.getElem?_cons_zero, Option.some.injEq] at h
    subst h
    rw [crashTo_zero, crashTo, crashL]
    have e : r.map (fun z => if z.id = y.id then setl (ks.getD 0 0) z else z) = r := by
      conv => rhs; rw [← List.map_id r]
      apply List.map_congr_left
      intro z hz
      have := (h4.mem z hz).1
      rw [if_neg (by omega)]
      rfl
    rw [put, List.map_cons, if_pos rfl, e]
    cases ks <;> simp
  | y :: r, ks, i + 1, x, ⟨h1, h2, h3, h4⟩, h => by
    rw [List.getElem?_cons_succ] at h
    have ih := crashTo_succ (l := r) ks.tail h4 h
    have hx := (h4.mem x (List.mem_of_getElem? h)).1
    have e1 : crashTo (y :: r) ks (i + 1 + 1) = setl (ks.headD 0) y :: crashTo r ks.tail (i + 1) := rfl
    have e2 : crashTo (y :: r) ks (i + 1) = setl (ks.headD 0) y :: crashTo r ks.tail i := rfl
    have e3 : ks.getD (i + 1) 0 = ks.tail.getD i 0 := by cases ks <;> simp
    rw [e1, e2, e3, ih]
    show _ = List.map _ (_ :: _)
    rw [List.map_cons, if_neg (by rw [setl_id]; omega)]
    rfl
end Go.Proofs.Ytlkjmdkmcaaihaa.DiskMath

namespace Go.Proofs.Ytlkjmdkmcaaihaa.WalMath
open FieldMath RecMath SegMath
open DiskMath (Fl Dk Up seek ins del grow sure begunL)

/-- a segment: its file, its first number, its entries, how many bytes they and the head have -/
structure Sg where
  file : Int
  first : Int
  rows : List (List UInt8)
  size : Nat
/-- where bytes are written -/
structure Pc where
  file : Int
  had : Nat
  begins : Bool
structure Lg where
  segs : List Sg
  base : Int
  size : Int
  left : Option Pc

def last (s : Sg) : Int := s.first + s.rows.length - 1
def hd (l : List Sg) : Int := match l.getLast? with | none => 0 | some s => last s
def low : List Sg → Int | [] => 1 | s :: _ => s.first
def nextF (l : Lg) : Int := match l.segs.getLast? with | none => l.base | some s => s.file + 1
def room (l : Lg) (s : Sg) (n : Nat) : Bool := decide (s.rows.length = 0) || decide ((s.size : Int) + n ≤ l.size)
def fresh (l : Lg) (p : List UInt8) : Except Nat (Pc × List UInt8) :=
  if l.base + 4096 ≤ nextF l then .error 7 else .ok (⟨nextF l, 0, true⟩, headB (hd l.segs + 1) ++ recB p)
def spot (l : Lg) (p : List UInt8) : Except Nat (Pc × List UInt8) := match l.segs.getLast? with
  | some s => if room l s (8 + p.length) then .ok (⟨s.file, s.size, false⟩, recB p) else fresh l p
  | none => fresh l p
/-- which bytes are to be written for the entry p, and where -/
def plan (l : Lg) (off : Bool) (p : List UInt8) : Except Nat (Pc × List UInt8) :=
  if 1048576 < p.length then .error 1 else if off then .error 8 else if hd l.segs = 1099511627776 then .error 7 else spot l p
theorem spot_room {l : Lg} {p : List UInt8} {s : Sg} (h : l.segs.getLast? = some s) (hr : room l s (8 + p.length) = true) : spot l p = .ok (⟨s.file, s.size, false⟩, recB p) := by unfold spot; rw [h]; simp only [hr, if_true]
theorem spot_full {l : Lg} {p : List UInt8} {s : Sg} (h : l.segs.getLast? = some s) (hr : room l s (8 + p.length) = false) : spot l p = fresh l p := by unfold spot; rw [h]; simp [hr]
theorem spot_none {l : Lg} {p : List UInt8} (h : l.segs.getLast? = none) : spot l p = fresh l p := by unfold spot; rw [h]
/-- what an elder write left is taken away -/
def clean (l : Lg) (d : Dk) : Int × Dk := match l.left with
  | none => (0, d)
  | some p => if p.begins then DiskMath.remove d p.file else DiskMath.cut d p.file p.had
def write (l : Lg) (d : Dk) (at_ : Pc) (b : List UInt8) : Int × Lg × Dk :=
  if (clean l d).1 = 0 then ((DiskMath.append (clean l d).2 at_.file b).1, { l with left := some at_ }, (DiskMath.append (clean l d).2 at_.file b).2) else ((clean l d).1, l, (clean l d).2)
def enter (l : List Sg) (at_ : Pc) (n : Nat) (p : List UInt8) : List Sg :=
  if at_.begins then l ++ [⟨at_.file, hd l + 1, [p], n⟩]
  else match l.getLast? with
    | none => l
    | some s => l.dropLast ++ [{ s with rows := s.rows ++ [p], size := s.size + n }]
/-- what a call of the log answers: a number, why not; the log, the disk -/
structure An where
  n : Int
  e : Int
  l : Lg
  d : Dk
def synced (l : Lg) (d : Dk) (at_ : Pc) (b p : List UInt8) : An :=
  if (DiskMath.sync d at_.file).1 = 0 then ⟨hd (enter l.segs at_ b.length p), 0, { l with segs := enter l.segs at_ b.length p, left := none }, (DiskMath.sync d at_.file).2⟩ else ⟨0, (DiskMath.sync d at_.file).1, l, (DiskMath.sync d at_.file).2⟩
def append (l : Lg) (d : Dk) (p : List UInt8) : An := match plan l d.off p with
  | .error e => ⟨0, e, l, d⟩
  | .ok (at_, b) => if (write l d at_ b).1 = 0 then synced (write l d at_ b).2.1 (write l d at_ b).2.2 at_ b p else ⟨0, (write l d at_ b).1, (write l d at_ b).2.1, (write l d at_ b).2.2⟩
def tear (l : Lg) (d : Dk) (p : List UInt8) (k : Int) : Int × Lg × Dk :=
  if k < 0 then (1, l, d) else match plan l d.off p with
  | .error e => (e, l, d)
  | .ok (at_, b) => write l d at_ (b.take (k.toNat % b.length))
def trimS (lsn : Int) : List Sg → Dk → Int × List Sg × Dk
  | s :: t :: r, d => if last s ≤ lsn then (if (DiskMath.remove d s.file).1 = 0 then trimS lsn (t :: r) (DiskMath.remove d s.file).2 else ((DiskMath.remove d s.file).1, s :: t :: r, (DiskMath.remove d s.file).2)) else (0, s :: t :: r, d)
  | l, d => (0, l, d)
def trim (l : Lg) (d : Dk) (lsn : Int) : Int × Lg × Dk := if d.off then (8, l, d) else ((trimS lsn l.segs d).1, { l with segs := (trimS lsn l.segs d).2.1 }, (trimS lsn l.segs d).2.2)

/-! ### opening -/
def segOf (x : Fl) : Sg := ⟨x.id, (sread x.b).x, (sread x.b).rows, (sread x.b).n⟩
def goesOn (l : List Sg) (s : Sg) : Bool := (decide (l.length = 0) || decide (s.first = hd l + 1)) && decide (last s ≤ 1099511627776)
def isWhole (s : Sg) (n : Nat) : Bool := decide (0 < s.rows.length) && !decide (s.size < n)
/-- the segments that files are, the last one of which may be none -/
def load (f0 : Int) : Nat → List Sg → List Fl → Option (List Sg)
  | _, acc, [] => some acc
  | i, acc, x :: r =>
    if x.id ≠ f0 + i then none
    else if r.length = 0 ∧ (sread x.b).e ≠ 0 then some acc
    else if (sread x.b).e ≠ 0 ∨ goesOn acc (segOf x) = false ∨ (r.length ≠ 0 ∧ isWhole (segOf x) x.b.length = false) then none
    else load f0 (i + 1) (acc ++ [segOf x]) r
def mine (base : Int) (x : Fl) : Bool := decide (base ≤ x.id ∧ x.id < base + 4096)
def own (d : Dk) (base : Int) : List Fl := d.files.filter (mine base)
def loads (l : List Fl) : Option (List Sg) := match l with | [] => some [] | x :: r => load x.id 0 [] (x :: r)
def mend (d : Dk) (fs : List Fl) (segs : List Sg) : Int × Dk := match fs[segs.length]? with
  | some x => DiskMath.remove d x.id
  | none => match segs.getLast? with
    | none => (0, d)
    | some s => if (s.size : Int) < DiskMath.size d s.file then DiskMath.cut d s.file s.size else (0, d)
structure Op where
  e : Int
  l : Option Lg
  d : Dk
def mended (base size : Int) (segs : List Sg) (m : Int × Dk) : Op := if m.1 = 0 then ⟨0, some ⟨segs, base, size, none⟩, m.2⟩ else ⟨m.1, none, m.2⟩
def open_ (d : Dk) (base size : Int) : Op :=
  if base < 0 ∨ 12288 < base ∨ size < 64 ∨ 65536 < size then ⟨1, none, d⟩
  else if d.off then ⟨8, none, d⟩
  else match loads (own d base) with
    | none => ⟨3, none, d⟩
    | some segs => mended base size segs (mend d (own d base) segs)

/-! ### a log as it should be -/
def bytesOf (s : Sg) : List UInt8 := headB s.first ++ recs s.rows
def fl (s : Sg) : Fl := ⟨s.file, bytesOf s, (bytesOf s).length⟩
def img (l : List Sg) : List Fl := l.map fl
def rowsOf (l : List Sg) : List (List UInt8) := l.flatMap (·.rows)
def cnt (l : List Sg) : Nat := (rowsOf l).length
def One (f x : Int) (s : Sg) : Prop := s.file = f ∧ s.first = x ∧ s.size = (bytesOf s).length ∧ ∀ p ∈ s.rows, p.length ≤ 1048576
def Full : Int → Int → List Sg → Prop
  | _, _, [] => True
  | f, x, s :: r => One f x s ∧ s.rows ≠ [] ∧ Full (f + 1) (x + s.rows.length) r
/-- segments one behind the other, from file f and number x on; the last one may be without entries -/
def Chain (f x : Int) (l : List Sg) : Prop := l = [] ∨ ∃ pre s, l = pre ++ [s] ∧ Full f x pre ∧ One (f + pre.length) (x + cnt pre) s

theorem rowsOf_append (l m : List Sg) : rowsOf (l ++ m) = rowsOf l ++ rowsOf m := List.flatMap_append
theorem rowsOf_one (s : Sg) : rowsOf [s] = s.rows := by simp [rowsOf]
theorem rowsOf_snoc (l : List Sg) (s : Sg) : rowsOf (l ++ [s]) = rowsOf l ++ s.rows := by rw [rowsOf_append, rowsOf_one]
theorem rowsOf_cons (s : Sg) (l : List Sg) : rowsOf (s :: l) = s.rows ++ rowsOf l := List.flatMap_cons
theorem cnt_snoc (l : List Sg) (s : Sg) : cnt (l ++ [s]) = cnt l + s.rows.length := by rw [cnt, rowsOf_snoc, List.length_append]; rfl
theorem cnt_cons (s : Sg) (l : List Sg) : cnt (s :: l) = s.rows.length + cnt l := by rw [cnt, rowsOf_cons, List.length_append]; rfl
theorem hd_nil : hd [] = 0 := rfl
theorem hd_snoc (l : List Sg) (s : Sg) : hd (l ++ [s]) = last s := by simp [hd]
theorem img_append (l m : List Sg) : img (l ++ m) = img l ++ img m := List.map_append
theorem img_length (l : List Sg) : (img l).length = l.length := List.length_map _
theorem bytesOf_length (s : Sg) : (bytesOf s).length = 19 + (recs s.rows).length := by rw [bytesOf, List.length_append, headB_length]

theorem full_snoc {f x : Int} {l : List Sg} {s : Sg} (h : Full f x l) (hs : One (f + l.length) (x + cnt l) s) (hr : s.rows ≠ []) : Full f x (l ++ [s]) := by
  induction l generalizing f x with
  | nil =>
    refine ⟨?_, hr, trivial⟩
    simpa [cnt, rowsOf] using hs
  | cons t l ih =>
    refine ⟨h.1, h.2.1, ih h.2.2 ?_⟩
    rw [cnt_cons, List.length_cons] at hs
    rw [show f + 1 + (l.length : Int) = f + ((l.length + 1 : Nat) : Int) by omega, show x + (t.rows.length : Int) + (cnt l : Int) = x + ((t.rows.length + cnt l : Nat) : Int) by omega]
    exact hs
theorem full_mem {f x : Int} {l : List Sg} (h : Full f x l) : ∀ s ∈ l, f ≤ s.file ∧ s.file < f + l.length ∧ x ≤ s.first ∧ last s < x + cnt l ∧ s.size = (bytesOf s).length ∧ (∀ p ∈ s.rows, p.length ≤ 1048576) := by
  induction l generalizing f x with
  | nil => intro s hs; cases hs
  | cons t l ih =>
    intro s hs
    obtain ⟨⟨h1, h2, h3, h4⟩, h5, h6⟩ := h
    rw [cnt_cons, List.length_cons]
    rcases List.mem_cons.1 hs with rfl | hs
    · refine ⟨by omega, by omega, by omega, ?_, h3, h4⟩
      unfold last
      omega
    · obtain ⟨a, b, c, d, e, g⟩ := ih h6 s hs
      exact ⟨by omega, by omega, by omega, by omega, e, g⟩
theorem last_one {f x : Int} {s : Sg} (h : One f x s) : last s = x + s.rows.length - 1 := by rw [last, h.2.1]
theorem hd_full {f x : Int} {l : List Sg} (h : Full f x l) (h0 : l ≠ []) : hd l = x + cnt l - 1 := by
  induction l generalizing f x with
  | nil => exact absurd rfl h0
  | cons t l ih =>
    cases l with
    | nil =>
      show last t = _
      rw [last_one h.1, cnt_cons]
      simp [cnt, rowsOf]
    | cons u l =>
      have := ih h.2.2 (by simp)
      have e : hd (t :: u :: l) = hd (u :: l) := by simp [hd, List.getLast?_cons_cons]
      rw [e, this, cnt_cons t]
      omega
theorem hd_chain {f x : Int} {l : List Sg} (h : Chain f x l) (h0 : l ≠ []) : hd l = x + cnt l - 1 := by
  rcases h with h | ⟨pre, s, rfl, _, h2⟩
  · exact absurd h h0
  · rw [hd_snoc, last_one h2, cnt_snoc]; omega
theorem low_chain {f x : Int} {l : List Sg} (h : Chain f x l) (h0 : l ≠ []) : low l = x := by
  rcases h with h | ⟨pre, s, rfl, h1, h2⟩
  · exact absurd h h0
  · cases pre with
    | nil => simpa [low, cnt, rowsOf] using h2.2.1
    | cons t pre => exact h1.1.2.1
theorem low_chain1 {f : Int} {l : List Sg} (h : Chain f 1 l) : low l = 1 := by
  by_cases h0 : l = []
  · rw [h0]; rfl
  · exact low_chain h h0
theorem hd_chain1 {f : Int} {l : List Sg} (h : Chain f 1 l) : hd l = cnt l := by
  by_cases h0 : l = []
  · rw [h0]; rfl
  · rw [hd_chain h h0]; omega
theorem chain_mem {f x : Int} {l : List Sg} (h : Chain f x l) : ∀ s ∈ l, f ≤ s.file ∧ s.file < f + l.length ∧ x ≤ s.first ∧ last s < x + cnt l ∧ s.size = (bytesOf s).length ∧ (∀ p ∈ s.rows, p.length ≤ 1048576) := by
  rcases h with rfl | ⟨pre, t, rfl, h1, h2⟩
  · intro s hs; cases hs
  · intro s hs
    rw [cnt_snoc, List.length_append, List.length_singleton]
    rcases List.mem_append.1 hs with hs | hs
    · obtain ⟨a, b, c, d, e, g⟩ := full_mem h1 s hs
      exact ⟨by omega, by omega, by omega, by omega, e, g⟩
    · rw [List.mem_singleton] at hs
      subst hs
      obtain ⟨a, b, c, d⟩ := h2
      refine ⟨by omega, by omega, by omega, ?_, c, d⟩
      unfold last
      omega
theorem chain_snoc {f x : Int} {l : List Sg} {s : Sg} (h : Full f x l) (hs : One (f + l.length) (x + cnt l) s) : Chain f x (l ++ [s]) := .inr ⟨l, s, rfl, h, hs⟩
theorem full_chain {f x : Int} {l : List Sg} (h : Full f x l) : Chain f x l := by
  rcases List.eq_nil_or_concat l with rfl | ⟨pre, s, rfl⟩
  · exact .inl rfl
  · rw [List.concat_eq_append] at h ⊢
    refine .inr ⟨pre, s, rfl, ?_⟩
    induction pre generalizing f x with
    | nil => exact ⟨trivial, by simpa [cnt, rowsOf] using h.1⟩
    | cons t pre ih =>
      obtain ⟨h1, h2, h3⟩ := h
      obtain ⟨a, b⟩ := ih h3
      refine ⟨⟨h1, h2, a⟩, ?_⟩
      rw [cnt_cons, List.length_cons]
      rw [show f + 1 + (pre.length : Int) = f + ((pre.length + 1 : Nat) : Int) by omega, show x + (t.rows.length : Int) + (cnt pre : Int) = x + ((t.rows.length + cnt pre : Nat) : Int) by omega] at b
      exact b

/-! ### numbers that run on -/
def Runs : Int → List Sg → Prop
  | _, [] => True
  | x, s :: r => s.first = x ∧ Runs (x + s.rows.length) r
theorem Runs.snoc {x : Int} {l : List Sg} {s : Sg} (h : Runs x l) (hs : s.first = x + cnt l) : Runs x (l ++ [s]) := by
  induction l generalizing x with
  | nil => exact ⟨by simpa [cnt, rowsOf] using hs, trivial⟩
  | cons t l ih => exact ⟨h.1, ih h.2 (by rw [cnt_cons] at hs; omega)⟩
theorem full_runs {f x : Int} {l : List Sg} (h : Full f x l) : Runs x l := by
  induction l generalizing f x with
  | nil => trivial
  | cons t l ih => exact ⟨h.1.2.1, ih h.2.2⟩
theorem chain_runs {f x : Int} {l : List Sg} (h : Chain f x l) : Runs x l := by
  rcases h with rfl | ⟨pre, s, rfl, h1, h2⟩
  · trivial
  · exact (full_runs h1).snoc h2.2.1
theorem runs_hd {x : Int} {l : List Sg} (h : Runs x l) (h0 : l ≠ []) : hd l = x + cnt l - 1 := by
  induction l generalizing x with
  | nil => exact absurd rfl h0
  | cons t l ih =>
    cases l with
    | nil =>
      show last t = _
      rw [last, h.1, cnt_cons]
      simp [cnt, rowsOf]
    | cons u l =>
      have := ih h.2 (by simp)
      have e : hd (t :: u :: l) = hd (u :: l) := by simp [hd, List.getLast?_cons_cons]
      rw [e, this, cnt_cons t]
      omega
/-- the segment that number n lies in, and where -/
theorem runs_at {x : Int} {l : List Sg} (h : Runs x l) {n : Int} (h0 : x ≤ n) (h1 : n < x + cnt l) :
    ∃ (k : Nat) (s : Sg), l[k]? = some s ∧ s.first ≤ n ∧ n - s.first < s.rows.length ∧ s.rows[(n - s.first).toNat]? = (rowsOf l)[(n - x).toNat]? ∧ (∀ (j : Nat) (t : Sg), l[j]? = some t → (j ≤ k → t.first ≤ n) ∧ (k < j → n < t.first)) := by
  induction l generalizing x with
  | nil => simp [cnt, rowsOf] at h1; omega
  | cons t l ih =>
    rw [cnt_cons] at h1
    obtain ⟨e, h⟩ := h
    have hmono : ∀ (l : List Sg) (y : Int), Runs y l → ∀ (j : Nat) (u : Sg), l[j]? = some u → y ≤ u.first := by
      intro l
      induction l with
      | nil => intro y _ j u hu; simp at hu
      | cons v l ih2 =>
        intro y hy j u hu
        cases j with
        | zero => simp at hu; subst hu; rw [hy.1]; omega
        | succ j =>
          rw [List.getElem?_cons_succ] at hu
          have := ih2 _ hy.2 j u hu
          omega
    by_cases hn : n < x + t.rows.length
    · refine ⟨0, t, rfl, by omega, by omega, ?_, fun j u hu => ⟨fun hj => ?_, fun hj => ?_⟩⟩
      · rw [rowsOf_cons, e, List.getElem?_append_left (by omega)]
      · obtain rfl : j = 0 := by omega
        simp at hu
        subst hu
        omega
      · cases j with
        | zero => omega
        | succ j =>
          rw [List.getElem?_cons_succ] at hu
          have := hmono _ _ h j u hu
          omega
    · obtain ⟨k, s, a, b, c, d, g⟩ := ih h (by omega) (by omega)
      refine ⟨k + 1, s, by simpa using a, b, c, ?_, fun j u hu => ?_⟩
      · rw [rowsOf_cons, List.getElem?_append_right (by omega), d]
        congr 1
        omega
      · cases j with
        | zero =>
          simp at hu
          subst hu
          exact ⟨fun _ => by omega, fun hj => by omega⟩
        | succ j =>
          rw [List.getElem?_cons_succ] at hu
          have := g j u hu
          exact ⟨fun hj => this.1 (by omega), fun hj => this.2 (by omega)⟩

/-! ### what a plan is -/
theorem plan_ok {l : Lg} {off : Bool} {p b : List UInt8} {q : Pc} (h : plan l off p = .ok (q, b)) :
    p.length ≤ 1048576 ∧ off = false ∧ hd l.segs ≠ 1099511627776 ∧ b.length ≤ 1048603 ∧ 0 < b.length ∧
      ((∃ pre s, l.segs = pre ++ [s] ∧ q = ⟨s.file, s.size, false⟩ ∧ b = recB p ∧ room l s (8 + p.length) = true) ∨ (q = ⟨nextF l, 0, true⟩ ∧ b = headB (hd l.segs + 1) ++ recB p ∧ nextF l < l.base + 4096 ∧ ∀ pre s, l.segs = pre ++ [s] → room l s (8 + p.length) = false)) := by
  unfold plan at h
  split at h
  · cases h
  · rename_i h1
    split at h
    · cases h
    · rename_i h2
      split at h
      · cases h
      · rename_i h3
        have hfr : (∀ pre s, l.segs = pre ++ [s] → room l s (8 + p.length) = false) → fresh l p = .ok (q, b) → b.length ≤ 1048603 ∧ 0 < b.length ∧ (q = ⟨nextF l, 0, true⟩ ∧ b = headB (hd l.segs + 1) ++ recB p ∧ nextF l < l.base + 4096 ∧ ∀ pre s, l.segs = pre ++ [s] → room l s (8 + p.length) = false) := fun hro hf => by
          unfold fresh at hf
          split at hf
          · cases hf
          · rename_i h4
            injection hf with hf
            injection hf with hq hb
            subst hq hb
            refine ⟨?_, ?_, rfl, rfl, by omega, hro⟩
            · rw [List.length_append, headB_length, recB_length]; omega
            · rw [List.length_append, headB_length]; omega
        refine ⟨by omega, by simpa using h2, h3, ?_⟩
        cases hs : l.segs.getLast? with
        | none =>
          rw [spot_none hs] at h
          have hnil : l.segs = [] := List.getLast?_eq_none_iff.1 hs
          obtain ⟨a, b, c⟩ := hfr (fun pre s e => by rw [hnil] at e; simp at e) h
          exact ⟨a, b, .inr c⟩
        | some s =>
          obtain ⟨pre, hcon⟩ := List.getLast?_eq_some_iff.1 hs
          cases hr : room l s (8 + p.length) with
          | true =>
            rw [spot_room hs hr] at h
            injection h with h
            injection h with hq hb
            subst hq hb
            exact ⟨by rw [recB_length]; omega, by rw [recB_length]; omega, .inl ⟨pre, s, hcon, rfl, rfl, hr⟩⟩
          | false =>
            rw [spot_full hs hr] at h
            obtain ⟨a, b, c⟩ := hfr (fun pre' s' e => by
              rw [hcon] at e
              have := List.append_inj_right' e rfl
              injection this with this
              rw [← this]
              exact hr) h
            exact ⟨a, b, .inr c⟩
theorem plan_err {l : Lg} {off : Bool} {p : List UInt8} {k : Nat} (h : plan l off p = .error k) : k ≠ 0 := by
  have hfr : ∀ k, fresh l p = .error k → k ≠ 0 := fun k hf => by
    unfold fresh at hf
    split at hf
    · injection hf with hf; omega
    · cases hf
  unfold plan at h
  split at h
  · injection h with h; omega
  · split at h
    · injection h with h; omega
    · split at h
      · injection h with h; omega
      · cases hs : l.segs.getLast? with
        | none => rw [spot_none hs] at h; exact hfr k h
        | some s =>
          cases hr : room l s (8 + p.length) with
          | true => rw [spot_room hs hr] at h; cases h
          | false => rw [spot_full hs hr] at h; exact hfr k h
theorem enter_snoc {pre : List Sg} {s : Sg} {q : Pc} {n : Nat} {p : List UInt8} (hq : q.begins = false) : enter (pre ++ [s]) q n p = pre ++ [{ s with rows := s.rows ++ [p], size := s.size + n }] := by
  unfold enter
  rw [hq]
  simp
theorem enter_begins {l : List Sg} {q : Pc} {n : Nat} {p : List UInt8} (hq : q.begins = true) : enter l q n p = l ++ [⟨q.file, hd l + 1, [p], n⟩] := by
  unfold enter
  rw [hq]
  simp

/-! ### how far a disk goes -/
def Cap (k M : Nat) (d : Dk) : Prop := d.ops ≤ k ∧ d.left ≤ 1000000 ∧ ∀ x ∈ d.files, x.b.length ≤ M
section
variable {k k' M M' : Nat} {d : Dk}
theorem Cap.mono (h : Cap k M d) (hk : k ≤ k') (hM : M ≤ M') : Cap k' M' d := ⟨by have := h.1; omega, h.2.1, fun x hx => Nat.le_trans (h.2.2 x hx) hM⟩
theorem Cap.tick (h : Cap k M d) {fs : List Fl} (hf : ∀ x ∈ fs, x.b.length ≤ M') : Cap (k + 1) M' { DiskMath.tick d with files := fs } := ⟨by have := h.1; show d.ops + 1 ≤ _; omega, by have := h.2.1; show d.left - 1 ≤ _; omega, hf⟩
theorem Cap.oper (h : Cap k M d) {fs : List Fl} (hf : ∀ x ∈ fs, x.b.length ≤ M) : Cap (k + 1) M (DiskMath.oper d fs).2 := by
  unfold DiskMath.oper
  split
  · exact h.tick (fs := d.files) h.2.2
  · exact h.tick hf
theorem put_len {l : List Fl} {f : Int} {g : Fl → Fl} (hl : ∀ x ∈ l, x.b.length ≤ M) (hg : ∀ x, x.b.length ≤ M → (g x).b.length ≤ M') (hM : M ≤ M') : ∀ x ∈ DiskMath.put l f g, x.b.length ≤ M' := fun x hx => by
  obtain ⟨y, hy, ⟨_, rfl⟩ | ⟨_, rfl⟩⟩ := DiskMath.put_mem hx
  · exact hg y (hl y hy)
  · exact Nat.le_trans (hl _ hy) hM
theorem Cap.remove (h : Cap k M d) (f : Int) : Cap (k + 1) M (DiskMath.remove d f).2 := by
  unfold DiskMath.remove
  split
  · exact h.oper fun x hx => h.2.2 x (List.mem_filter.1 hx).1
  · exact h.mono (by omega) (Nat.le_refl _)
theorem Cap.cut (h : Cap k M d) (f n : Int) : Cap (k + 1) M (DiskMath.cut d f n).2 := by
  unfold DiskMath.cut
  split
  · split
    · exact h.mono (by omega) (Nat.le_refl _)
    · exact h.oper (put_len h.2.2 (fun x hx => by show (x.b.take n.toNat).length ≤ _; rw [List.length_take]; omega) (Nat.le_refl _))
  · exact h.mono (by omega) (Nat.le_refl _)
theorem Cap.sync (h : Cap k M d) (f : Int) : Cap (k + 1) M (DiskMath.sync d f).2 := by
  unfold DiskMath.sync
  split
  · exact h.oper (put_len h.2.2 (fun x hx => hx) (Nat.le_refl _))
  · exact h.mono (by omega) (Nat.le_refl _)
theorem Cap.append (h : Cap k M d) (f : Int) (b : List UInt8) : Cap (k + 1) (M + b.length) (DiskMath.append d f b).2 := by
  unfold DiskMath.append
  split
  · refine h.tick (put_len (M := M) (fun x hx => ?_) (fun x hx => by show (x.b ++ b).length ≤ _; rw [List.length_append]; omega) (by omega))
    unfold begunL at hx
    split at hx
    · rcases DiskMath.ins_mem hx with rfl | h2
      · exact Nat.zero_le _
      · exact h.2.2 x h2
    · exact h.2.2 x hx
  · exact h.mono (by omega) (by omega)
theorem Cap.clean (h : Cap k M d) (l : Lg) : Cap (k + 1) M (clean l d).2 := by
  unfold WalMath.clean
  split
  · exact h.mono (by omega) (Nat.le_refl _)
  · split
    · exact h.remove _
    · exact h.cut _ _
theorem crashL_len {n : Nat} : ∀ {l : List Fl} {ks : List Int}, (∀ x ∈ l, x.b.length ≤ n) → ∀ x ∈ DiskMath.crashL l ks, x.b.length ≤ n
  | [], _, _, x, hx => by simp [DiskMath.crashL] at hx
  | y :: r, ks, hl, x, hx => by
    rw [DiskMath.crashL, List.mem_cons] at hx
    rcases hx with rfl | hx
    · have := hl y (by simp)
      show (y.b.take _).length ≤ n
      rw [List.length_take]
      omega
    · exact crashL_len (fun z hz => hl z (by simp [hz])) x hx
theorem Cap.crash (h : Cap k M d) (ks : List Int) : Cap k M (DiskMath.crash d ks) := ⟨h.1, Nat.zero_le _, crashL_len h.2.2⟩
end
end Go.Proofs.Ytlkjmdkmcaaihaa.WalMath

namespace Go.Proofs.Ytlkjmdkmcaaihaa.WalMath
open FieldMath RecMath SegMath
open DiskMath (Fl Dk Up seek ins del grow sure begunL)

/-! ### the last file -/
theorem put_last {l : List Fl} {z : Fl} {g : Fl → Fl} (h : ∀ y ∈ l, y.id ≠ z.id) : DiskMath.put (l ++ [z]) z.id g = l ++ [g z] := by
  unfold DiskMath.put
  rw [List.map_append, List.map_cons, List.map_nil, if_pos rfl]
  congr 1
  conv => rhs; rw [← List.map_id l]
  apply List.map_congr_left
  intro y hy
  rw [if_neg (h y hy)]
  rfl
theorem seek_last {l : List Fl} {z : Fl} (h : ∀ y ∈ l, y.id ≠ z.id) : seek (l ++ [z]) z.id = some z := by
  unfold DiskMath.seek
  rw [List.find?_append]
  have : l.find? (fun x => decide (x.id = z.id)) = none := List.find?_eq_none.2 fun y hy => by simpa using h y hy
  rw [this]
  simp
theorem seek_off {l : List Fl} {f : Int} (h : ∀ y ∈ l, y.id ≠ f) : seek l f = none := List.find?_eq_none.2 fun y hy => by simpa using h y hy
theorem ins_last {f : Int} : ∀ {l : List Fl}, (∀ y ∈ l, y.id < f) → ins f l = l ++ [⟨f, [], 0⟩]
  | [], _ => rfl
  | x :: r, h => by
    unfold DiskMath.ins
    rw [if_pos (h x List.mem_cons_self), ins_last fun y hy => h y (List.mem_cons_of_mem _ hy)]
    rfl
theorem del_last {l : List Fl} {z : Fl} (h : ∀ y ∈ l, y.id ≠ z.id) : del (l ++ [z]) z.id = l := by
  unfold DiskMath.del
  rw [List.filter_append]
  have : l.filter (fun x => decide (x.id ≠ z.id)) = l := List.filter_eq_self.2 fun y hy => by simpa using h y hy
  rw [this]
  simp
theorem img_lt {f x : Int} {l : List Sg} (h : Full f x l) : ∀ y ∈ img l, f ≤ y.id ∧ y.id < f + l.length := by
  intro y hy
  obtain ⟨s, hs, rfl⟩ := List.mem_map.1 hy
  exact ⟨(full_mem h s hs).1, (full_mem h s hs).2.1⟩

/-- all but the last are whole, the last one is s -/
structure Tip (f x : Int) (pre : List Sg) (s : Sg) : Prop where
  full : Full f x pre
  one : One (f + pre.length) (x + cnt pre) s
theorem Tip.ids {f x : Int} {pre : List Sg} {s : Sg} (h : Tip f x pre s) : ∀ y ∈ img pre, y.id ≠ s.file := fun y hy => by
  have a := (img_lt h.full y hy).2
  have b := h.one.1
  omega
theorem Tip.chain {f x : Int} {pre : List Sg} {s : Sg} (h : Tip f x pre s) : Chain f x (pre ++ [s]) := chain_snoc h.full h.one
theorem chain_tip {f x : Int} {l : List Sg} (h : Chain f x l) (h0 : l ≠ []) : ∃ pre s, l = pre ++ [s] ∧ Tip f x pre s := by
  rcases h with h | ⟨pre, s, rfl, h1, h2⟩
  · exact absurd h h0
  · exact ⟨pre, s, rfl, h1, h2⟩

/-- what an Append makes: the new last segment, and what was safe of its file -/
structure Next (f x : Int) (l : Lg) (p : List UInt8) (pre : List Sg) (s : Sg) (s0 : Nat) (q : Pc) (b : List UInt8) : Prop where
  tip : Tip f x pre s
  plan : plan l false p = .ok (q, b)
  file : q.file = s.file
  segs : enter l.segs q b.length p = pre ++ [s]
  rows : rowsOf (pre ++ [s]) = rowsOf l.segs ++ [p]
  len : pre.length + 1 ≤ l.segs.length + 1
  safe : (s0 = 0 ∧ s.rows = [p]) ∨ ∃ rs, s.rows = rs ++ [p] ∧ s0 = 19 + (recs rs).length
  part : ∃ old, bytesOf s = old ++ b ∧ s0 = old.length ∧ (∀ (d : Dk) (c : List UInt8), d.files = img l.segs → d.off = false → DiskMath.append d q.file c = (DiskMath.told d, { DiskMath.tick d with files := img pre ++ [⟨s.file, old ++ c, s0⟩] })) ∧
    ((q.begins = true ∧ img l.segs = img pre) ∨ (q.begins = false ∧ q.had = s0 ∧ img l.segs = img pre ++ [⟨s.file, old, s0⟩]))
theorem Next.lay {f x : Int} {l : Lg} {p : List UInt8} {pre : List Sg} {s : Sg} {s0 : Nat} {q : Pc} {b : List UInt8} (N : Next f x l p pre s s0 q b) (d : Dk) (h1 : d.files = img l.segs) (h2 : d.off = false) : DiskMath.append d q.file b = (DiskMath.told d, { DiskMath.tick d with files := img pre ++ [⟨s.file, bytesOf s, s0⟩] }) := by
  obtain ⟨old, e1, _, e3, _⟩ := N.part
  rw [e3 d b h1 h2, e1]

theorem append_files {d : Dk} {f : Int} {b : List UInt8} (hoff : d.off = false) (h0 : 0 ≤ f) (h1 : f < 16384) : DiskMath.append d f b = (DiskMath.told d, { DiskMath.tick d with files := DiskMath.put (begunL d.files f) f (grow b) }) := by
  have hr : DiskMath.refuse d f false = 0 := by
    unfold DiskMath.refuse
    rw [hoff, if_neg (by simp), if_neg (by omega), if_neg (by simp)]
  unfold DiskMath.append
  rw [hr, if_pos rfl]

theorem next_of {l : Lg} {p : List UInt8} {x : Int} {f : Int} (hc : Chain f x l.segs) (hx : l.segs = [] → x = 1 ∧ f = l.base) (_hx1 : 1 ≤ x) (hf : l.base ≤ f) (hb0 : 0 ≤ l.base) (hb1 : l.base ≤ 12288) (hp : p.length ≤ 1048576) (hh : x + cnt l.segs - 1 < 1099511627776) (hn : f + l.segs.length < l.base + 4096) :
    ∃ pre s s0 q b, Next f x l p pre s s0 q b := by
  have hhd : hd l.segs = x + cnt l.segs - 1 := by
    by_cases h0 : l.segs = []
    · rw [h0, (hx h0).1]; rfl
    · exact hd_chain hc h0
  have hnx : nextF l = f + l.segs.length := by
    by_cases h0 : l.segs = []
    · rw [nextF, h0, (hx h0).2]; simp
    · obtain ⟨pre, s, e, ht⟩ := chain_tip hc h0
      rw [nextF, e]
      simp only [List.getLast?_append, List.getLast?_singleton, Option.some_or, List.length_append, List.length_singleton]
      rw [ht.one.1]
      omega
  have hfresh : Full f x l.segs → spot l p = fresh l p → ∃ pre s s0 q b, Next f x l p pre s s0 q b := fun hfull hsp => by
    have hfr : fresh l p = .ok (⟨nextF l, 0, true⟩, headB (hd l.segs + 1) ++ recB p) := by unfold fresh; rw [if_neg (by omega)]
    have hlen : (headB (hd l.segs + 1) ++ recB p).length = (bytesOf ⟨nextF l, hd l.segs + 1, [p], (headB (hd l.segs + 1) ++ recB p).length⟩).length := by
      rw [bytesOf, recs_cons, recs_nil, List.append_nil]
    refine ⟨l.segs, ⟨nextF l, hd l.segs + 1, [p], (headB (hd l.segs + 1) ++ recB p).length⟩, 0, ⟨nextF l, 0, true⟩, headB (hd l.segs + 1) ++ recB p, ⟨hfull, hnx, by show hd l.segs + 1 = _; omega, hlen, fun y hy => ?_⟩, ?_, rfl, enter_begins rfl, by rw [rowsOf_snoc], by omega, .inl ⟨rfl, rfl⟩, [], by rw [bytesOf, recs_cons, recs_nil, List.append_nil]; rfl, rfl, fun d c hd0 hoff => ?_, .inl ⟨rfl, rfl⟩⟩
    · rw [List.mem_singleton] at hy
      subst hy
      exact hp
    · unfold WalMath.plan
      rw [if_neg (by omega), if_neg (by simp), if_neg (by omega), hsp, hfr]
    · have hids : ∀ y ∈ img l.segs, y.id < nextF l := fun y hy => by have := (img_lt hfull y hy).2; omega
      rw [append_files hoff (by show 0 ≤ nextF l; omega) (by show nextF l < 16384; omega)]
      have e1 : begunL d.files (nextF l) = img l.segs ++ [⟨nextF l, [], 0⟩] := by
        rw [hd0]
        unfold DiskMath.begunL
        rw [if_pos (seek_off fun y hy => by have := hids y hy; omega), ins_last hids]
      rw [e1, put_last (z := ⟨nextF l, [], 0⟩) fun y hy => by have := hids y hy; show y.id ≠ nextF l; omega]
      rfl
  by_cases h0 : l.segs = []
  · exact hfresh (by rw [h0]; trivial) (spot_none (by rw [h0]; rfl))
  · obtain ⟨pre, s, e, ht⟩ := chain_tip hc h0
    have hgl : l.segs.getLast? = some s := by rw [e]; simp
    cases hr : room l s (8 + p.length) with
    | false =>
      refine hfresh ?_ (spot_full hgl hr)
      rw [e]
      refine full_snoc ht.full ht.one fun hnil => ?_
      unfold room at hr
      rw [hnil] at hr
      simp at hr
    | true =>
      have hsp := spot_room hgl hr
      have hby : bytesOf { s with rows := s.rows ++ [p], size := s.size + (recB p).length } = bytesOf s ++ recB p := by
        unfold bytesOf
        rw [recs_snoc, List.append_assoc]
      refine ⟨pre, { s with rows := s.rows ++ [p], size := s.size + (recB p).length }, (bytesOf s).length, ⟨s.file, s.size, false⟩, recB p, ⟨ht.full, ht.one.1, ht.one.2.1, ?_, fun y hy => ?_⟩, ?_, rfl, by rw [e]; exact enter_snoc rfl, by rw [rowsOf_snoc, e, rowsOf_snoc, List.append_assoc], by rw [e]; simp, .inr ⟨s.rows, rfl, bytesOf_length s⟩, bytesOf s, hby, rfl, fun d c hd0 hoff => ?_, .inr ⟨rfl, ht.one.2.2.1, by rw [e, img_append]; rfl⟩⟩
      · show s.size + (recB p).length = _
        rw [hby, List.length_append, ht.one.2.2.1]
      · rcases List.mem_append.1 hy with hy | hy
        · exact ht.one.2.2.2 y hy
        · rw [List.mem_singleton] at hy
          subst hy
          exact hp
      · unfold WalMath.plan
        rw [if_neg (by omega), if_neg (by simp), if_neg (by omega), hsp]
      · have hf1 := ht.one.1
        have hlen : l.segs.length = pre.length + 1 := by rw [e]; simp
        rw [append_files hoff (by show 0 ≤ s.file; omega) (by show s.file < 16384; omega)]
        have hfl : d.files = img pre ++ [fl s] := by rw [hd0, e, img_append]; rfl
        have e1 : begunL d.files s.file = img pre ++ [fl s] := by
          rw [hfl]
          unfold DiskMath.begunL
          rw [if_neg]
          rw [show s.file = (fl s).id from rfl, seek_last ht.ids]
          simp
        rw [e1]
        show (_, { DiskMath.tick d with files := DiskMath.put (img pre ++ [fl s]) (fl s).id (grow c) }) = _
        rw [put_last ht.ids]
        rfl

/-- a log as it should be, beside its disk -/
structure Good (f x : Int) (l : Lg) (d : Dk) : Prop where
  chain : Chain f x l.segs
  files : d.files = img l.segs
  left : l.left = none
  on : d.off = false
/-- power went at an entry: the disk has its bytes, the log has not -/
structure Cutoff (f x : Int) (rs : List (List UInt8)) (p : List UInt8) (d : Dk) (pre : List Sg) (s : Sg) (s0 : Nat) : Prop where
  tip : Tip f x pre s
  rows : rowsOf (pre ++ [s]) = rs ++ [p]
  safe : (s0 = 0 ∧ s.rows = [p]) ∨ ∃ rs, s.rows = rs ++ [p] ∧ s0 = 19 + (recs rs).length
  files : d.files = img pre ++ [⟨s.file, bytesOf s, s0⟩]
  off : d.off = true

theorem sync_last {d : Dk} {l : List Fl} {z : Fl} (hf : d.files = l ++ [z]) (hoff : d.off = false) (h : ∀ y ∈ l, y.id ≠ z.id) (h0 : 0 ≤ z.id) (h1 : z.id < 16384) : DiskMath.sync d z.id = DiskMath.oper d (l ++ [sure z]) := by
  have hr : DiskMath.refuse d z.id true = 0 := by
    unfold DiskMath.refuse
    rw [hoff, hf, seek_last h, if_neg (by simp), if_neg (by omega), if_neg (by simp)]
  unfold DiskMath.sync
  rw [hr, if_pos rfl, hf, put_last h]
theorem oper_eq (d : Dk) (l : List Fl) : DiskMath.oper d l = if d.left = 1 then (8, DiskMath.tick d) else (0, { DiskMath.tick d with files := l }) := rfl

/-- an Append: it is told, or power went -/
theorem append_good {f x : Int} {l : Lg} {d : Dk} {p : List UInt8} (h : Good f x l d) (hx : l.segs = [] → x = 1 ∧ f = l.base) (hx1 : 1 ≤ x) (hf : l.base ≤ f) (hb0 : 0 ≤ l.base) (hb1 : l.base ≤ 12288) (hp : p.length ≤ 1048576) (hh : x + cnt l.segs - 1 < 1099511627776) (hn : f + l.segs.length < l.base + 4096) :
    ((append l d p).e = 0 ∧ (append l d p).n = x + cnt l.segs ∧ Good f x (append l d p).l (append l d p).d ∧ rowsOf (append l d p).l.segs = rowsOf l.segs ++ [p] ∧ (append l d p).l.base = l.base ∧ (append l d p).l.size = l.size ∧ (append l d p).l.segs.length ≤ l.segs.length + 1 ∧ (append l d p).l.segs ≠ [] ∧ (append l d p).d.left = d.left - 2 ∧ (append l d p).d.ops = d.ops + 2) ∨
    ((append l d p).e = 8 ∧ (append l d p).l.segs = l.segs ∧ (append l d p).l.base = l.base ∧ (append l d p).l.size = l.size ∧ 0 < d.left ∧ ∃ pre s s0, Cutoff f x (rowsOf l.segs) p (append l d p).d pre s s0 ∧ pre.length ≤ l.segs.length) := by
  obtain ⟨pre, s, s0, q, b, N⟩ := next_of h.chain hx hx1 hf hb0 hb1 hp hh hn
  have hlay := N.lay d h.files h.on
  have hfile : 0 ≤ s.file ∧ s.file < 16384 := by
    have a := N.tip.one.1
    have b := N.len
    omega
  have hcl : clean l d = (0, d) := by unfold clean; rw [h.left]
  have hwr : write l d q b = (DiskMath.told d, { l with left := some q }, { DiskMath.tick d with files := img pre ++ [⟨s.file, bytesOf s, s0⟩] }) := by
    unfold write
    rw [hcl, if_pos rfl, hlay]
  have hap : append l d p = if DiskMath.told d = 0 then synced { l with left := some q } { DiskMath.tick d with files := img pre ++ [⟨s.file, bytesOf s, s0⟩] } q b p else ⟨0, DiskMath.told d, { l with left := some q }, { DiskMath.tick d with files := img pre ++ [⟨s.file, bytesOf s, s0⟩] }⟩ := by
    unfold append
    rw [h.on, N.plan]
    simp only [hwr]
  by_cases h1 : d.left = 1
  · have ht : DiskMath.told d = 8 := by unfold DiskMath.told; rw [if_pos h1]
    rw [ht, if_neg (by omega)] at hap
    rw [hap]
    refine .inr ⟨rfl, rfl, rfl, rfl, by omega, pre, s, s0, ⟨N.tip, N.rows, N.safe, rfl, ?_⟩, by have := N.len; omega⟩
    show decide (d.left = 1) = true
    exact decide_eq_true h1
  · have ht : DiskMath.told d = 0 := by unfold DiskMath.told; rw [if_neg h1]
    have hoff1 : ({ DiskMath.tick d with files := img pre ++ [⟨s.file, bytesOf s, s0⟩] } : Dk).off = false := decide_eq_false h1
    have hsy := sync_last (d := { DiskMath.tick d with files := img pre ++ [⟨s.file, bytesOf s, s0⟩] }) (l := img pre) (z := ⟨s.file, bytesOf s, s0⟩) rfl hoff1 N.tip.ids hfile.1 hfile.2
    rw [ht, if_pos rfl] at hap
    rw [oper_eq] at hsy
    by_cases h2 : d.left - 1 = 1
    · rw [if_pos (show ({ DiskMath.tick d with files := img pre ++ [⟨s.file, bytesOf s, s0⟩] } : Dk).left = 1 from h2)] at hsy
      have hs2 : synced { l with left := some q } { DiskMath.tick d with files := img pre ++ [⟨s.file, bytesOf s, s0⟩] } q b p = ⟨0, 8, { l with left := some q }, DiskMath.tick { DiskMath.tick d with files := img pre ++ [⟨s.file, bytesOf s, s0⟩] }⟩ := by
        unfold synced
        rw [N.file, hsy, if_neg (by simp)]
      rw [hap, hs2]
      refine .inr ⟨rfl, rfl, rfl, rfl, by omega, pre, s, s0, ⟨N.tip, N.rows, N.safe, rfl, ?_⟩, by have := N.len; omega⟩
      show decide (d.left - 1 = 1) = true
      exact decide_eq_true h2
    · rw [if_neg (show ¬ ({ DiskMath.tick d with files := img pre ++ [⟨s.file, bytesOf s, s0⟩] } : Dk).left = 1 from h2)] at hsy
      have hs2 : synced { l with left := some q } { DiskMath.tick d with files := img pre ++ [⟨s.file, bytesOf s, s0⟩] } q b p = ⟨hd (pre ++ [s]), 0, { l with segs := pre ++ [s], left := none }, { DiskMath.tick { DiskMath.tick d with files := img pre ++ [⟨s.file, bytesOf s, s0⟩] } with files := img pre ++ [sure ⟨s.file, bytesOf s, s0⟩] }⟩ := by
        unfold synced
        rw [N.file, hsy, if_pos rfl]
        dsimp only
        rw [N.segs]
      have hcnt : cnt (pre ++ [s]) = cnt l.segs + 1 := by rw [cnt, N.rows, List.length_append]; rfl
      rw [hap, hs2]
      refine .inl ⟨rfl, ?_, ⟨N.tip.chain, ?_, rfl, ?_⟩, N.rows, rfl, rfl, ?_, by simp, by show d.left - 1 - 1 = _; omega, rfl⟩
      · show hd (pre ++ [s]) = _
        rw [hd_chain N.tip.chain (by simp), hcnt]
        omega
      · show img pre ++ [sure ⟨s.file, bytesOf s, s0⟩] = _
        rw [img_append]
        rfl
      · show decide (d.left - 1 = 1) = false
        exact decide_eq_false h2
      · show (pre ++ [s]).length ≤ _
        rw [List.length_append, List.length_singleton]
        exact N.len
end Go.Proofs.Ytlkjmdkmcaaihaa.WalMath

namespace Go.Proofs.Ytlkjmdkmcaaihaa.WalMath
set_option linter.unusedVariables false
open FieldMath RecMath SegMath
open DiskMath (Fl Dk Up seek ins del grow sure begunL)

theorem load_full {f0 : Int} {rest : List Fl} (hr : rest ≠ []) : ∀ {pre : List Sg} {f x : Int} {j : Nat} {acc : List Sg}, f = f0 + j → Full f x pre → (acc = [] ∨ hd acc = x - 1) → 1 ≤ x → x + cnt pre - 1 ≤ 1099511627776 → load f0 j acc (img pre ++ rest) = load f0 (j + pre.length) (acc ++ pre) rest
  | [], f, x, j, acc, _, _, _, _, _ => by simp [img]
  | t :: pre, f, x, j, acc, hf, ⟨h1, h2, h3⟩, hacc, hx, hmax => by
    rw [cnt_cons] at hmax
    have hrl : 0 < t.rows.length := List.length_pos_iff.2 h2
    have hsr : sread (bytesOf t) = ⟨t.first, t.rows, (bytesOf t).length, 0⟩ := by
      have := sread_all (x := t.first) (by rw [h1.2.1]; exact hx) (by rw [h1.2.1]; omega) t.rows h1.2.2.2
      exact this
    have hsg : segOf (fl t) = t := by
      unfold segOf fl
      dsimp only
      rw [hsr]
      dsimp only
      rw [← h1.2.2.1]
    have hlast : last t = x + t.rows.length - 1 := last_one h1
    have hgo : goesOn acc t = true := by
      unfold goesOn
      rw [hlast, Bool.and_eq_true]
      refine ⟨?_, by simp; omega⟩
      rcases hacc with h | h
      · rw [h]; rfl
      · rw [h, h1.2.1]; simp
    have hwh : isWhole t (bytesOf t).length = true := by
      unfold isWhole
      rw [h1.2.2.1]
      simp [hrl]
    have hne : (img pre ++ rest).length ≠ 0 := by
      rw [List.length_append]
      have := List.length_pos_iff.2 hr
      omega
    have e : img (t :: pre) ++ rest = fl t :: (img pre ++ rest) := rfl
    rw [e, load, if_neg (by show ¬ t.file ≠ _; rw [h1.1, hf]; simp), if_neg (fun h => hne h.1), if_neg (by
      rw [hsg, hgo]
      show ¬ ((sread (bytesOf t)).e ≠ 0 ∨ _ ∨ (_ ∧ isWhole t (bytesOf t).length = false))
      rw [hsr, hwh]
      simp), hsg]
    have ih := load_full (f0 := f0) hr (pre := pre) (f := f + 1) (x := x + t.rows.length) (j := j + 1) (acc := acc ++ [t]) (by omega) h3 (.inr (by rw [hd_snoc, hlast])) (by omega) (by omega)
    rw [ih, List.append_assoc, List.length_cons, show j + 1 + pre.length = j + (pre.length + 1) by omega]
    rfl

/-- what is read of a segment that is cut off -/
theorem sread_whole {x : Int} (h0 : 1 ≤ x) (h1 : x ≤ 1099511627776) (l : List (List UInt8)) (h : ∀ p ∈ l, p.length ≤ 1048576) {m : Nat} (hm : 19 ≤ m) (hl : m ≤ (headB x ++ recs l).length) :
    ∃ k, k ≤ l.length ∧ sread ((headB x ++ recs l).take m) = ⟨x, l.take k, 19 + (recs (l.take k)).length, 0⟩ ∧ 19 + (recs (l.take k)).length ≤ m ∧ (k < l.length → m < 19 + (recs (l.take (k + 1))).length) := by
  rcases Nat.lt_or_ge m (headB x ++ recs l).length with hlt | hge
  · rw [List.length_append, headB_length] at hlt
    obtain ⟨k, hk, h2, h3⟩ := whole l (m - 19) (by omega)
    have h4 := scan_recs l h (m - 19) k (by omega) h2 (fun _ => h3) (by omega)
    refine ⟨k, by omega, ?_, by omega, fun _ => by omega⟩
    rw [List.take_append, List.take_of_length_le (by rw [headB_length]; omega), headB_length, sread_head h0 h1, h4]
  · refine ⟨l.length, Nat.le_refl _, ?_, ?_, fun h => absurd h (by omega)⟩
    · rw [List.take_of_length_le hge, sread_all h0 h1 l h, List.take_length, List.length_append, headB_length]
    · rw [List.take_length]
      rw [List.length_append, headB_length] at hge hl
      omega

/-- a log that was opened, and what it has of the entries rs: the first j -/
structure Got (f x : Int) (ba sz : Int) (d : Dk) (rs : List (List UInt8)) (j : Nat) (segs : List Sg) (d' : Dk) : Prop where
  opens : open_ d ba sz = ⟨0, some ⟨segs, ba, sz, none⟩, d'⟩
  good : Good f x ⟨segs, ba, sz, none⟩ d'
  rows : rowsOf segs = rs.take j
  le : j ≤ rs.length
  left : d'.left = 0
  ops : d'.ops ≤ d.ops + 1

theorem own_all {d : Dk} {ba : Int} (h : ∀ y ∈ d.files, ba ≤ y.id ∧ y.id < ba + 4096) : own d ba = d.files := List.filter_eq_self.2 fun y hy => by unfold mine; simpa using h y hy

theorem open_cut {f x ba sz : Int} {pre : List Sg} {s : Sg} {m : Nat} {d : Dk} (ht : Tip f x pre s) (hx : 1 ≤ x) (hm : m ≤ (bytesOf s).length) (hfs : d.files = img pre ++ [⟨s.file, (bytesOf s).take m, m⟩]) (hoff : d.off = false) (hleft : d.left = 0) (hbf : ba ≤ f) (hb0 : 0 ≤ ba) (hb1 : ba ≤ 12288) (hn : f + pre.length < ba + 4096)
    (hs0 : 64 ≤ sz) (hs1 : sz ≤ 65536) (hmax : x + cnt pre + s.rows.length - 1 ≤ 1099511627776) (hfirst : x + cnt pre ≤ 1099511627776) :
    ∃ j segs d', Got f x ba sz d (rowsOf (pre ++ [s])) j segs d' ∧ cnt pre ≤ j ∧ (m < (bytesOf s).length → s.rows ≠ [] → j < cnt (pre ++ [s])) ∧ (∀ i, i ≤ s.rows.length → 0 < i → 19 + (recs (s.rows.take i)).length ≤ m → cnt pre + i ≤ j) ∧ segs.length ≤ pre.length + 1 ∧ (19 ≤ m → segs ≠ []) := by
  have hown : own d ba = img pre ++ [⟨s.file, (bytesOf s).take m, m⟩] := by
    rw [own_all, hfs]
    intro y hy
    rw [hfs] at hy
    rcases List.mem_append.1 hy with hy | hy
    · have := img_lt ht.full y hy
      exact ⟨by omega, by omega⟩
    · rw [List.mem_singleton] at hy
      subst hy
      have := ht.one.1
      show ba ≤ s.file ∧ s.file < ba + 4096
      omega
  have hsz : s.file = f + pre.length := ht.one.1
  have hids : ∀ y ∈ img pre, y.id ≠ (⟨s.file, (bytesOf s).take m, m⟩ : Fl).id := ht.ids
  have hloads : loads (own d ba) = load f pre.length pre [⟨s.file, (bytesOf s).take m, m⟩] := by
    have key : load f 0 [] (img pre ++ [⟨s.file, (bytesOf s).take m, m⟩]) = load f (0 + pre.length) ([] ++ pre) [⟨s.file, (bytesOf s).take m, m⟩] := load_full (by simp) (by omega) ht.full (.inl rfl) hx (by omega)
    rw [Nat.zero_add, List.nil_append] at key
    rw [← key, hown]
    cases pre with
    | nil =>
      show load s.file 0 [] _ = _
      rw [hsz]
      simp
      rfl
    | cons t r =>
      show load t.file 0 [] _ = _
      rw [ht.full.1.1]
      rfl
  have hopen : ∀ segs, load f pre.length pre [⟨s.file, (bytesOf s).take m, m⟩] = some segs → open_ d ba sz = mended ba sz segs (mend d (img pre ++ [⟨s.file, (bytesOf s).take m, m⟩]) segs) := fun segs hsg => by
    unfold open_
    rw [if_neg (by omega), hoff, if_neg (by simp), hloads, hsg, hown]
  have hseek : seek d.files s.file = some ⟨s.file, (bytesOf s).take m, m⟩ := by rw [hfs]; exact seek_last hids
  have hrf : DiskMath.refuse d s.file true = 0 := by
    unfold DiskMath.refuse
    rw [hoff, hseek, if_neg (by simp), if_neg (by omega), if_neg (by simp)]
  have htoff : decide (d.left = 1) = false := by rw [hleft]; rfl
  have hcp : cnt (pre ++ [s]) = cnt pre + s.rows.length := cnt_snoc pre s
  by_cases hm19 : m < 19
  · -- the last file is no segment
    have hbad : sread ((bytesOf s).take m) = bad := sread_cut (recs s.rows) hm19
    have hld : load f pre.length pre [⟨s.file, (bytesOf s).take m, m⟩] = some pre := by
      rw [load, if_neg (by show ¬ s.file ≠ _; omega), if_pos ⟨rfl, by show (sread ((bytesOf s).take m)).e ≠ 0; rw [hbad]; decide⟩]
    have hmend : mend d (img pre ++ [⟨s.file, (bytesOf s).take m, m⟩]) pre = (0, { DiskMath.tick d with files := img pre }) := by
      have hget : (img pre ++ [(⟨s.file, (bytesOf s).take m, m⟩ : Fl)])[pre.length]? = some ⟨s.file, (bytesOf s).take m, m⟩ := by
        rw [List.getElem?_append_right (by rw [img_length]; exact Nat.le_refl _), img_length, Nat.sub_self]
        rfl
      unfold mend
      rw [hget]
      show DiskMath.remove d s.file = _
      unfold DiskMath.remove
      rw [hrf, if_pos rfl, oper_eq, if_neg (by omega), hfs, show s.file = (⟨s.file, (bytesOf s).take m, m⟩ : Fl).id from rfl, del_last hids]
    refine ⟨cnt pre, pre, { DiskMath.tick d with files := img pre }, ⟨?_, ⟨full_chain ht.full, rfl, rfl, htoff⟩, ?_, ?_, by show d.left - 1 = 0; omega, Nat.le_refl _⟩, Nat.le_refl _, fun _ hr => ?_, fun i hi h0 h => ?_, by omega, fun h => absurd h (by omega)⟩
    · rw [hopen pre hld, hmend]
      rfl
    · rw [rowsOf_snoc, cnt, List.take_left]
    · show cnt pre ≤ cnt (pre ++ [s])
      omega
    · have := List.length_pos_iff.2 hr
      omega
    · omega
  · have hfx : s.first = x + cnt pre := ht.one.2.1
    obtain ⟨k, hk, hsr, hkm, hkn⟩ := sread_whole (x := s.first) (by omega) (by omega) s.rows ht.one.2.2.2 (m := m) (by omega) hm
    have hsr2 : sread ((bytesOf s).take m) = ⟨s.first, s.rows.take k, 19 + (recs (s.rows.take k)).length, 0⟩ := hsr
    obtain ⟨s', hs'⟩ : ∃ s' : Sg, s' = ⟨s.file, s.first, s.rows.take k, 19 + (recs (s.rows.take k)).length⟩ := ⟨_, rfl⟩
    have hsg : segOf ⟨s.file, (bytesOf s).take m, m⟩ = s' := by
      unfold segOf
      dsimp only
      rw [hsr2, hs']
    have hlk : (s.rows.take k).length = k := by rw [List.length_take]; omega
    have hby : bytesOf s' = (bytesOf s).take (19 + (recs (s.rows.take k)).length) := by
      rw [hs']
      unfold bytesOf
      dsimp only
      have e : recs s.rows = recs (s.rows.take k) ++ recs (s.rows.drop k) := by rw [← recs_append, List.take_append_drop]
      rw [e]
      generalize recs (s.rows.take k) = X
      rw [← List.append_assoc]
      exact (List.take_left' (by rw [List.length_append, headB_length])).symm
    have hbl : (bytesOf s').length = 19 + (recs (s.rows.take k)).length := by rw [bytesOf_length, hs']
    have hone : One (f + pre.length) (x + cnt pre) s' := by
      rw [hs']
      refine ⟨hsz, hfx, ?_, fun p hp => ht.one.2.2.2 p (List.mem_of_mem_take hp)⟩
      rw [bytesOf_length]
    have hgo : goesOn pre s' = true := by
      unfold goesOn
      rw [Bool.and_eq_true]
      constructor
      · by_cases h0 : pre = []
        · rw [h0]; rfl
        · rw [hd_full ht.full h0, hone.2.1, show x + (cnt pre : Int) = x + cnt pre - 1 + 1 by omega]
          simp
      · rw [last_one hone]
        have hr2 : s'.rows.length = k := by rw [hs']; exact hlk
        rw [hr2]
        simp
        omega
    have hld : load f pre.length pre [⟨s.file, (bytesOf s).take m, m⟩] = some (pre ++ [s']) := by
      rw [load, if_neg (by show ¬ s.file ≠ _; omega), if_neg (by
        show ¬ (_ ∧ (sread ((bytesOf s).take m)).e ≠ 0)
        rw [hsr2]
        simp), if_neg (by
        rw [hsg, hgo]
        show ¬ ((sread ((bytesOf s).take m)).e ≠ 0 ∨ _ ∨ (([] : List Fl).length ≠ 0 ∧ _))
        rw [hsr2]
        simp), hsg]
      rfl
    have hfile' : s'.file = s.file := by rw [hs']
    have hsize' : s'.size = 19 + (recs (s.rows.take k)).length := by rw [hs']
    have hlm : ((bytesOf s).take m).length = m := by rw [List.length_take]; omega
    have hmend : ∃ d', mend d (img pre ++ [⟨s.file, (bytesOf s).take m, m⟩]) (pre ++ [s']) = (0, d') ∧ d'.files = img (pre ++ [s']) ∧ d'.off = false ∧ d'.left = 0 ∧ d'.ops ≤ d.ops + 1 := by
      have hget : (img pre ++ [(⟨s.file, (bytesOf s).take m, m⟩ : Fl)])[(pre ++ [s']).length]? = none := List.getElem?_eq_none (by rw [List.length_append, List.length_append, img_length]; exact Nat.le_refl _)
      have hgl : (pre ++ [s']).getLast? = some s' := by simp
      have hsd : DiskMath.size d s'.file = m := by rw [hfile', DiskMath.size, hseek]; show (((bytesOf s).take m).length : Int) = m; rw [hlm]
      unfold mend
      rw [hget, hgl]
      dsimp only
      rw [hsd, hsize']
      by_cases hc : ((19 + (recs (s.rows.take k)).length : Nat) : Int) < (m : Int)
      · rw [if_pos hc, hfile']
        refine ⟨{ DiskMath.tick d with files := DiskMath.put d.files s.file (DiskMath.trim (19 + (recs (s.rows.take k)).length)) }, ?_, ?_, htoff, by show d.left - 1 = 0; omega, Nat.le_refl _⟩
        · unfold DiskMath.cut
          rw [hrf, if_pos rfl, if_neg (by rw [← hfile', hsd]; omega), oper_eq, if_neg (by omega), Int.toNat_natCast]
        · show DiskMath.put d.files s.file _ = _
          rw [hfs, show s.file = (⟨s.file, (bytesOf s).take m, m⟩ : Fl).id from rfl, put_last hids, img_append]
          congr 1
          unfold DiskMath.trim img
          simp only [List.map_cons, List.map_nil]
          unfold fl
          rw [hby, hfile', List.take_take, Nat.min_eq_left (by omega), List.length_take, Nat.min_eq_right (by omega), Nat.min_eq_left (by omega)]
      · rw [if_neg hc]
        refine ⟨d, rfl, ?_, hoff, hleft, by omega⟩
        have hme : m = 19 + (recs (s.rows.take k)).length := by omega
        rw [hfs, img_append]
        congr 1
        unfold img
        simp only [List.map_cons, List.map_nil]
        unfold fl
        rw [hby, hfile', ← hme, hlm]
    obtain ⟨d', hmd, hdf, hdo, hdl, hdp⟩ := hmend
    have hrows' : s'.rows = s.rows.take k := by rw [hs']
    refine ⟨cnt pre + k, pre ++ [s'], d', ⟨?_, ⟨chain_snoc ht.full hone, hdf, rfl, hdo⟩, ?_, ?_, hdl, hdp⟩, by omega, fun hlt hr => ?_, fun i hi h0 h => ?_, by simp, fun _ => by simp⟩
    · rw [hopen _ hld, hmd]
      rfl
    · have hc : cnt pre = (rowsOf pre).length := rfl
      rw [rowsOf_snoc, rowsOf_snoc, hrows', List.take_append, List.take_of_length_le (l := rowsOf pre) (by omega), show cnt pre + k - (rowsOf pre).length = k by omega]
    · show cnt pre + k ≤ cnt (pre ++ [s])
      omega
    · rw [hcp]
      rcases Nat.lt_or_ge k s.rows.length with hk2 | hk2
      · omega
      · exfalso
        rw [List.take_of_length_le hk2] at hkm
        rw [bytesOf_length] at hlt
        omega
    · rcases Nat.lt_or_ge k i with hki | hki
      · exfalso
        have hk3 := hkn (by omega)
        have hmono : (recs (s.rows.take (k + 1))).length ≤ (recs (s.rows.take i)).length := by
          have e : s.rows.take i = s.rows.take (k + 1) ++ (s.rows.take i).drop (k + 1) := by
            have := List.take_append_drop (k + 1) (s.rows.take i)
            rw [List.take_take, Nat.min_eq_left (by omega)] at this
            exact this.symm
          rw [e, recs_append, List.length_append]
          omega
        omega
      · omega
end Go.Proofs.Ytlkjmdkmcaaihaa.WalMath

namespace Go.Proofs.Ytlkjmdkmcaaihaa.WalMath
set_option linter.unusedVariables false
open FieldMath RecMath SegMath
open DiskMath (Fl Dk Up seek ins del grow sure begunL crashL setl keeps)

theorem setl_fl (k : Int) (s : Sg) : setl k (fl s) = fl s := by
  have e : keeps k (fl s) = (bytesOf s).length := by
    unfold DiskMath.keeps fl
    simp [Nat.mod_one]
  unfold DiskMath.setl
  rw [e]
  unfold fl
  simp
theorem crashL_img : ∀ (l : List Sg) (ks : List Int), crashL (img l) ks = img l
  | [], _ => rfl
  | s :: l, ks => by
    show setl (ks.headD 0) (fl s) :: crashL (img l) ks.tail = fl s :: img l
    rw [setl_fl, crashL_img l ks.tail]
theorem crashL_snoc : ∀ (l : List Fl) (z : Fl) (ks : List Int), ∃ k, crashL (l ++ [z]) ks = crashL l ks ++ [setl k z]
  | [], z, ks => ⟨ks.headD 0, rfl⟩
  | x :: l, z, ks => by
    obtain ⟨k, e⟩ := crashL_snoc l z ks.tail
    exact ⟨k, by show setl (ks.headD 0) x :: crashL (l ++ [z]) ks.tail = setl (ks.headD 0) x :: crashL l ks.tail ++ [setl k z]; rw [e]; rfl⟩
/-- behind a crash the last file is cut off somewhere behind what was safe -/
theorem crash_tip {d : Dk} {pre : List Sg} {s : Sg} {s0 : Nat} (hf : d.files = img pre ++ [⟨s.file, bytesOf s, s0⟩]) (hs : s0 ≤ (bytesOf s).length) (ks : List Int) :
    ∃ m, s0 ≤ m ∧ m ≤ (bytesOf s).length ∧ (DiskMath.crash d ks).files = img pre ++ [⟨s.file, (bytesOf s).take m, m⟩] := by
  obtain ⟨k, e⟩ := crashL_snoc (img pre) ⟨s.file, bytesOf s, s0⟩ ks
  have hk := DiskMath.keeps_le k ⟨s.file, bytesOf s, s0⟩ hs
  refine ⟨keeps k ⟨s.file, bytesOf s, s0⟩, hk.1, hk.2, ?_⟩
  show crashL d.files ks = _
  rw [hf, e, crashL_img]
  rfl
theorem crash_good {f x : Int} {l : Lg} {d : Dk} (h : Good f x l d) (ks : List Int) : (DiskMath.crash d ks).files = img l.segs := by
  show crashL d.files ks = _
  rw [h.files, crashL_img]

/-- what was there is opened as it was -/
theorem open_good {f x : Int} {segs : List Sg} {ba sz : Int} {d : Dk} (hc : Chain f x segs) (hfs : d.files = img segs) (hoff : d.off = false) (hleft : d.left = 0) (hx : 1 ≤ x) (hbf : ba ≤ f) (hb0 : 0 ≤ ba) (hb1 : ba ≤ 12288) (hn : f + segs.length < ba + 4096) (hs0 : 64 ≤ sz) (hs1 : sz ≤ 65536) (hmax : x + cnt segs < 1099511627776) :
    ∃ segs' d', Got f x ba sz d (rowsOf segs) (cnt segs) segs' d' ∧ segs'.length ≤ segs.length ∧ (segs ≠ [] → segs' ≠ []) := by
  by_cases h0 : segs = []
  · subst h0
    refine ⟨[], d, ⟨?_, ⟨.inl rfl, hfs, rfl, hoff⟩, rfl, Nat.le_refl _, hleft, by omega⟩, Nat.le_refl _, fun h => absurd rfl h⟩
    have ho : own d ba = [] := by unfold own; rw [hfs]; rfl
    unfold open_
    rw [if_neg (by omega), hoff, if_neg (by simp), ho]
    rfl
  · obtain ⟨pre, s, rfl, ht⟩ := chain_tip hc h0
    rw [cnt_snoc, List.length_append, List.length_singleton] at *
    have hfs2 : d.files = img pre ++ [⟨s.file, (bytesOf s).take (bytesOf s).length, (bytesOf s).length⟩] := by
      rw [hfs, img_append, List.take_length]
      rfl
    obtain ⟨j, segs', d', hg, h1, h2, h3, h4, h5⟩ := open_cut ht hx (Nat.le_refl _) hfs2 hoff hleft hbf hb0 hb1 (by omega) hs0 hs1 (by omega) (by omega)
    have hj : j = cnt pre + s.rows.length := by
      have hle := hg.le
      rw [show (rowsOf (pre ++ [s])).length = cnt (pre ++ [s]) from rfl, cnt_snoc] at hle
      by_cases hr : s.rows.length = 0
      · omega
      · have := h3 s.rows.length (Nat.le_refl _) (by omega) (by rw [List.take_length, bytesOf_length]; exact Nat.le_refl _)
        omega
    subst hj
    exact ⟨segs', d', hg, h4, fun _ => h5 (by rw [bytesOf_length]; omega)⟩

/-- behind a crash: what was told, and at most one more -/
theorem open_cutoff {rs : List (List UInt8)} {p : List UInt8} {d : Dk} {pre : List Sg} {s : Sg} {s0 : Nat} {ba sz : Int} (h : Cutoff ba 1 rs p d pre s s0) (hb0 : 0 ≤ ba) (hb1 : ba ≤ 12288) (hn : (pre.length : Int) < 4096) (hs0 : 64 ≤ sz) (hs1 : sz ≤ 65536) (hmax : rs.length < 1000000) (ks : List Int) :
    ∃ j segs d', Got ba 1 ba sz (DiskMath.crash d ks) (rs ++ [p]) j segs d' ∧ rs.length ≤ j ∧ segs.length ≤ pre.length + 1 := by
  have hcn : cnt (pre ++ [s]) = rs.length + 1 := by rw [cnt, h.rows, List.length_append]; rfl
  rw [cnt_snoc] at hcn
  have hsl : s0 ≤ (bytesOf s).length := by
    rw [bytesOf_length]
    rcases h.safe with ⟨e, _⟩ | ⟨r0, e1, e2⟩
    · omega
    · rw [e1, recs_snoc, List.length_append]; omega
  obtain ⟨m, hm0, hm1, hf⟩ := crash_tip h.files hsl ks
  obtain ⟨j, segs, d', hg, h1, h2, h3, h4, h5⟩ := open_cut (ba := ba) (sz := sz) h.tip (by omega) hm1 hf rfl rfl (Int.le_refl _) hb0 hb1 (by omega) hs0 hs1 (by omega) (by omega)
  rw [h.rows] at hg
  refine ⟨j, segs, d', hg, ?_, h4⟩
  rcases h.safe with ⟨_, e⟩ | ⟨r0, e1, e2⟩
  · rw [e] at hcn
    simp at hcn
    omega
  · rw [e1, List.length_append, List.length_singleton] at hcn
    by_cases hr : r0.length = 0
    · omega
    · have := h3 r0.length (by rw [e1]; simp) (by omega) (by rw [e1, List.take_left, ← e2]; exact hm0)
      omega

/-- a run of Appends with power going somewhere: j were asked for, t told -/
structure Run (l : List (List UInt8)) (ba sz : Int) (j t : Nat) (g : Lg) (d : Dk) : Prop where
  chain : Chain ba 1 g.segs
  rows : rowsOf g.segs = l.take t
  base : g.base = ba
  size : g.size = sz
  segs : g.segs.length ≤ t
  le : t ≤ j
  ops : d.ops ≤ 2 * j
  left : d.left ≤ 1000
  st : (t = j ∧ Good ba 1 g d) ∨ (t < j ∧ ∃ pre s s0, Cutoff ba 1 (l.take t) (l.getD t []) d pre s s0 ∧ pre.length ≤ t)

theorem oper_lim (d : Dk) (l : List Fl) : (DiskMath.oper d l).2.ops ≤ d.ops + 1 ∧ (DiskMath.oper d l).2.left ≤ d.left := by
  unfold DiskMath.oper
  split
  · exact ⟨Nat.le_refl _, by show d.left - 1 ≤ _; omega⟩
  · exact ⟨Nat.le_refl _, by show d.left - 1 ≤ _; omega⟩
theorem sync_lim (d : Dk) (f : Int) : (DiskMath.sync d f).2.ops ≤ d.ops + 1 ∧ (DiskMath.sync d f).2.left ≤ d.left := by
  unfold DiskMath.sync
  split
  · exact oper_lim d _
  · exact ⟨by show d.ops ≤ _; omega, Nat.le_refl _⟩
theorem lay_lim (d : Dk) (f : Int) (b : List UInt8) : (DiskMath.append d f b).2.ops ≤ d.ops + 1 ∧ (DiskMath.append d f b).2.left ≤ d.left := by
  unfold DiskMath.append
  split
  · exact ⟨Nat.le_refl _, by show d.left - 1 ≤ _; omega⟩
  · exact ⟨by show d.ops ≤ _; omega, Nat.le_refl _⟩
theorem append_capL (g : Lg) (d : Dk) (p : List UInt8) (hl : g.left = none) : (append g d p).d.ops ≤ d.ops + 2 ∧ (append g d p).d.left ≤ d.left := by
  have hcl : clean g d = (0, d) := by unfold clean; rw [hl]
  unfold append
  split
  · exact ⟨by show d.ops ≤ _; omega, Nat.le_refl _⟩
  · rename_i q b _
    have hw : (write g d q b).2.2 = (DiskMath.append d q.file b).2 := by unfold write; rw [hcl, if_pos rfl]
    have h1 := lay_lim d q.file b
    split
    · unfold synced
      rw [hw]
      have h2 := sync_lim (DiskMath.append d q.file b).2 q.file
      split
      · exact ⟨by show (DiskMath.sync _ _).2.ops ≤ _; omega, by show (DiskMath.sync _ _).2.left ≤ _; omega⟩
      · exact ⟨by show (DiskMath.sync _ _).2.ops ≤ _; omega, by show (DiskMath.sync _ _).2.left ≤ _; omega⟩
    · show (write g d q b).2.2.ops ≤ _ ∧ (write g d q b).2.2.left ≤ _
      rw [hw]
      omega
theorem append_off {l : Lg} {d : Dk} {p : List UInt8} (h : d.off = true) (hp : p.length ≤ 1048576) : append l d p = ⟨0, 8, l, d⟩ := by
  have hp2 : plan l d.off p = .error 8 := by unfold plan; rw [if_neg (by omega), h, if_pos rfl]
  unfold append
  rw [hp2]
  rfl
theorem Run.step {l : List (List UInt8)} {ba sz : Int} {j t : Nat} {g : Lg} {d : Dk} {p : List UInt8} (h : Run l ba sz j t g d) (hj : j < 100) (hl : l[j]? = some p) (hp : p.length ≤ 1000) (hb0 : 0 ≤ ba) (hb1 : ba ≤ 12288) :
    ((append g d p).e = 0 ∧ (append g d p).n = t + 1 ∧ t = j ∧ Run l ba sz (j + 1) (t + 1) (append g d p).l (append g d p).d) ∨ ((append g d p).e = 8 ∧ Run l ba sz (j + 1) t (append g d p).l (append g d p).d) := by
  have hjl : j < l.length := (List.getElem?_eq_some_iff.1 hl).1
  have hpe : p = l[j] := by rw [List.getElem?_eq_getElem hjl] at hl; exact (Option.some.inj hl).symm
  have hgd : l.getD j [] = p := by rw [List.getD_eq_getElem?_getD, hl]; rfl
  have hcn : cnt g.segs = t := by
    rw [cnt, h.rows, List.length_take]
    have := h.le
    omega
  rcases h.st with ⟨rfl, hg⟩ | ⟨ht, pre, s, s0, hc, hpl⟩
  · have hsg := h.segs
    have hba := h.base
    have hap := append_good (p := p) hg (fun _ => ⟨rfl, hba.symm⟩) (by omega) (by omega) (by omega) (by omega) (by omega) (by omega) (by omega)
    rcases hap with ⟨a1, a2, a3, a4, a5, a6, a7, _, a9, a10⟩ | ⟨b1, b2, b3, b4, b5, pre, s, s0, b6, b7⟩
    · refine .inl ⟨a1, by rw [a2, hcn]; omega, rfl, a3.chain, ?_, by rw [a5, hba], by rw [a6, h.size], by omega, Nat.le_refl _, by rw [a10]; have := h.ops; omega, by rw [a9]; have := h.left; omega, .inl ⟨rfl, a3⟩⟩
      rw [a4, h.rows, List.take_succ_eq_append_getElem hjl, hpe]
    · refine .inr ⟨b1, ?_⟩
      have hcap := append_capL g d p hg.left
      refine ⟨by rw [b2]; exact h.chain, by rw [b2]; exact h.rows, by rw [b3, hba], by rw [b4, h.size], by rw [b2]; exact hsg, by omega, by have := hcap.1; have := h.ops; omega, by have := hcap.2; have := h.left; omega, .inr ⟨by omega, pre, s, s0, ?_, by omega⟩⟩
      rw [hgd, ← h.rows]
      exact b6
  · have hoff := append_off (l := g) (p := p) hc.off (by omega)
    rw [hoff]
    exact .inr ⟨rfl, h.chain, h.rows, h.base, h.size, h.segs, by omega, by have := h.ops; show d.ops ≤ _; omega, h.left, .inr ⟨by omega, pre, s, s0, hc, hpl⟩⟩
theorem Run.opens {l : List (List UInt8)} {ba sz : Int} {j t : Nat} {g : Lg} {d : Dk} (h : Run l ba sz j t g d) (hj : j ≤ l.length) (hj2 : j ≤ 100) (hb0 : 0 ≤ ba) (hb1 : ba ≤ 12288) (hs0 : 64 ≤ sz) (hs1 : sz ≤ 65536) (ks : List Int) :
    ∃ k segs d', open_ (DiskMath.crash d ks) ba sz = ⟨0, some ⟨segs, ba, sz, none⟩, d'⟩ ∧ Good ba 1 ⟨segs, ba, sz, none⟩ d' ∧ rowsOf segs = l.take k ∧ t ≤ k ∧ k ≤ t + 1 ∧ k ≤ l.length ∧ k ≤ j ∧ segs.length ≤ t + 1 := by
  have hle := h.le
  have htl : (l.take t).length = t := by rw [List.length_take]; omega
  have hcn : cnt g.segs = t := by rw [cnt, h.rows]; exact htl
  rcases h.st with ⟨rfl, hg⟩ | ⟨ht, pre, s, s0, hc, hpl⟩
  · obtain ⟨segs, d', hgo, h1, _⟩ := open_good (ba := ba) (sz := sz) (d := DiskMath.crash d ks) h.chain (crash_good hg ks) rfl rfl (by omega) (Int.le_refl _) hb0 hb1 (by have := h.segs; omega) hs0 hs1 (by omega)
    refine ⟨t, segs, d', hgo.opens, hgo.good, ?_, Nat.le_refl _, by omega, hj, Nat.le_refl _, by have := h.segs; omega⟩
    rw [hgo.rows, hcn, h.rows, List.take_take, Nat.min_self]
  · obtain ⟨k, segs, d', hgo, h1, h2⟩ := open_cutoff (ba := ba) (sz := sz) hc hb0 hb1 (by omega) hs0 hs1 (by omega) ks
    have hk := hgo.le
    rw [List.length_append, List.length_singleton, htl] at hk
    rw [htl] at h1
    have hr : l.take t ++ [l.getD t []] = l.take (t + 1) := by
      have htlt : t < l.length := by omega
      rw [List.take_succ_eq_append_getElem htlt, List.getD_eq_getElem?_getD, List.getElem?_eq_getElem htlt]
      rfl
    refine ⟨k, segs, d', hgo.opens, hgo.good, ?_, h1, hk, by omega, by omega, by omega⟩
    rw [hgo.rows, hr, List.take_take, Nat.min_eq_left hk]
theorem rows_bytes {l : List Sg} {s : Sg} (hs : s ∈ l) {M : Nat} (hr : ∀ p ∈ rowsOf l, p.length ≤ 1000) (hc : cnt l ≤ M) : (bytesOf s).length ≤ 19 + M * 1008 := by
  have h1 : ∀ p ∈ s.rows, p ∈ rowsOf l := fun p hp => List.mem_flatMap.2 ⟨s, hs, hp⟩
  have h2 : s.rows.length ≤ cnt l := by
    clear hr hc h1
    induction l with
    | nil => cases hs
    | cons t l ih =>
      rw [cnt_cons]
      rcases List.mem_cons.1 hs with rfl | hs
      · omega
      · have := ih hs
        omega
  have h3 : ∀ (r : List (List UInt8)), (∀ p ∈ r, p.length ≤ 1000) → (recs r).length ≤ r.length * 1008 := by
    intro r
    induction r with
    | nil => intro _; simp [recs]
    | cons p r ih =>
      intro h
      rw [recs_cons, List.length_append, recB_length, List.length_cons]
      have := ih fun q hq => h q (List.mem_cons_of_mem _ hq)
      have := h p List.mem_cons_self
      omega
  have h4 := h3 s.rows fun p hp => hr p (h1 p hp)
  rw [bytesOf_length]
  have : s.rows.length * 1008 ≤ M * 1008 := Nat.mul_le_mul_right _ (by omega)
  omega
theorem Run.cap {l : List (List UInt8)} {ba sz : Int} {j t : Nat} {g : Lg} {d : Dk} (h : Run l ba sz j t g d) (hj : j ≤ l.length) (hj2 : j ≤ 100) (hr : ∀ p ∈ l.take j, p.length ≤ 1000) : Cap 200 200000 d := by
  have hle := h.le
  refine ⟨by have := h.ops; omega, by have := h.left; omega, fun y hy => ?_⟩
  rcases h.st with ⟨rfl, hg⟩ | ⟨ht, pre, s, s0, hc, hpl⟩
  · rw [hg.files] at hy
    obtain ⟨s, hs, rfl⟩ := List.mem_map.1 hy
    have := rows_bytes (M := 100) hs (by rw [h.rows]; exact hr) (by rw [cnt, h.rows, List.length_take]; omega)
    show (bytesOf s).length ≤ _
    omega
  · have htlt : t < l.length := by omega
    have e : l.take t ++ [l.getD t []] = l.take (t + 1) := by
      rw [List.take_succ_eq_append_getElem htlt, List.getD_eq_getElem?_getD, List.getElem?_eq_getElem htlt]
      rfl
    have hrw : ∀ p ∈ rowsOf (pre ++ [s]), p.length ≤ 1000 := by
      rw [hc.rows, e]
      intro p hp
      refine hr p ?_
      have : l.take (t + 1) = (l.take j).take (t + 1) := by rw [List.take_take, Nat.min_eq_left (by omega)]
      rw [this] at hp
      exact List.mem_of_mem_take hp
    have hcn : cnt (pre ++ [s]) ≤ 100 := by rw [cnt, hc.rows, e, List.length_take]; omega
    rw [hc.files] at hy
    rcases List.mem_append.1 hy with hy | hy
    · obtain ⟨u, hu, rfl⟩ := List.mem_map.1 hy
      have := rows_bytes (M := 100) (s := u) (l := pre ++ [s]) (by simp [hu]) hrw hcn
      show (bytesOf u).length ≤ _
      omega
    · rw [List.mem_singleton] at hy
      subst hy
      have := rows_bytes (M := 100) (s := s) (l := pre ++ [s]) (by simp) hrw hcn
      show (bytesOf s).length ≤ _
      omega
end Go.Proofs.Ytlkjmdkmcaaihaa.WalMath

namespace Go.Proofs.Ytlkjmdkmcaaihaa.WalMath
set_option linter.unusedVariables false
open FieldMath RecMath SegMath
open DiskMath (Fl Dk Up seek ins del grow sure begunL crashL setl keeps)

/-- a write broke off: the last file has some bytes that are no entry -/
structure Rent (f x : Int) (l : Lg) (p : List UInt8) (d : Dk) (pre : List Sg) (s : Sg) (s0 m : Nat) : Prop where
  tip : Tip f x pre s
  rows : rowsOf (pre ++ [s]) = rowsOf l.segs ++ [p]
  len : pre.length ≤ l.segs.length
  safe : (s0 = 0 ∧ s.rows = [p]) ∨ ∃ rs, s.rows = rs ++ [p] ∧ s0 = 19 + (recs rs).length
  cut : s0 ≤ m ∧ m < (bytesOf s).length
  files : d.files = img pre ++ [⟨s.file, (bytesOf s).take m, s0⟩]
  on : d.off = false
  left : d.left = 0
  plan : ∃ qb, plan l false p = .ok qb
  mends : ∃ d1, clean l d = (0, d1) ∧ Good f x { l with left := none } d1 ∧ d1.left = 0 ∧ d1.ops = d.ops + 1

theorem tear_good {f x : Int} {l : Lg} {d : Dk} {p : List UInt8} {k : Int} (h : Good f x l d) (hl : d.left = 0) (hk : 0 ≤ k) (hx : l.segs = [] → x = 1 ∧ f = l.base) (hx1 : 1 ≤ x) (hf : l.base ≤ f) (hb0 : 0 ≤ l.base) (hb1 : l.base ≤ 12288) (hp : p.length ≤ 1048576) (hh : x + cnt l.segs - 1 < 1099511627776) (hn : f + l.segs.length < l.base + 4096) :
    ∃ q d', tear l d p k = (0, { l with left := some q }, d') ∧ d'.ops = d.ops + 1 ∧ ∃ pre s s0 m, Rent f x { l with left := some q } p d' pre s s0 m := by
  obtain ⟨pre, s, s0, q, b, N⟩ := next_of h.chain hx hx1 hf hb0 hb1 hp hh hn
  obtain ⟨old, e1, e2, e3, e4⟩ := N.part
  have hb : 0 < b.length := (plan_ok N.plan).2.2.2.2.1
  have hm := Nat.mod_lt k.toNat hb
  generalize hmm : k.toNat % b.length = m at hm
  have hcl : clean l d = (0, d) := by unfold clean; rw [h.left]
  have htold : DiskMath.told d = 0 := by unfold DiskMath.told; rw [if_neg (by omega)]
  have hte : tear l d p k = (0, { l with left := some q }, { DiskMath.tick d with files := img pre ++ [⟨s.file, old ++ b.take m, s0⟩] }) := by
    unfold tear
    rw [if_neg (by omega), h.on, N.plan]
    dsimp only
    unfold write
    rw [hcl, if_pos rfl, hmm, e3 d _ h.files h.on, htold]
  have hlen : (bytesOf s).length = s0 + b.length := by rw [e1, List.length_append, e2]
  have htk : old ++ b.take m = (bytesOf s).take (s0 + m) := by
    rw [e1, List.take_append, List.take_of_length_le (l := old) (by omega), show s0 + m - old.length = m by omega]
  have hoff' : decide (d.left = 1) = false := by rw [hl]; rfl
  have hfile : 0 ≤ s.file ∧ s.file < 16384 := by
    have a := N.tip.one.1
    have b := N.len
    omega
  refine ⟨q, _, hte, rfl, pre, s, s0, s0 + m, N.tip, N.rows, by have := N.len; show pre.length ≤ l.segs.length; omega, N.safe, ⟨by omega, by omega⟩, by rw [← htk], hoff', by show d.left - 1 = 0; omega, ⟨_, N.plan⟩, ?_⟩
  have hids : ∀ y ∈ img pre, y.id ≠ (⟨s.file, old ++ b.take m, s0⟩ : Fl).id := N.tip.ids
  have hrf : DiskMath.refuse { DiskMath.tick d with files := img pre ++ [⟨s.file, old ++ b.take m, s0⟩] } s.file true = 0 := by
    unfold DiskMath.refuse
    dsimp only
    rw [show (⟨img pre ++ [⟨s.file, old ++ b.take m, s0⟩], (DiskMath.tick d).left, (DiskMath.tick d).off, (DiskMath.tick d).ops⟩ : Dk).off = false from hoff', show seek (img pre ++ [⟨s.file, old ++ b.take m, s0⟩]) s.file = some ⟨s.file, old ++ b.take m, s0⟩ from seek_last hids, if_neg (by simp), if_neg (by omega), if_neg (by simp)]
  rcases e4 with ⟨hq, hi⟩ | ⟨hq, hh2, hi⟩
  · refine ⟨{ DiskMath.tick { DiskMath.tick d with files := img pre ++ [⟨s.file, old ++ b.take m, s0⟩] } with files := img pre }, ?_, ⟨h.chain, hi.symm, rfl, by show decide (d.left - 1 = 1) = false; rw [hl]; rfl⟩, by show d.left - 1 - 1 = 0; omega, rfl⟩
    unfold clean
    dsimp only
    rw [hq, if_pos rfl, N.file]
    unfold DiskMath.remove
    rw [hrf, if_pos rfl, oper_eq, if_neg (by show ¬ d.left - 1 = 1; omega)]
    dsimp only
    rw [show del (img pre ++ [⟨s.file, old ++ b.take m, s0⟩]) s.file = img pre from del_last hids]
  · refine ⟨{ DiskMath.tick { DiskMath.tick d with files := img pre ++ [⟨s.file, old ++ b.take m, s0⟩] } with files := img pre ++ [⟨s.file, old, s0⟩] }, ?_, ⟨h.chain, hi.symm, rfl, by show decide (d.left - 1 = 1) = false; rw [hl]; rfl⟩, by show d.left - 1 - 1 = 0; omega, rfl⟩
    unfold clean
    dsimp only
    rw [hq, if_neg (by simp), N.file, hh2]
    unfold DiskMath.cut
    have hsd : DiskMath.size { DiskMath.tick d with files := img pre ++ [⟨s.file, old ++ b.take m, s0⟩] } s.file = s0 + m := by
      unfold DiskMath.size
      dsimp only
      rw [show seek (img pre ++ [⟨s.file, old ++ b.take m, s0⟩]) s.file = some ⟨s.file, old ++ b.take m, s0⟩ from seek_last hids]
      show ((old ++ b.take m).length : Int) = _
      rw [List.length_append, List.length_take, ← e2]
      omega
    rw [hrf, if_pos rfl, hsd, if_neg (by omega), oper_eq, if_neg (by show ¬ d.left - 1 = 1; omega)]
    dsimp only
    rw [show DiskMath.put (img pre ++ [⟨s.file, old ++ b.take m, s0⟩]) s.file (DiskMath.trim (s0 : Int).toNat) = img pre ++ [DiskMath.trim (s0 : Int).toNat ⟨s.file, old ++ b.take m, s0⟩] from put_last hids]
    congr 3
    unfold DiskMath.trim
    simp [e2]

/-- the next write takes it away -/
theorem Rent.append {f x : Int} {l : Lg} {p : List UInt8} {d : Dk} {pre : List Sg} {s : Sg} {s0 m : Nat} (h : Rent f x l p d pre s s0 m) :
    ∃ d1, Good f x { l with left := none } d1 ∧ d1.left = 0 ∧ d1.ops = d.ops + 1 ∧ WalMath.append l d p = WalMath.append { l with left := none } d1 p := by
  obtain ⟨d1, hc, hg, h1, h2⟩ := h.mends
  obtain ⟨⟨q, b⟩, hq⟩ := h.plan
  refine ⟨d1, hg, h1, h2, ?_⟩
  have hcl : clean { l with left := none } d1 = (0, d1) := by unfold clean; rfl
  have hw : write l d q b = write { l with left := none } d1 q b := by
    unfold write
    rw [hc, hcl, if_pos rfl, if_pos rfl]
  have hpl : WalMath.plan { l with left := none } d1.off p = .ok (q, b) := by
    rw [hg.on]
    exact hq
  unfold WalMath.append
  rw [hpl, h.on, hq]
  dsimp only
  rw [hw]

theorem full_len {f x : Int} {l : List Sg} (h : Full f x l) : l.length ≤ cnt l := by
  induction l generalizing f x with
  | nil => exact Nat.zero_le _
  | cons t l ih =>
    have := ih h.2.2
    have := List.length_pos_iff.2 h.2.1
    rw [cnt_cons, List.length_cons]
    omega
theorem chain_len {f x : Int} {l : List Sg} (h : Chain f x l) : l.length ≤ cnt l + 1 := by
  rcases h with rfl | ⟨pre, s, rfl, h1, _⟩
  · exact Nat.zero_le _
  · have := full_len h1
    rw [cnt_snoc, List.length_append, List.length_singleton]
    omega

/-- behind a crash somewhere in the last file -/
theorem crash_part {d : Dk} {pre : List Sg} {s : Sg} {s0 m : Nat} (hf : d.files = img pre ++ [⟨s.file, (bytesOf s).take m, s0⟩]) (hs : s0 ≤ m) (hm : m ≤ (bytesOf s).length) (ks : List Int) :
    ∃ i, s0 ≤ i ∧ i ≤ m ∧ (DiskMath.crash d ks).files = img pre ++ [⟨s.file, (bytesOf s).take i, i⟩] := by
  have hl : ((bytesOf s).take m).length = m := by rw [List.length_take]; omega
  obtain ⟨k, e⟩ := crashL_snoc (img pre) ⟨s.file, (bytesOf s).take m, s0⟩ ks
  have hk := DiskMath.keeps_le k ⟨s.file, (bytesOf s).take m, s0⟩ (by show s0 ≤ ((bytesOf s).take m).length; omega)
  dsimp only at hk
  rw [hl] at hk
  refine ⟨keeps k ⟨s.file, (bytesOf s).take m, s0⟩, hk.1, hk.2, ?_⟩
  show crashL d.files ks = _
  rw [hf, e, crashL_img]
  unfold DiskMath.setl
  dsimp only
  rw [List.take_take, Nat.min_eq_left hk.2]
theorem Rent.opens {ba sz : Int} {l : Lg} {p : List UInt8} {d : Dk} {pre : List Sg} {s : Sg} {s0 m : Nat} (h : Rent ba 1 l p d pre s s0 m) (hb0 : 0 ≤ ba) (hb1 : ba ≤ 12288) (hn : (pre.length : Int) < 4096) (hs0 : 64 ≤ sz) (hs1 : sz ≤ 65536) (hmax : cnt l.segs < 1000000) (ks : List Int) :
    ∃ segs d', Got ba 1 ba sz (DiskMath.crash d ks) (rowsOf l.segs) (cnt l.segs) segs d' := by
  have hcn : cnt (pre ++ [s]) = cnt l.segs + 1 := by rw [cnt, h.rows, List.length_append]; rfl
  have hcn2 := hcn
  rw [cnt_snoc] at hcn
  obtain ⟨i, hi0, hi1, hf⟩ := crash_part h.files h.cut.1 (Nat.le_of_lt h.cut.2) ks
  have hcut := h.cut.2
  obtain ⟨j, segs, d', hg, h1, h2, h3, h4, h5⟩ := open_cut (ba := ba) (sz := sz) h.tip (by omega) (by omega) hf rfl rfl (Int.le_refl _) hb0 hb1 (by omega) hs0 hs1 (by omega) (by omega)
  have hrne : s.rows ≠ [] := by
    rcases h.safe with ⟨_, e⟩ | ⟨r0, e, _⟩ <;> rw [e] <;> simp
  have hlt := h2 (by omega) hrne
  have hj : j = cnt l.segs := by
    rcases h.safe with ⟨_, e⟩ | ⟨r0, e1, e2⟩
    · rw [e] at hcn
      simp at hcn
      omega
    · rw [e1, List.length_append, List.length_singleton] at hcn
      by_cases hr : r0.length = 0
      · omega
      · have := h3 r0.length (by rw [e1]; simp) (by omega) (by rw [e1, List.take_left, ← e2]; exact hi0)
        omega
  subst hj
  refine ⟨segs, d', hg.opens, hg.good, ?_, Nat.le_refl _, hg.left, hg.ops⟩
  rw [hg.rows, h.rows, List.take_append, show WalMath.cnt l.segs - (rowsOf l.segs).length = 0 from Nat.sub_self _, List.take_zero, List.append_nil]

/-- a run of Appends, no power going: t entries of l -/
structure Tore (l : List (List UInt8)) (ba sz : Int) (t : Nat) (g : Lg) (d : Dk) : Prop where
  good : Good ba 1 g d
  rows : rowsOf g.segs = l.take t
  base : g.base = ba
  size : g.size = sz
  ops : d.ops ≤ 6 * t
  left : d.left = 0
theorem Tore.cnt {l : List (List UInt8)} {ba sz : Int} {t : Nat} {g : Lg} {d : Dk} (h : Tore l ba sz t g d) (ht : t ≤ l.length) : cnt g.segs = t := by
  rw [WalMath.cnt, h.rows, List.length_take]
  omega
theorem Tore.hd {l : List (List UInt8)} {ba sz : Int} {t : Nat} {g : Lg} {d : Dk} (h : Tore l ba sz t g d) (ht : t ≤ l.length) : hd g.segs = t := by rw [hd_chain1 h.good.chain, h.cnt ht]
theorem Tore.len {l : List (List UInt8)} {ba sz : Int} {t : Nat} {g : Lg} {d : Dk} (h : Tore l ba sz t g d) (ht : t ≤ l.length) : g.segs.length ≤ t + 1 := by
  have := chain_len h.good.chain
  rw [h.cnt ht] at this
  exact this
theorem tore0 (l : List (List UInt8)) (ba sz : Int) : Tore l ba sz 0 ⟨[], ba, sz, none⟩ DiskMath.none_ := ⟨⟨.inl rfl, rfl, rfl, rfl⟩, rfl, rfl, rfl, Nat.le_refl _, rfl⟩
theorem take_next {l : List (List UInt8)} {t : Nat} {p : List UInt8} (hp : l[t]? = some p) : l.take (t + 1) = l.take t ++ [p] := by
  have hjl : t < l.length := (List.getElem?_eq_some_iff.1 hp).1
  rw [List.getElem?_eq_getElem hjl] at hp
  rw [List.take_succ_eq_append_getElem hjl, Option.some.inj hp]
/-- an Append of any entry -/
theorem Tore.push {l : List (List UInt8)} {ba sz : Int} {t k : Nat} {g : Lg} {d : Dk} {p : List UInt8} (hg : Good ba 1 g d) (hr : rowsOf g.segs = l.take t) (hb : g.base = ba) (hz : g.size = sz) (ho : d.ops ≤ k) (hl : d.left = 0) (ht : t ≤ l.length) (ht2 : t < 1000) (hp : p.length ≤ 1000) (hb0 : 0 ≤ ba) (hb1 : ba ≤ 12288) :
    (WalMath.append g d p).e = 0 ∧ (WalMath.append g d p).n = t + 1 ∧ Good ba 1 (WalMath.append g d p).l (WalMath.append g d p).d ∧ rowsOf (WalMath.append g d p).l.segs = l.take t ++ [p] ∧ (WalMath.append g d p).l.base = ba ∧ (WalMath.append g d p).l.size = sz ∧ (WalMath.append g d p).d.ops ≤ k + 2 ∧ (WalMath.append g d p).d.left = 0 := by
  have hcn : WalMath.cnt g.segs = t := by rw [WalMath.cnt, hr, List.length_take]; omega
  have hln := chain_len hg.chain
  have hst := append_good (p := p) hg (fun _ => ⟨rfl, hb.symm⟩) (by omega) (by omega) (by omega) (by omega) (by omega) (by omega) (by omega)
  have hst2 := hst.resolve_right (fun h => by have := h.2.2.2.2.1; omega)
  obtain ⟨a1, a2, a3, a4, a5, a6, a7, a8, a9, a10⟩ := hst2
  exact ⟨a1, by rw [a2, hcn]; omega, a3, by rw [a4, hr], by rw [a5, hb], by rw [a6, hz], by omega, by omega⟩
theorem Tore.step {l : List (List UInt8)} {ba sz : Int} {t : Nat} {g : Lg} {d : Dk} {p : List UInt8} (h : Tore l ba sz t g d) (ht2 : t < 1000) (hl : l[t]? = some p) (hp : p.length ≤ 1000) (hb0 : 0 ≤ ba) (hb1 : ba ≤ 12288) :
    (WalMath.append g d p).e = 0 ∧ (WalMath.append g d p).n = t + 1 ∧ Tore l ba sz (t + 1) (WalMath.append g d p).l (WalMath.append g d p).d := by
  have hjl : t < l.length := (List.getElem?_eq_some_iff.1 hl).1
  obtain ⟨a1, a2, a3, a4, a5, a6, a7, a8⟩ := Tore.push h.good h.rows h.base h.size h.ops h.left (by omega) ht2 hp hb0 hb1
  exact ⟨a1, a2, a3, by rw [a4, take_next hl], a5, a6, by omega, a8⟩
/-- a Tear of the next entry -/
theorem Tore.tear {l : List (List UInt8)} {ba sz : Int} {t : Nat} {g : Lg} {d : Dk} {p : List UInt8} {k : Int} (h : Tore l ba sz t g d) (hk : 0 ≤ k) (ht2 : t < 1000) (hl : l[t]? = some p) (hp : p.length ≤ 1000) (hb0 : 0 ≤ ba) (hb1 : ba ≤ 12288) :
    ∃ q d', WalMath.tear g d p k = (0, { g with left := some q }, d') ∧ d'.ops ≤ 6 * t + 1 ∧ ∃ pre s s0 m, Rent ba 1 { g with left := some q } p d' pre s s0 m := by
  have hjl : t < l.length := (List.getElem?_eq_some_iff.1 hl).1
  have hcn := h.cnt (by omega)
  have hln := h.len (by omega)
  have hbs := h.base
  obtain ⟨q, d', e, ho, r⟩ := tear_good (p := p) (k := k) h.good h.left hk (fun _ => ⟨rfl, hbs.symm⟩) (by omega) (by omega) (by omega) (by omega) (by omega) (by omega) (by omega)
  exact ⟨q, d', e, by have := h.ops; omega, r⟩
theorem Tore.mend {l : List (List UInt8)} {ba sz : Int} {t : Nat} {g : Lg} {d d' : Dk} {p : List UInt8} {q : Pc} {pre : List Sg} {s : Sg} {s0 m : Nat} (h : Tore l ba sz t g d) (r : Rent ba 1 { g with left := some q } p d' pre s s0 m) (ho : d'.ops ≤ 6 * t + 1) (ht2 : t < 1000) (hl : l[t]? = some p) (hp : p.length ≤ 1000) (hb0 : 0 ≤ ba) (hb1 : ba ≤ 12288) :
    (WalMath.append { g with left := some q } d' p).e = 0 ∧ (WalMath.append { g with left := some q } d' p).n = t + 1 ∧ Tore l ba sz (t + 1) (WalMath.append { g with left := some q } d' p).l (WalMath.append { g with left := some q } d' p).d := by
  have hjl : t < l.length := (List.getElem?_eq_some_iff.1 hl).1
  obtain ⟨d1, hg, h1, h2, e⟩ := r.append
  rw [e]
  obtain ⟨a1, a2, a3, a4, a5, a6, a7, a8⟩ := Tore.push (k := 6 * t + 2) hg h.rows h.base h.size (by omega) h1 (by omega) ht2 hp hb0 hb1
  exact ⟨a1, a2, a3, by rw [a4, take_next hl], a5, a6, by omega, a8⟩
/-- a crash behind a Tear -/
theorem Tore.again {l : List (List UInt8)} {ba sz : Int} {t : Nat} {g : Lg} {d d' : Dk} {p : List UInt8} {q : Pc} {pre : List Sg} {s : Sg} {s0 m : Nat} (h : Tore l ba sz t g d) (r : Rent ba 1 { g with left := some q } p d' pre s s0 m) (ho : d'.ops ≤ 6 * t + 1) (ht : t ≤ l.length) (ht2 : t < 1000) (hb0 : 0 ≤ ba) (hb1 : ba ≤ 12288) (hs0 : 64 ≤ sz) (hs1 : sz ≤ 65536) (ks : List Int) :
    ∃ segs d1, open_ (DiskMath.crash d' ks) ba sz = ⟨0, some ⟨segs, ba, sz, none⟩, d1⟩ ∧ Good ba 1 ⟨segs, ba, sz, none⟩ d1 ∧ rowsOf segs = l.take t ∧ d1.ops ≤ 6 * t + 2 ∧ d1.left = 0 := by
  have hcn := h.cnt ht
  have hln := h.len ht
  have hrl : pre.length ≤ g.segs.length := r.len
  obtain ⟨segs, d1, hg⟩ := r.opens (sz := sz) hb0 hb1 (by omega) hs0 hs1 (by show WalMath.cnt g.segs < _; omega) ks
  refine ⟨segs, d1, hg.opens, hg.good, ?_, ?_, hg.left⟩
  · rw [hg.rows]
    show (rowsOf g.segs).take (WalMath.cnt g.segs) = _
    rw [WalMath.cnt, List.take_length, h.rows]
  · have := hg.ops
    have e : (DiskMath.crash d' ks).ops = d'.ops := rfl
    omega
/-- a crash, no write under way -/
theorem Tore.fresh {l : List (List UInt8)} {ba sz : Int} {t : Nat} {g : Lg} {d : Dk} (h : Tore l ba sz t g d) (ht : t ≤ l.length) (ht2 : t < 1000) (hb0 : 0 ≤ ba) (hb1 : ba ≤ 12288) (hs0 : 64 ≤ sz) (hs1 : sz ≤ 65536) (ks : List Int) :
    ∃ segs d1, open_ (DiskMath.crash d ks) ba sz = ⟨0, some ⟨segs, ba, sz, none⟩, d1⟩ ∧ Good ba 1 ⟨segs, ba, sz, none⟩ d1 ∧ rowsOf segs = l.take t := by
  have hcn := h.cnt ht
  have hln := h.len ht
  obtain ⟨segs, d', hgo, h1, _⟩ := open_good (ba := ba) (sz := sz) (d := DiskMath.crash d ks) h.good.chain (crash_good h.good ks) rfl rfl (by omega) (Int.le_refl _) hb0 hb1 (by omega) hs0 hs1 (by omega)
  exact ⟨segs, d', hgo.opens, hgo.good, by rw [hgo.rows, WalMath.cnt, List.take_length, h.rows]⟩
theorem Tore.cap {l : List (List UInt8)} {ba sz : Int} {t : Nat} {g : Lg} {d : Dk} (h : Tore l ba sz t g d) (ht : t ≤ l.length) (ht2 : t ≤ 100) (hr : ∀ p ∈ l.take t, p.length ≤ 1000) : Cap 700 200000 d := by
  refine ⟨by have := h.ops; omega, by have := h.left; omega, fun y hy => ?_⟩
  rw [h.good.files] at hy
  obtain ⟨s, hs, rfl⟩ := List.mem_map.1 hy
  have := rows_bytes (M := 100) hs (by rw [h.rows]; exact hr) (by rw [h.cnt ht]; omega)
  show (bytesOf s).length ≤ _
  omega
theorem Rent.cap {ba : Int} {l : Lg} {p : List UInt8} {d : Dk} {pre : List Sg} {s : Sg} {s0 m k : Nat} (h : Rent ba 1 l p d pre s s0 m) (hr : ∀ p ∈ rowsOf l.segs, p.length ≤ 1000) (hp : p.length ≤ 1000) (hc : cnt l.segs < 100) (hk : d.ops ≤ k) : Cap k 200000 d := by
  have hrw : ∀ p ∈ rowsOf (pre ++ [s]), p.length ≤ 1000 := by
    rw [h.rows]
    intro y hy
    rcases List.mem_append.1 hy with hy | hy
    · exact hr y hy
    · rw [List.mem_singleton] at hy
      subst hy
      exact hp
  have hcn : cnt (pre ++ [s]) ≤ 100 := by rw [cnt, h.rows, List.length_append]; show cnt l.segs + 1 ≤ _; omega
  refine ⟨hk, by have := h.left; omega, fun y hy => ?_⟩
  rw [h.files] at hy
  rcases List.mem_append.1 hy with hy | hy
  · obtain ⟨u, hu, rfl⟩ := List.mem_map.1 hy
    have := rows_bytes (M := 100) (s := u) (l := pre ++ [s]) (by simp [hu]) hrw hcn
    show (bytesOf u).length ≤ _
    omega
  · rw [List.mem_singleton] at hy
    subst hy
    have := rows_bytes (M := 100) (s := s) (l := pre ++ [s]) (by simp) hrw hcn
    show ((bytesOf s).take m).length ≤ _
    rw [List.length_take]
    omega

/-! ### each segment has an entry -/
theorem append_full {f x : Int} {l : Lg} {d : Dk} {p : List UInt8} (h : Good f x l d) (hx : l.segs = [] → x = 1 ∧ f = l.base) (hx1 : 1 ≤ x) (hf : l.base ≤ f) (hb0 : 0 ≤ l.base) (hb1 : l.base ≤ 12288) (hp : p.length ≤ 1048576) (hh : x + cnt l.segs - 1 < 1099511627776) (hn : f + l.segs.length < l.base + 4096) (he : (append l d p).e = 0) : Full f x (append l d p).l.segs := by
  obtain ⟨pre, s, s0, q, b, N⟩ := next_of h.chain hx hx1 hf hb0 hb1 hp hh hn
  have hr : s.rows ≠ [] := by
    rcases N.safe with ⟨_, e⟩ | ⟨r0, e, _⟩ <;> rw [e] <;> simp
  have hw : (write l d q b).2.1.segs = l.segs := by
    unfold write
    split <;> rfl
  have key : (append l d p).l.segs = pre ++ [s] := by
    have hpl : plan l d.off p = .ok (q, b) := by rw [h.on]; exact N.plan
    unfold append at he ⊢
    rw [hpl] at he ⊢
    dsimp only at he ⊢
    split at he
    · rename_i h1
      rw [if_pos h1]
      unfold synced at he ⊢
      split at he
      · rename_i h2
        rw [if_pos h2]
        dsimp only
        rw [hw, N.segs]
      · rename_i h2
        exact absurd he h2
    · rename_i h1
      exact absurd he h1
  rw [key]
  exact full_snoc N.tip.full N.tip.one hr

/-! ### a last file that is cut -/
theorem cut_last {f x : Int} {l : Lg} {d : Dk} (h : Good f x l d) (hl : d.left = 0) (h0 : l.segs ≠ []) (hf : 0 ≤ f) (hn : f + l.segs.length ≤ 16384) :
    ∃ pre s, l.segs = pre ++ [s] ∧ Tip f x pre s ∧ d.files = img pre ++ [fl s] ∧ DiskMath.seek d.files s.file = some (fl s) ∧ 19 ≤ (bytesOf s).length ∧ ∀ m, m < (bytesOf s).length → DiskMath.cut d s.file (m : Int) = (0, { DiskMath.tick d with files := img pre ++ [⟨s.file, (bytesOf s).take m, m⟩] }) := by
  obtain ⟨pre, s, e, ht⟩ := chain_tip h.chain h0
  have hfs : d.files = img pre ++ [fl s] := by rw [h.files, e, img_append]; rfl
  have hseek : DiskMath.seek d.files s.file = some (fl s) := by rw [hfs]; exact seek_last ht.ids
  have hlen : l.segs.length = pre.length + 1 := by rw [e]; simp
  have hfile : 0 ≤ s.file ∧ s.file < 16384 := by have := ht.one.1; omega
  refine ⟨pre, s, e, ht, hfs, hseek, by rw [bytesOf_length]; omega, fun m hm => ?_⟩
  have hrf : DiskMath.refuse d s.file true = 0 := by
    unfold DiskMath.refuse
    rw [h.on, hseek, if_neg (by simp), if_neg (by omega), if_neg (by simp)]
  have hsd : DiskMath.size d s.file = ((bytesOf s).length : Int) := by
    unfold DiskMath.size
    rw [hseek]
    rfl
  unfold DiskMath.cut
  rw [hrf, if_pos rfl, hsd, if_neg (by omega), oper_eq, if_neg (by omega), hfs]
  rw [show DiskMath.put (img pre ++ [fl s]) s.file (DiskMath.trim (m : Int).toNat) = img pre ++ [DiskMath.trim (m : Int).toNat (fl s)] from put_last ht.ids]
  congr 3
  unfold DiskMath.trim fl
  dsimp only
  rw [Int.toNat_natCast, Nat.min_eq_right (Nat.le_of_lt hm)]
end Go.Proofs.Ytlkjmdkmcaaihaa.WalMath
