/-
  Plain mathematics of records, of no program: what a record's bytes are, what is taken off the front of bytes, or what is wrong with them first, and the records that stand one behind the other.
-/
import Derived.Test.YthffmojmfghbiaaFieldMath
import Derived.Test.YthffmojmfghbiaaCrcMath
namespace Go.Proofs.Ythffmojmfghbiaa.RecMath
open FieldMath

/-- bytes as the integers of the sum -/
def zs (l : List UInt8) : List Int := l.map fun b => (b.toNat : Int)
theorem zs_bytes (l : List UInt8) : Crc.bytesB (zs l) := by
  intro x hx
  obtain ⟨b, _, rfl⟩ := List.mem_map.1 hx
  have := b.toNat_lt
  omega
theorem zs_append (l m : List UInt8) : zs (l ++ m) = zs l ++ zs m := List.map_append
theorem zs_length (l : List UInt8) : (zs l).length = l.length := List.length_map _
theorem zs_take (l : List UInt8) (k : Nat) : (zs l).take k = zs (l.take k) := (List.map_take ..).symm
/-- the sum of some bytes -/
def sum (l : List UInt8) : Nat := (Crc.moreZ 0 (zs l)).toNat
theorem sum_cast (l : List UInt8) : ((sum l : Nat) : Int) = Crc.moreZ 0 (zs l) := by
  have := Crc.moreZ_bd (s := 0) (zs l) (by omega) (by omega) (zs_bytes l)
  unfold sum
  omega
theorem sum_lt (l : List UInt8) : sum l < 4294967296 := by
  have := Crc.moreZ_bd (s := 0) (zs l) (by omega) (by omega) (zs_bytes l)
  unfold sum
  omega
theorem more_sum (l m : List UInt8) : Crc.moreZ (sum l : Nat) (zs m) = ((sum (l ++ m) : Nat) : Int) := by
  rw [sum_cast, sum_cast, zs_append, Crc.moreZ_append _ _ (by omega) (by omega) (zs_bytes l)]

/-- the record that holds p -/
def recB (p : List UInt8) : List UInt8 := big p.length 4 ++ (big (sum (big p.length 4 ++ p)) 4 ++ p)
/-- what Put answers -/
def put (p : List UInt8) : Except Nat (List UInt8) := if 1048576 < p.length then .error 1 else .ok (recB p)
/-- what Take answers -/
def tk (b : List UInt8) : Except Nat (List UInt8) :=
  if b.length < 8 then .error 2
  else if 1048576 < num (b.take 4) then .error 3
  else if b.length - 8 < num (b.take 4) then .error 2
  else if num ((b.drop 4).take 4) = sum (b.take 4 ++ (b.drop 8).take (num (b.take 4))) then .ok ((b.drop 8).take (num (b.take 4))) else .error 4
/-- how many bytes the record has that Take answers -/
def tsize : Except Nat (List UInt8) → Nat
  | .error _ => 0
  | .ok p => 8 + p.length

theorem recB_length (p : List UInt8) : (recB p).length = 8 + p.length := by
  rw [recB, List.length_append, List.length_append, big_length, big_length]; omega
theorem pow4 : 256 ^ 4 = 4294967296 := by decide
theorem num4_lt {r : List UInt8} (h : 4 ≤ r.length) : num (r.take 4) < 4294967296 := by
  have := num_lt (r.take 4)
  rw [List.length_take, Nat.min_eq_left h, pow4] at this
  exact this

theorem tk_short {b : List UInt8} (h : b.length < 8) : tk b = .error 2 := by rw [tk, if_pos h]
theorem tk_long {b : List UInt8} (h : 8 ≤ b.length) (h1 : 1048576 < num (b.take 4)) : tk b = .error 3 := by rw [tk, if_neg (by omega), if_pos h1]
theorem tk_lacks {b : List UInt8} (h : 8 ≤ b.length) (h1 : num (b.take 4) ≤ 1048576) (h2 : b.length - 8 < num (b.take 4)) : tk b = .error 2 := by
  rw [tk, if_neg (by omega), if_neg (by omega), if_pos h2]
theorem tk_ok {b : List UInt8} (h : 8 ≤ b.length) (h1 : num (b.take 4) ≤ 1048576) (h2 : num (b.take 4) ≤ b.length - 8) (h3 : num ((b.drop 4).take 4) = sum (b.take 4 ++ (b.drop 8).take (num (b.take 4)))) :
    tk b = .ok ((b.drop 8).take (num (b.take 4))) := by
  rw [tk, if_neg (by omega), if_neg (by omega), if_neg (by omega), if_pos h3]
theorem tk_bad {b : List UInt8} (h : 8 ≤ b.length) (h1 : num (b.take 4) ≤ 1048576) (h2 : num (b.take 4) ≤ b.length - 8) (h3 : ¬ num ((b.drop 4).take 4) = sum (b.take 4 ++ (b.drop 8).take (num (b.take 4)))) :
    tk b = .error 4 := by
  rw [tk, if_neg (by omega), if_neg (by omega), if_neg (by omega), if_neg h3]
theorem tk_fits {b p : List UInt8} (h : tk b = .ok p) : 8 + p.length ≤ b.length ∧ p.length ≤ 1048576 := by
  unfold tk at h
  split at h
  · cases h
  · split at h
    · cases h
    · split at h
      · cases h
      · split at h
        · injection h with h
          subst h
          rw [List.length_take, List.length_drop]
          omega
        · cases h
theorem tk_err {b : List UInt8} {e : Nat} (h : tk b = .error e) : e = 2 ∨ e = 3 ∨ e = 4 := by
  unfold tk at h
  split at h
  · injection h with h; omega
  · split at h
    · injection h with h; omega
    · split at h
      · injection h with h; omega
      · split at h
        · cases h
        · injection h with h; omega

/-- four bytes, four bytes, and so many bytes as the first four say -/
theorem tk_parts {n s : Nat} (q r : List UInt8) (hq : q.length = n) (hn : n ≤ 1048576) (hs : s < 4294967296) :
    tk (big n 4 ++ (big s 4 ++ (q ++ r))) = if s = sum (big n 4 ++ q) then .ok q else .error 4 := by
  have e1 : (big n 4 ++ (big s 4 ++ (q ++ r))).take 4 = big n 4 := take_app _ _ (big_length _ _)
  have e2 : (big n 4 ++ (big s 4 ++ (q ++ r))).drop 4 = big s 4 ++ (q ++ r) := drop_app _ _ (big_length _ _)
  have e3 : (big n 4 ++ (big s 4 ++ (q ++ r))).drop 8 = q ++ r := by
    rw [show 8 = 4 + 4 from rfl, ← List.drop_drop, e2]; exact drop_app _ _ (big_length _ _)
  have e4 : num (big n 4) = n := num_big_of (by rw [pow4]; omega)
  have e5 : ((big n 4 ++ (big s 4 ++ (q ++ r))).drop 4).take 4 = big s 4 := by rw [e2]; exact take_app _ _ (big_length _ _)
  have e6 : num (big s 4) = s := num_big_of (by rw [pow4]; exact hs)
  have e7 : (q ++ r).take n = q := take_app _ _ hq
  have hl : (big n 4 ++ (big s 4 ++ (q ++ r))).length = 8 + n + r.length := by
    rw [List.length_append, List.length_append, List.length_append, big_length, big_length]; omega
  rw [tk, hl, e1, e3, e4, e5, e6, e7, if_neg (by omega), if_neg (by omega), if_neg (by omega)]
theorem tk_rec {p : List UInt8} (h : p.length ≤ 1048576) (r : List UInt8) : tk (recB p ++ r) = .ok p := by
  rw [recB, List.append_assoc, List.append_assoc, tk_parts p r rfl h (sum_lt _), if_pos rfl]
theorem tk_rec0 {p : List UInt8} (h : p.length ≤ 1048576) : tk (recB p) = .ok p := by
  have := tk_rec h []
  rwa [List.append_nil] at this
theorem tk_cut {p : List UInt8} (h : p.length ≤ 1048576) {k : Nat} (hk : k < (recB p).length) : tk ((recB p).take k) = .error 2 := by
  rw [recB_length] at hk
  have hl : ((recB p).take k).length = k := by rw [List.length_take, recB_length]; omega
  by_cases h8 : k < 8
  · exact tk_short (by omega)
  · have e1 : ((recB p).take k).take 4 = big p.length 4 := by
      rw [List.take_take, Nat.min_eq_left (by omega), recB]; exact take_app _ _ (big_length _ _)
    have e2 : num (((recB p).take k).take 4) = p.length := by rw [e1]; exact num_big_of (by rw [pow4]; omega)
    exact tk_lacks (by omega) (by omega) (by omega)

/-! ### records one behind the other -/
def scan (b : List UInt8) : List (List UInt8) × Nat :=
  match h : tk b with
  | .error _ => ([], 0)
  | .ok p => ((p :: (scan (b.drop (8 + p.length))).1), 8 + p.length + (scan (b.drop (8 + p.length))).2)
termination_by b.length
decreasing_by all_goals (have := tk_fits h; rw [List.length_drop]; omega)
theorem scan_end {b : List UInt8} {e : Nat} (h : tk b = .error e) : scan b = ([], 0) := by
  rw [scan]
  split
  · rfl
  · rename_i h2; rw [h] at h2; cases h2
theorem scan_more {b p : List UInt8} (h : tk b = .ok p) : scan b = (p :: (scan (b.drop (8 + p.length))).1, 8 + p.length + (scan (b.drop (8 + p.length))).2) := by
  rw [scan]
  split
  · rename_i h2; rw [h] at h2; cases h2
  · rename_i q h2
    rw [h] at h2
    injection h2 with h2
    subst h2
    rfl
theorem scan_nil : scan [] = ([], 0) := scan_end (tk_short (by simp))
theorem scan_le (b : List UInt8) : (scan b).2 ≤ b.length := by
  generalize hn : b.length = n
  induction n using Nat.strongRecOn generalizing b with
  | ind n ih =>
    subst hn
    cases h : tk b with
    | error e => rw [scan_end h]; exact Nat.zero_le _
    | ok p =>
      have hf := tk_fits h
      have := ih _ (by rw [List.length_drop]; omega) (b.drop (8 + p.length)) rfl
      rw [scan_more h]
      rw [List.length_drop] at this
      show 8 + p.length + (scan (b.drop (8 + p.length))).2 ≤ _
      omega
theorem scan_count (b : List UInt8) : 8 * (scan b).1.length ≤ (scan b).2 := by
  generalize hn : b.length = n
  induction n using Nat.strongRecOn generalizing b with
  | ind n ih =>
    subst hn
    cases h : tk b with
    | error e => rw [scan_end h]; exact Nat.le_refl _
    | ok p =>
      have hf := tk_fits h
      have := ih _ (by rw [List.length_drop]; omega) (b.drop (8 + p.length)) rfl
      rw [scan_more h]
      show 8 * ((scan (b.drop (8 + p.length))).1.length + 1) ≤ 8 + p.length + (scan (b.drop (8 + p.length))).2
      omega

/-- records one behind the other -/
def recs (ls : List (List UInt8)) : List UInt8 := ls.flatMap recB
theorem recs_nil : recs [] = [] := rfl
theorem recs_cons (p : List UInt8) (ls : List (List UInt8)) : recs (p :: ls) = recB p ++ recs ls := List.flatMap_cons
theorem recs_snoc (ls : List (List UInt8)) (p : List UInt8) : recs (ls ++ [p]) = recs ls ++ recB p := by
  unfold recs
  rw [List.flatMap_append, List.flatMap_cons, List.flatMap_nil, List.append_nil]
theorem recs_append (ls ms : List (List UInt8)) : recs (ls ++ ms) = recs ls ++ recs ms := List.flatMap_append
/-- k of the records are whole in what is cut off at c -/
theorem scan_recs (ls : List (List UInt8)) (h : ∀ p ∈ ls, p.length ≤ 1048576) (c k : Nat) (hk : k ≤ ls.length) (h1 : (recs (ls.take k)).length ≤ c) (h2 : k < ls.length → c < (recs (ls.take (k + 1))).length) (hc : c ≤ (recs ls).length) :
    scan ((recs ls).take c) = (ls.take k, (recs (ls.take k)).length) := by
  induction ls generalizing c k with
  | nil =>
    rw [recs_nil, List.take_nil, scan_nil]
    simp
    rfl
  | cons p ls ih =>
    have hp := h p (List.mem_cons_self ..)
    cases k with
    | zero =>
      have hc2 := h2 (by simp)
      rw [List.take_succ_cons, List.take_zero, recs_cons, recs_nil, List.append_nil] at hc2
      rw [recs_cons, List.take_append_of_le_length (by omega), scan_end (tk_cut hp hc2)]
      rfl
    | succ k =>
      rw [List.take_succ_cons, recs_cons, List.length_append] at h1
      rw [List.take_succ_cons]
      have e : (recs (p :: ls)).take c = recB p ++ (recs ls).take (c - (recB p).length) := by
        rw [recs_cons, List.take_append, List.take_of_length_le (by omega)]
      have e2 : (recB p ++ (recs ls).take (c - (recB p).length)).drop (8 + p.length) = (recs ls).take (c - (recB p).length) := drop_app _ _ (recB_length p)
      have := ih (fun q hq => h q (List.mem_cons_of_mem _ hq)) (c - (recB p).length) k (by simpa using hk) (by omega) (fun hlt => by
        have := h2 (by simpa using hlt)
        rw [List.take_succ_cons, recs_cons, List.length_append] at this
        have h3 : 8 ≤ (recB p).length := by rw [recB_length]; omega
        omega) (by rw [recs_cons, List.length_append] at hc; omega)
      rw [e, scan_more (tk_rec hp _), e2, this, ← recB_length, recs_cons, List.length_append]

/-! ### bits that are turned -/
theorem zs_nat (l : List UInt8) : (zs l).map Int.toNat = l.map UInt8.toNat := by
  unfold zs
  rw [List.map_map]
  rfl
/-- the same head, and rows of one length that differ by a pattern of at most 32 bits -/
theorem burst_sum (hd p q : List UInt8) (e f : Nat) (hlen : q.length = p.length) (hn : Crc.num (q.map UInt8.toNat) = Crc.num (p.map UInt8.toNat) ^^^ (2 ^ f * e)) (hf : f ≤ 8 * p.length) (he : e < 4294967296) :
    sum (hd ++ p) = sum (hd ++ q) ↔ e = 0 := by
  have hm := more_sum hd p
  have hm2 := more_sum hd q
  have hs := sum_lt hd
  have hnt := Crc.ntZ_bd (c := (sum hd : Nat)) (by omega) (by omega)
  have hb := Crc.burst (Crc.ntZ (sum hd : Nat)).toNat (p.map UInt8.toNat) (q.map UInt8.toNat) e f (by rw [List.length_map, List.length_map, hlen]) hn (by rw [List.length_map]; exact hf) he
  have h1 := Crc.morZ_bd (zs p) hnt.1 hnt.2 (zs_bytes p)
  have h2 := Crc.morZ_bd (zs q) hnt.1 hnt.2 (zs_bytes q)
  rw [← hb]
  constructor
  · intro h
    have h3 : Crc.moreZ (sum hd : Nat) (zs p) = Crc.moreZ (sum hd : Nat) (zs q) := by rw [hm, hm2, h]
    have h4 := Crc.ntZ_inj h1.1 h1.2 h2.1 h2.2 h3
    unfold Crc.morZ at h4
    rw [zs_nat, zs_nat] at h4
    omega
  · intro h
    have h3 : Crc.moreZ (sum hd : Nat) (zs p) = Crc.moreZ (sum hd : Nat) (zs q) := by
      unfold Crc.moreZ Crc.morZ
      rw [zs_nat, zs_nat, h]
    rw [hm, hm2] at h3
    omega
end Go.Proofs.Ythffmojmfghbiaa.RecMath
