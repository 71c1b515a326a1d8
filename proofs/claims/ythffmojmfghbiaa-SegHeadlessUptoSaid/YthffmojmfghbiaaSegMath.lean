/-
  Plain mathematics of a log's segment, of no program: its head's bytes, and what bytes are read as.
-/
import Derived.Test.YthffmojmfghbiaaRecMath
namespace Go.Proofs.Ythffmojmfghbiaa.SegMath
open FieldMath RecMath

def numF (x : Int) : Fld := ⟨1, x, ⟨#[]⟩⟩
def headP (x : Int) : List UInt8 := encZ [numF x]
def headB (x : Int) : List UInt8 := recB (headP x)
/-- what Head answers -/
def head (x : Int) : Except Nat (List UInt8) := if 1 ≤ x ∧ x ≤ 1099511627776 then .ok (headB x) else .error 1
/-- the number that the fields of a head are -/
def only : Except Nat (List Fld) → Option Int
  | .ok [f] => if f.kind = 1 ∧ 1 ≤ f.n ∧ f.n ≤ 1099511627776 then some f.n else none
  | _ => none
/-- the number of the head that holds p -/
def first (p : List UInt8) : Option Int := only (dec p)
structure Sr where
  x : Int
  rows : List (List UInt8)
  n : Nat
  e : Nat
def bad : Sr := ⟨0, [], 0, 3⟩
def sreads (s : List (List UInt8) × Nat) : Sr := match s.1 with
  | [] => bad
  | p :: l => match first p with
    | some x => ⟨x, l, s.2, 0⟩
    | none => bad
/-- what Read answers -/
def sread (b : List UInt8) : Sr := sreads (scan b)

theorem numF_right (x : Int) : (numF x).right = true := by simp [numF, Fld.right, ByteArray.size]
theorem numF_ok {x : Int} (h0 : -9223372036854775808 ≤ x) (h1 : x ≤ 9223372036854775807) : (numF x).ok := ⟨by simp [numF], by simp [numF], h0, h1, by simp [numF, ByteArray.size]⟩
theorem headP_length (x : Int) : (headP x).length = 11 := by
  rw [headP, encZ, List.length_append, big_length, List.flatMap_cons, List.flatMap_nil, List.append_nil, encF, if_pos (show (numF x).kind = 1 from rfl), List.length_cons, big_length]
theorem headB_length (x : Int) : (headB x).length = 19 := by rw [headB, recB_length, headP_length]
theorem enc_num (x : Int) : enc [numF x] = .ok (headP x) := by
  unfold enc
  rw [if_neg (by simp [numF_right])]
  rfl
theorem put_head (x : Int) : put (headP x) = .ok (headB x) := by
  unfold put
  rw [if_neg (by rw [headP_length]; omega)]
  rfl
theorem first_head {x : Int} (h0 : 1 ≤ x) (h1 : x ≤ 1099511627776) : first (headP x) = some x := by
  unfold first
  rw [headP, dec_enc (by simp) (by intro f hf; rw [List.mem_singleton] at hf; subst hf; exact ⟨numF_right x, numF_ok (by omega) (by omega)⟩)]
  show (if (numF x).kind = 1 ∧ 1 ≤ (numF x).n ∧ (numF x).n ≤ 1099511627776 then some (numF x).n else none) = some x
  rw [if_pos ⟨rfl, h0, h1⟩]
  rfl
theorem scan_head (x : Int) (r : List UInt8) : scan (headB x ++ r) = (headP x :: (scan r).1, 19 + (scan r).2) := by
  have h := headP_length x
  rw [headB, scan_more (tk_rec (by omega) r), drop_app _ _ (by rw [recB_length]), h]
theorem sread_head {x : Int} (h0 : 1 ≤ x) (h1 : x ≤ 1099511627776) (r : List UInt8) : sread (headB x ++ r) = ⟨x, (scan r).1, 19 + (scan r).2, 0⟩ := by
  rw [sread, scan_head]
  unfold sreads
  simp only [first_head h0 h1]
theorem sread_none {b : List UInt8} (h : scan b = ([], 0)) : sread b = bad := by rw [sread, h]; rfl
theorem sread_cut {x : Int} {m : Nat} (r : List UInt8) (h : m < 19) : sread ((headB x ++ r).take m) = bad := by
  refine sread_none ?_
  rw [List.take_append_of_le_length (by rw [headB_length]; omega)]
  exact scan_end (tk_cut (by rw [headP_length]; omega) (by rw [← headB, headB_length]; omega))
theorem scan_all (ls : List (List UInt8)) (h : ∀ p ∈ ls, p.length ≤ 1048576) : scan (recs ls) = (ls, (recs ls).length) := by
  have := scan_recs ls h (recs ls).length ls.length (Nat.le_refl _) (by rw [List.take_length]; exact Nat.le_refl _) (fun h => absurd h (by omega)) (Nat.le_refl _)
  rw [List.take_length, List.take_length] at this
  exact this
/-- so many records are whole -/
theorem whole (ls : List (List UInt8)) (c : Nat) (hc : c < (recs ls).length) : ∃ k, k < ls.length ∧ (recs (ls.take k)).length ≤ c ∧ c < (recs (ls.take (k + 1))).length := by
  induction ls generalizing c with
  | nil => simp [recs] at hc
  | cons p ls ih =>
    rw [recs_cons, List.length_append] at hc
    by_cases h : c < (recB p).length
    · exact ⟨0, by simp, by simp [recs], by simpa [recs] using h⟩
    · obtain ⟨k, h1, h2, h3⟩ := ih (c - (recB p).length) (by omega)
      refine ⟨k + 1, by simpa using h1, ?_, ?_⟩
      · rw [List.take_succ_cons, recs_cons, List.length_append]; omega
      · rw [List.take_succ_cons, recs_cons, List.length_append]; omega
theorem sread_some {x : Int} (h0 : 1 ≤ x) (h1 : x ≤ 1099511627776) (ls : List (List UInt8)) (h : ∀ p ∈ ls, p.length ≤ 1048576) {m : Nat} (hm : 19 ≤ m) (hl : m < (headB x ++ recs ls).length) :
    ∃ k n, k < ls.length ∧ n ≤ m ∧ sread ((headB x ++ recs ls).take m) = ⟨x, ls.take k, n, 0⟩ := by
  rw [List.length_append, headB_length] at hl
  obtain ⟨k, hk, h2, h3⟩ := whole ls (m - 19) (by omega)
  have h4 := scan_recs ls h (m - 19) k (by omega) h2 (fun _ => h3) (by omega)
  refine ⟨k, 19 + (recs (ls.take k)).length, hk, by omega, ?_⟩
  rw [List.take_append, List.take_of_length_le (by rw [headB_length]; omega), headB_length, sread_head h0 h1, h4]
theorem sread_all {x : Int} (h0 : 1 ≤ x) (h1 : x ≤ 1099511627776) (ls : List (List UInt8)) (h : ∀ p ∈ ls, p.length ≤ 1048576) : sread (headB x ++ recs ls) = ⟨x, ls, (headB x ++ recs ls).length, 0⟩ := by
  rw [sread_head h0 h1, scan_all ls h, List.length_append, headB_length]
theorem sread_fields {fs : List Fld} (h : ∀ f ∈ fs, f.right = true ∧ f.ok) (hl : fs.length ≤ 32767) (h1 : fs.length ≠ 1) : sread (got (put (encZ fs))) = bad := by
  by_cases hp : 1048576 < (encZ fs).length
  · have : put (encZ fs) = .error 1 := by unfold put; rw [if_pos hp]
    rw [this]
    exact sread_none scan_nil
  · have : put (encZ fs) = .ok (recB (encZ fs)) := by unfold put; rw [if_neg hp]
    rw [this]
    show sread (recB (encZ fs)) = bad
    rw [sread, scan_more (tk_rec0 (by omega))]
    have h2 : first (encZ fs) = none := by
      unfold first
      rw [dec_enc hl h]
      unfold only
      split
      · rename_i f he
        injection he with he
        subst he
        simp at h1
      · rfl
    unfold sreads
    simp only [h2]
theorem sread_rows (b : List UInt8) : 8 * (sread b).rows.length ≤ b.length := by
  have h1 := scan_le b
  have h2 := scan_count b
  rw [sread]
  unfold sreads
  split
  · simp [bad]
  · rename_i p l he
    rw [he, List.length_cons] at h2
    split <;> simp [bad] <;> omega
end Go.Proofs.Ythffmojmfghbiaa.SegMath
