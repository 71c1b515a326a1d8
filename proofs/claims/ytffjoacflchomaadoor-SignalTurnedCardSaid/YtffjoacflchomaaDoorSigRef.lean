/-
  The document's Parse and Text: what they answer, of any text, of any numbers; nothing that was there turns. No condition.
-/
import Derived.Test.YtffjoacflchomaaDoorSigCode
namespace Go.Proofs.YtffjoacflchomaaDoor.Sig
set_option linter.unusedVariables false
set_option maxRecDepth 100000
open Go.RowKit Base

set_option maxHeartbeats 1600000 in
theorem reftext_any (t k : Int) (w : World) :
    Calls Tryd.prog 11 #[.agg #[.int .i64 t, .int .i64 k]] w fun e w' => e = .returned (TextAns t k) ∧ Below w.heap.size w w' := by
  unfold TextAns
  cases hm : mayB t k
  · have hh := of_decide_eq_false hm
    have HM := Lib.hid hm
    clear hm
    go_enter Tryd.func11, Tryd.ntmps11
    go_wp2_with fail
    all_goals try omega
    all_goals
      go_ret2
      exact ⟨rfl, (Below.refl _ _).alloc (Nat.le_refl _) _⟩
  · have hh := of_decide_eq_true hm
    have h1 : 0 ≤ t ∧ t ≤ 7 := by omega
    have h2 : 1 ≤ k ∧ k ≤ 8 := by omega
    have HM := Lib.hid hm
    clear hm hh
    have e1 : ((one t).toNat : Int) = 48 + t := by rw [one_toNat (by omega) (by omega)]; omega
    have e2 : ((one k).toNat : Int) = 48 + k := by rw [one_toNat (by omega) (by omega)]; omega
    have hcv := (show Bytes ((w.alloc (Obj.cells #[.int .i64 t, .int .i64 k] 25)).alloc (Obj.cells #[.int .u8 (48 + t), .int .u8 32, .int .u8 (48 + k)] 5)) (w.heap.size + 2) (some ⟨w.heap.size + 1, 0, none⟩) 3 3 [one t, 32, one k] by
      have := Row.lit (n := 3) (w.alloc (Obj.cells #[.int .i64 t, .int .i64 k] 25)) #[.int .u8 (48 + t), .int .u8 32, .int .u8 (48 + k)] 5 (0, 0) (s := w.heap.size + 1) (size := 1) (by simp) rfl (by omega)
      rw [← e1, ← e2] at this ⊢
      simpa [Bytes, bv] using this).str (P := Tryd.prog) Tryd.underlying34 Tryd.underlying5 Tryd.underlying9
    clear e1 e2
    go_enter Tryd.func11, Tryd.ntmps11
    go_wp2
    go_ret2
    exact ⟨rfl, by repeat (first | exact Below.refl _ _ | refine Below.alloc ?_ (by simp) _)⟩

set_option maxHeartbeats 1600000 in
theorem refparse_short (s : ByteArray) (w : World) (h : s.size ≠ 10 ∧ s.size ≠ 12) :
    Calls Tryd.prog 8 #[.string s] w fun e w' => e = .returned (.tuple #[.agg #[.int .i64 0, .int .i64 0], .bool false]) ∧ Below w.heap.size w w' := by
  have h1 : ¬ (s.size : Int) = 10 := by omega
  have h2 : ¬ (s.size : Int) = 12 := by omega
  go_enter Tryd.func8, Tryd.ntmps8
  go_wp2_with fail
  exact bodyPost_ret (v := .tuple #[.agg #[.int .i64 0, .int .i64 0], .bool false]) (by simp [results, Tryd.results8, go_sem]) rfl ⟨rfl, by repeat (first | exact Below.refl _ _ | refine below_drewN ?_ _ | refine Below.alloc ?_ (by simp) _ | refine Below.setCell ?_ (by simp) _)⟩

set_option maxHeartbeats 1600000 in
theorem refparse_word (s : ByteArray) (w : World) (h : s.size = 10 ∨ s.size = 12) (he : ((s.extract 0 9).toList == word) = false) :
    Calls Tryd.prog 8 #[.string s] w fun e w' => e = .returned (.tuple #[.agg #[.int .i64 0, .int .i64 0], .bool false]) ∧ Below w.heap.size w w' := by
  have he' : ((s.extract 0 9).toList == [115, 110, 97, 112, 115, 104, 111, 116, 32]) = false := he
  clear he
  rcases h with h | h
  · have h1 : (s.size : Int) = 10 := by omega
    go_enter Tryd.func8, Tryd.ntmps8
    go_wp2_with fail
    exact bodyPost_ret (v := .tuple #[.agg #[.int .i64 0, .int .i64 0], .bool false]) (by simp [results, Tryd.results8, go_sem]) rfl ⟨rfl, by repeat (first | exact Below.refl _ _ | refine below_drewN ?_ _ | refine Below.alloc ?_ (by simp) _ | refine Below.setCell ?_ (by simp) _)⟩
  · have h1 : (s.size : Int) = 12 := by omega
    go_enter Tryd.func8, Tryd.ntmps8
    go_wp2_with fail
    exact bodyPost_ret (v := .tuple #[.agg #[.int .i64 0, .int .i64 0], .bool false]) (by simp [results, Tryd.results8, go_sem]) rfl ⟨rfl, by repeat (first | exact Below.refl _ _ | refine below_drewN ?_ _ | refine Below.alloc ?_ (by simp) _ | refine Below.setCell ?_ (by simp) _)⟩

theorem says_yes (t k : Nat) : Says (some (t, k)) = .tuple #[.agg #[.int .i64 t, .int .i64 k], .bool true] := rfl
theorem tail_one_no {d : UInt8} (h : (d.toNat : Int) < 48 ∨ 55 < (d.toNat : Int)) : tail [d] = none := by
  rw [tail, if_neg (by omega)]
theorem tail_one_yes {d : UInt8} (h : 48 ≤ (d.toNat : Int) ∧ (d.toNat : Int) ≤ 55) : tail [d] = some (d.toNat - 48, 1) := by
  rw [tail, if_pos (by omega)]
theorem tail_two_no {d b e : UInt8} (h : ((d.toNat : Int) < 48 ∨ 55 < (d.toNat : Int)) ∨ ¬ (b.toNat : Int) = 32 ∨ (e.toNat : Int) < 49 ∨ 56 < (e.toNat : Int)) : tail [d, b, e] = none := by
  rw [tail, if_neg]
  rintro ⟨h1, h2, rfl, h4, h5⟩
  have : (32 : UInt8).toNat = 32 := rfl
  omega
theorem tail_two_yes {d b e : UInt8} (h : 48 ≤ (d.toNat : Int) ∧ (d.toNat : Int) ≤ 55) (hb : (b.toNat : Int) = 32) (h2 : 49 ≤ (e.toNat : Int) ∧ (e.toNat : Int) ≤ 56) : tail [d, b, e] = some (d.toNat - 48, e.toNat - 48) := by
  have : b = 32 := UInt8.toNat_inj.1 (by have : (32 : UInt8).toNat = 32 := rfl; omega)
  rw [tail, if_pos ⟨by omega, by omega, this, by omega, by omega⟩]

set_option maxHeartbeats 1600000 in
theorem refparse_one (s : ByteArray) (d : UInt8) (w : World) (h1 : s.size = 10) (he : ((s.extract 0 9).toList == word) = true) (hd : s[9]'(by omega) = d) :
    Calls Tryd.prog 8 #[.string s] w fun e w' => e = .returned (Says (tail [d])) ∧ Below w.heap.size w w' := by
  have he' : ((s.extract 0 9).toList == [115, 110, 97, 112, 115, 104, 111, 116, 32]) = true := he
  have h2 : (s.size : Int) = 10 := by omega
  clear he
  by_cases hq : 48 ≤ (d.toNat : Int) ∧ (d.toNat : Int) ≤ 55
  · have hn : ((d.toNat - 48 : Nat) : Int) = (d.toNat : Int) - 48 := by omega
    rw [tail_one_yes hq, says_yes, hn]
    clear hn
    have hlt : (d.toNat : Int) < 256 := by have := d.toNat_lt; omega
    go_enter Tryd.func8, Tryd.ntmps8
    go_wp2
    exact bodyPost_ret (v := .tuple #[.agg #[.int .i64 ((d.toNat : Int) - 48), .int .i64 1], .bool true]) (by simp [results, Tryd.results8, go_sem]) rfl ⟨rfl, by repeat (first | exact Below.refl _ _ | refine below_drewN ?_ _ | refine Below.alloc ?_ (by simp) _ | refine Below.setCell ?_ (by simp) _)⟩
  · rw [says_none _ (tail_one_no (by omega))]
    go_enter Tryd.func8, Tryd.ntmps8
    go_wp2_with fail
    all_goals try omega
    all_goals exact bodyPost_ret (v := .tuple #[.agg #[.int .i64 0, .int .i64 0], .bool false]) (by simp [results, Tryd.results8, go_sem]) rfl ⟨rfl, by repeat (first | exact Below.refl _ _ | refine below_drewN ?_ _ | refine Below.alloc ?_ (by simp) _ | refine Below.setCell ?_ (by simp) _)⟩

set_option maxHeartbeats 1600000 in
theorem refparse_two (s : ByteArray) (d b e : UInt8) (w : World) (h1 : s.size = 12) (he : ((s.extract 0 9).toList == word) = true) (hd : s[9]'(by omega) = d) (hb : s[10]'(by omega) = b) (hee : s[11]'(by omega) = e) :
    Calls Tryd.prog 8 #[.string s] w fun v w' => v = .returned (Says (tail [d, b, e])) ∧ Below w.heap.size w w' := by
  have he' : ((s.extract 0 9).toList == [115, 110, 97, 112, 115, 104, 111, 116, 32]) = true := he
  have h2 : (s.size : Int) = 12 := by omega
  clear he
  by_cases hq : 48 ≤ (d.toNat : Int) ∧ (d.toNat : Int) ≤ 55
  · by_cases hq2 : (b.toNat : Int) = 32 ∧ 49 ≤ (e.toNat : Int) ∧ (e.toNat : Int) ≤ 56
    · have hn : ((d.toNat - 48 : Nat) : Int) = (d.toNat : Int) - 48 := by omega
      have hn2 : ((e.toNat - 48 : Nat) : Int) = (e.toNat : Int) - 48 := by omega
      obtain ⟨hb2, hq2⟩ := hq2
      rw [tail_two_yes hq hb2 hq2, says_yes, hn, hn2]
      clear hn hn2
      have hlt : (d.toNat : Int) < 256 := by have := d.toNat_lt; omega
      have hlt2 : (e.toNat : Int) < 256 := by have := e.toNat_lt; omega
      go_enter Tryd.func8, Tryd.ntmps8
      go_wp2
      exact bodyPost_ret (v := .tuple #[.agg #[.int .i64 ((d.toNat : Int) - 48), .int .i64 ((e.toNat : Int) - 48)], .bool true]) (by simp [results, Tryd.results8, go_sem]) rfl ⟨rfl, by repeat (first | exact Below.refl _ _ | refine below_drewN ?_ _ | refine Below.alloc ?_ (by simp) _ | refine Below.setCell ?_ (by simp) _)⟩
    · rw [says_none _ (tail_two_no (.inr (by omega)))]
      have hlt : (d.toNat : Int) < 256 := by have := d.toNat_lt; omega
      go_enter Tryd.func8, Tryd.ntmps8
      go_wp2_with fail
      all_goals try omega
      all_goals exact bodyPost_ret (v := .tuple #[.agg #[.int .i64 0, .int .i64 0], .bool false]) (by simp [results, Tryd.results8, go_sem]) rfl ⟨rfl, by repeat (first | exact Below.refl _ _ | refine below_drewN ?_ _ | refine Below.alloc ?_ (by simp) _ | refine Below.setCell ?_ (by simp) _)⟩
  · rw [says_none _ (tail_two_no (.inl (by omega)))]
    go_enter Tryd.func8, Tryd.ntmps8
    go_wp2_with fail
    all_goals try omega
    all_goals exact bodyPost_ret (v := .tuple #[.agg #[.int .i64 0, .int .i64 0], .bool false]) (by simp [results, Tryd.results8, go_sem]) rfl ⟨rfl, by repeat (first | exact Below.refl _ _ | refine below_drewN ?_ _ | refine Below.alloc ?_ (by simp) _ | refine Below.setCell ?_ (by simp) _)⟩

theorem word_extract (s : ByteArray) : (s.extract 0 9).toList = s.data.toList.take 9 := by rw [Lib.extract_toList]; rfl
theorem at_data (s : ByteArray) (i : Nat) (h : i < s.size) : s.data.toList[i]'(by rw [← Lib.size_eq]; exact h) = s[i] := rfl

theorem refparse_any (s : ByteArray) (w : World) :
    Calls Tryd.prog 8 #[.string s] w fun e w' => e = .returned (Says (sg s.data.toList)) ∧ Below w.heap.size w w' := by
  have hs := Lib.size_eq s
  by_cases h : s.size ≠ 10 ∧ s.size ≠ 12
  · refine (refparse_short s w h).mono fun e w' he => ?_
    rw [says_none]
    · exact he
    · unfold sg
      split
      · have hl : (s.data.toList.drop 9).length ≠ 1 ∧ (s.data.toList.drop 9).length ≠ 3 := by rw [List.length_drop]; omega
        match hd : s.data.toList.drop 9 with
        | [] => rfl
        | [d] => rw [hd] at hl; exact absurd rfl hl.1
        | [d, b] => rfl
        | [d, b, e] => rw [hd] at hl; exact absurd rfl hl.2
        | a :: b :: c :: d :: l => rfl
      · rfl
  · cases hw : ((s.extract 0 9).toList == word)
    · refine (refparse_word s w (by omega) hw).mono fun e w' he => ?_
      rw [says_none]
      · exact he
      · unfold sg
        rw [if_neg]
        rw [← word_extract]
        simpa using hw
    · have hw2 : s.data.toList.take 9 = word := by rw [← word_extract]; simpa using hw
      by_cases h10 : s.size = 10
      · have e1 : s.data.toList.drop 9 = [s[9]'(by omega)] := by
          rw [List.drop_eq_getElem_cons (by omega), List.drop_of_length_le (by omega), at_data]
        refine (refparse_one s _ w h10 hw rfl).mono fun e w' he => ?_
        unfold sg
        rw [if_pos hw2, e1]
        exact he
      · have h12 : s.size = 12 := by omega
        have e1 : s.data.toList.drop 9 = [s[9]'(by omega), s[10]'(by omega), s[11]'(by omega)] := by
          rw [List.drop_eq_getElem_cons (by omega), List.drop_eq_getElem_cons (by omega), List.drop_eq_getElem_cons (by omega), List.drop_of_length_le (by omega), at_data, at_data, at_data]
        refine (refparse_two s _ _ _ w h12 hw rfl rfl rfl).mono fun e w' he => ?_
        unfold sg
        rw [if_pos hw2, e1]
        exact he
end Go.Proofs.YtffjoacflchomaaDoor.Sig
