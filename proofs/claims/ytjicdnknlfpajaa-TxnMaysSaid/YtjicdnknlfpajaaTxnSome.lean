/-
  Contracts of how the statements make changes, a signal and signals that may be, of any ones.
-/
import Derived.Test.YtjicdnknlfpajaaTxnOne
import Derived.Test.YtjicdnknlfpajaaTxnTxn
namespace Go.Proofs.Ytjicdnknlfpajaa.Txn
set_option linter.unusedVariables false
set_option maxRecDepth 100000
open Go.RowKit Base FieldMath TxnMath
open Go.Proofs.Ytjicdnknlfpajaa.Field (ret_bool modZ modZ_lt mod_any bigZ bigZ_lt playbig_any cut_any)
set_option linter.ambiguousOpen false
set_option linter.unusedSimpArgs false

theorem all_snoc {α : Type} {l : List α} {p : α → Prop} {x : α} (h : ∀ y ∈ l, p y) (hx : p x) : ∀ y ∈ l ++ [x], p y := by
  intro y hy
  rcases List.mem_append.1 hy with hy | hy
  · exact h y hy
  · rw [List.mem_singleton] at hy
    subst hy
    exact hx
def SomeCh (w : World) (e : Ending) (w' : World) : Prop := ∃ (l : List Ch) (A : Option Addr) (n c : Nat), e = .returned (.slice A n c) ∧ n ≤ 5 ∧ w'.ownsRow w.heap.size 27 4 (.slice A n c) n (cv l) ∧ (∀ f ∈ l, f.may 8 = true) ∧ Below w.heap.size w w'
def SomeRel (w : World) (n : Nat) (v i : Value) (wr : World) : Prop := ∃ (k : Nat) (l : List Ch) (A : Option Addr) (c : Nat), k ≤ n ∧ k ≤ 5 ∧ i = .int .i64 k ∧ v = .slice A k c ∧ wr.ownsRow w.heap.size 27 4 (.slice A k c) k (cv l) ∧ (∀ f ∈ l, f.may 8 = true) ∧ Below w.heap.size w wr
set_option maxHeartbeats 1600000 in
theorem pchanges_any (B : Nat) (A : Option Addr) (n c : Nat) (l : List Ch) (w : World) (h : Chs w B A n c l) (hB : B ≤ w.heap.size) (hok : ∀ f ∈ l, f.val.size ≤ 9223372036854775807) :
    Calls Try.prog 79 #[.slice A n c, .int .i64 8, .int .i64 5] w (SomeCh w) := by
  have hle := h.le
  have HR := Lib.hid h
  have HOK := Lib.hid hok
  clear h hok
  go_enter Try.func79, Try.ntmps79
  go_wp2
  go_loopw [7, 8] (fun v i wr => SomeRel w n v i wr) (fun _ i _ => n - (intOf i).toNat)
  case atStart => exact ⟨0, [], none, 0, by omega, by omega, rfl, rfl, World.ownsRow_nil _ _ _ _, (fun f hf => by cases hf), Below.refl _ _⟩
  case round =>
    obtain ⟨k, pre, A1, c1, hk, hk5, rfl, rfl, hown, hall, hbel⟩ := hrel
    have HO := Lib.hid hown
    have HA := Lib.hid hall
    have HB := Lib.hid hbel
    have hz := hbel.size
    clear hown hall hbel
    by_cases hgo : k < n ∧ k < 5
    · obtain ⟨hlt, hlt5⟩ := hgo
      obtain ⟨b, off, f, rfl, hb, q0, q1, q2, q3, hget, _⟩ := (HR.out.below (HB.out.mono hB)).at_ hlt
      have HG := Lib.hid (HOK.out f (List.mem_of_getElem? hget))
      clear hget
      go_wp2_with fail
      refine (pchange_any f _ HG.out).mono ?_
      rintro e w2 ⟨f2, rfl, hm2, hb2⟩
      have HM2 := Lib.hid hm2
      have HB2 := Lib.hid (held_call HB.out hb2 : Below w.heap.size w w2)
      have HO2 := Lib.hid (own_keep HO.out hb2)
      have hz2 : w.heap.size ≤ w2.heap.size := HB2.out.size
      clear hm2 hb2
      unfold chv
      go_wp2_with (first
        | (at_builtin
           refine wpList_append_row rfl (.tmp 20) (.tmp 27) rfl ech w.heap.size _ k (cv pre) rfl (own_keep HO2.out ((Below.refl _ _).alloc (Nat.le_refl _) _)) _ _ 1 1 (cv [f2]) rfl (one_ch w2 f2 rfl) (cv_one _) (by omega) (by omega) (by simp; omega) ?_
           intro A3 c3 w3 hown3 _ hb3
           rw [← cv_append] at hown3
           have HO3 := Lib.hid hown3
           have HB3 := Lib.hid ((HB2.out.alloc hz2 _).trans hb3)
           clear hown3 hb3)
        | fail)
      go_roundw
      case rel => exact ⟨k + 1, pre ++ [f2], A3, c3, by omega, by omega, by go_num, rfl, HO3.out, all_snoc HA.out HM2.out, HB3.out⟩
      case measure => simp [intOf]; omega
    · by_cases hkn : k < n
      all_goals
        have h5 : k < n → ¬ k < 5 := fun h h5 => hgo ⟨h, h5⟩
        clear hgo
        go_wp2
        go_ret
        exact ⟨pre, A1, k, c1, rfl, hk5, HO.out, HA.out, HB.out⟩

/-! ### signals -/
theorem one_byte_str (x : Int) (w : World) (s : Nat) (hs : s = w.heap.size) : (convert 30 9 (.slice (some ⟨s, 0, none⟩) 1 1)).run Try.prog (w.alloc (.cells #[.int .u8 x] 5)) = .ok (.string (strOfNums [x])) (w.alloc (.cells #[.int .u8 x] 5)) := by
  subst hs
  exact run_convert_bytes_arg (P := Try.prog) _ 30 5 Try.underlying30 Try.underlying5 w.heap.size 0 1 1 [x] rfl (fun i hi => by
    obtain rfl : i = 0 := by omega
    simp) 9 Try.underlying9
theorem strOfNums_one (x : Int) : (strOfNums [x]).size = 1 := rfl
def MadeSig (w : World) (e : Ending) (w' : World) : Prop := ∃ s : ByteArray, e = .returned (.string s) ∧ s.size ≤ 40 ∧ Below w.heap.size w w'
set_option maxHeartbeats 1600000 in
theorem psignal_any (s : ByteArray) (w : World) (hs : s.size ≤ 9223372036854775807) :
    Calls Try.prog 103 #[.string s, .int .i64 8] w (MadeSig w) := by
  by_cases h0 : s.size = 0
  · have h1 : s.toList.isEmpty = true := by rw [Go.Proofs.Ytjicdnknlfpajaa.Field.empty_iff]; simpa using h0
    go_enter Try.func103, Try.ntmps103
    go_wp2
    go_ret
    exact ⟨⟨#[115, 110, 97, 112, 115, 104, 111, 116, 32, 48]⟩, rfl, by decide, Below.refl _ _⟩
  · have h1 : s.toList.isEmpty = false := by rw [Go.Proofs.Ytjicdnknlfpajaa.Field.empty_iff]; simpa using h0
    have hpos : 0 < s.size := by omega
    have hcv : (str (s.data.toList.take 40)).size ≤ 40 := by rw [str_size, List.length_take]; omega
    have CV := Lib.hid (fun w => cut_any s 40 w hs (by omega))
    have HCV := Lib.hid hcv
    have hx : s[0].toNat < 256 := s[0].toNat_lt
    clear hcv h0
    go_enter Try.func103, Try.ntmps103
    go_upto_if 14 with fail
    generalize s[0].toNat = b at hx
    have hc1 : ∀ x : Int, (convert 30 9 (.slice (some ⟨w.heap.size, 0, none⟩) 1 1)).run Try.prog (w.alloc (.cells #[.int .u8 x] 5)) = .ok (.string (strOfNums [x])) (w.alloc (.cells #[.int .u8 x] 5)) := fun x => one_byte_str x w _ rfl
    have hc2 : ∀ x y : Int, (convert 30 9 (.slice (some ⟨w.heap.size + 1, 0, none⟩) 1 1)).run Try.prog ((w.alloc (.cells #[.int .u8 y] 5)).alloc (.cells #[.int .u8 x] 5)) = .ok (.string (strOfNums [x])) ((w.alloc (.cells #[.int .u8 y] 5)).alloc (.cells #[.int .u8 x] 5)) := fun x y => one_byte_str x (w.alloc (.cells #[.int .u8 y] 5)) _ (by simp)
    by_cases h3 : (b : Int) % 4 = 3
    · have t3 : ((b : Int) % 4 == 3) = true := by simpa using h3
      go_wp2_with fail
      refine (CV.out _).mono ?_
      rintro e w1 ⟨rfl, rfl⟩
      go_wp2
      go_ret
      exact ⟨_, rfl, HCV.out, Below.refl _ _⟩
    · have t3 : ((b : Int) % 4 == 3) = false := by simpa using h3
      by_cases h4 : 0 < (b : Int) % 4
      · go_wp2
        go_ret
        exact ⟨_, rfl, by
          rw [ByteArray.size_append, ByteArray.size_append, ByteArray.size_append, strOfNums_one, strOfNums_one]
          decide, ((Below.refl _ _).alloc (Nat.le_refl _) _).alloc (by simp) _⟩
      · go_wp2
        go_ret
        exact ⟨_, rfl, by
          rw [ByteArray.size_append, strOfNums_one]
          decide, (Below.refl _ _).alloc (Nat.le_refl _) _⟩
def SomeSig (w : World) (e : Ending) (w' : World) : Prop := ∃ (l : List ByteArray) (A : Option Addr) (n c : Nat), e = .returned (.slice A n c) ∧ n ≤ 2 ∧ w'.ownsRow w.heap.size 9 1 (.slice A n c) n (sv l) ∧ (∀ f ∈ l, f.size ≤ 40) ∧ Below w.heap.size w w'
def SomeRel2 (w : World) (n : Nat) (v i : Value) (wr : World) : Prop := ∃ (k : Nat) (l : List ByteArray) (A : Option Addr) (c : Nat), k ≤ n ∧ k ≤ 2 ∧ i = .int .i64 k ∧ v = .slice A k c ∧ wr.ownsRow w.heap.size 9 1 (.slice A k c) k (sv l) ∧ (∀ f ∈ l, f.size ≤ 40) ∧ Below w.heap.size w wr
set_option maxHeartbeats 1600000 in
theorem psignals_any (B : Nat) (A : Option Addr) (n c : Nat) (l : List ByteArray) (w : World) (h : Sigs w B A n c l) (hB : B ≤ w.heap.size) (hok : ∀ f ∈ l, f.size ≤ 9223372036854775807) :
    Calls Try.prog 80 #[.slice A n c, .int .i64 8, .int .i64 2] w (SomeSig w) := by
  have hle := h.le
  have HR := Lib.hid h
  have HOK := Lib.hid hok
  clear h hok
  go_enter Try.func80, Try.ntmps80
  go_wp2
  go_loopw [7, 8] (fun v i wr => SomeRel2 w n v i wr) (fun _ i _ => n - (intOf i).toNat)
  case atStart => exact ⟨0, [], none, 0, by omega, by omega, rfl, rfl, World.ownsRow_nil _ _ _ _, (fun f hf => by cases hf), Below.refl _ _⟩
  case round =>
    obtain ⟨k, pre, A1, c1, hk, hk5, rfl, rfl, hown, hall, hbel⟩ := hrel
    have HO := Lib.hid hown
    have HA := Lib.hid hall
    have HB := Lib.hid hbel
    have hz := hbel.size
    clear hown hall hbel
    by_cases hgo : k < n ∧ k < 2
    · obtain ⟨hlt, hlt5⟩ := hgo
      obtain ⟨b, off, f, rfl, hb, q0, hget, _⟩ := (HR.out.below (HB.out.mono hB)).at_ hlt
      have HG := Lib.hid (HOK.out f (List.mem_of_getElem? hget))
      clear hget
      go_wp2_with fail
      refine (psignal_any f _ HG.out).mono ?_
      rintro e w2 ⟨f2, rfl, hm2, hb2⟩
      have HM2 := Lib.hid hm2
      have HB2 := Lib.hid (held_call HB.out hb2 : Below w.heap.size w w2)
      have HO2 := Lib.hid (own_keep HO.out hb2)
      have hz2 : w.heap.size ≤ w2.heap.size := HB2.out.size
      clear hm2 hb2
      go_wp2_with (first
        | (at_builtin
           refine wpList_append_row rfl (.tmp 20) (.tmp 27) rfl estr w.heap.size _ k (sv pre) rfl (own_keep HO2.out ((Below.refl _ _).alloc (Nat.le_refl _) _)) _ _ 1 1 (sv [f2]) rfl (one_str w2 f2 rfl) (sv_one _) (by omega) (by omega) (by simp; omega) ?_
           intro A3 c3 w3 hown3 _ hb3
           rw [show sv pre ++ sv [f2] = sv (pre ++ [f2]) from List.map_append.symm] at hown3
           have HO3 := Lib.hid hown3
           have HB3 := Lib.hid ((HB2.out.alloc hz2 _).trans hb3)
           clear hown3 hb3)
        | fail)
      go_roundw
      case rel => exact ⟨k + 1, pre ++ [f2], A3, c3, by omega, by omega, by go_num, rfl, HO3.out, all_snoc HA.out HM2.out, HB3.out⟩
      case measure => simp [intOf]; omega
    · by_cases hkn : k < n
      all_goals
        have h5 : k < n → ¬ k < 2 := fun h h5 => hgo ⟨h, h5⟩
        clear hgo
        go_wp2
        go_ret
        exact ⟨pre, A1, k, c1, rfl, hk5, HO.out, HA.out, HB.out⟩
end Go.Proofs.Ytjicdnknlfpajaa.Txn
