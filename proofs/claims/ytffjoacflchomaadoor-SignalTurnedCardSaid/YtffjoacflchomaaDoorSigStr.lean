/-
  strings.CutPrefix and strings.Cut at one byte, as this program bears them: what they answer, of any string; nothing in memory turns. No condition.
-/
import Derived.Test.YtffjoacflchomaaDoorChecked
import Derived.Test.YtffjoacflchomaaDoorBase
import Derived.Lib.Bytealg
import Derived.Lib.Strings
import Derived.Lib.Walk
import Derived.Lib.IndexLaws
import Derived.Laws.Strings3
import Derived.BigQuiet
namespace Go.Proofs.YtffjoacflchomaaDoor.Sig
set_option linter.unusedVariables false
set_option maxRecDepth 100000
open Go.RowKit Base

set_option maxHeartbeats 1000000 in
theorem hasPrefix_any (s p : ByteArray) (w : World) :
    Calls Tryd.prog 20 #[.string s, .string p] w fun e w' => e = .returned (.bool (Lib.hasPrefix s.data.toList p.data.toList)) ∧ w' = w := by
  rw [← Lib.hasPrefix_of_take, ← Lib.size_eq, ← Lib.size_eq]
  go_enter Tryd.func20, Tryd.ntmps20
  go_wp2
  · rename_i h
    go_ret
    refine ⟨?_, rfl⟩
    show Ending.returned (Value.bool ((s.extract 0 p.size).toList == p.toList)) = _
    rw [Lib.extract_toList, Lib.toList_data]
    simp [h]
  · rename_i h
    go_ret
    refine ⟨?_, rfl⟩
    show Ending.returned (Value.bool false) = _
    simp [h]

set_option maxHeartbeats 1000000 in
theorem indexByte_any (s : ByteArray) (c : Int) (w : World) :
    Calls Tryd.prog 23 #[.string s, .int .u8 c] w fun e w' => e = .returned (.int .i64 (Lib.indexByte s.data.toList c.toNat.toUInt8)) ∧ w' = w := by
  go_enter Tryd.func23, Tryd.ntmps23
  go_wp2
  rw [run_callFunc_extern Tryd.func31 (by kernel_rfl) (by kernel_rfl) (by kernel_rfl) (e := Extern.BytealgIndexByte.indexByte) (by kernel_rfl), Lib.run_indexByteString]
  simp only [Result.andThen]
  rw [Oper.upon_value]
  go_wp2
  go_ret
  exact ⟨rfl, rfl⟩

set_option maxHeartbeats 1000000 in
/-- at one blank -/
theorem index_any (s : ByteArray) (w : World) :
    Calls Tryd.prog 21 #[.string s, .string ⟨#[32]⟩] w fun e w' => e = .returned (.int .i64 (Lib.indexByte s.data.toList 32)) ∧ w' = w := by
  cases hb : ([32] == s.toList)
  · go_enter Tryd.func21, Tryd.ntmps21
    go_wp2_with fail
    refine (indexByte_any s 32 w).mono ?_
    rintro e w' ⟨rfl, rfl⟩
    go_wp2
    go_ret
    exact ⟨rfl, rfl⟩
  · have e : s.data.toList = [32] := by rw [← Lib.toList_data]; exact (eq_of_beq hb).symm
    rw [e]
    go_enter Tryd.func21, Tryd.ntmps21
    go_wp2_with fail
    go_ret
    exact ⟨rfl, rfl⟩

theorem index_lt : ∀ (l : List UInt8), Lib.indexByte l 32 < l.length ∨ Lib.indexByte l 32 = -1 := by
  intro l
  rcases Int.lt_or_le (Lib.indexByte l 32) 0 with h | h
  · right
    have := Lib.indexByte_ge l 32
    omega
  · left
    obtain ⟨k, hk⟩ := Int.eq_ofNat_of_zero_le h
    have := (Lib.indexByte_some (o := k) hk).1
    have := (List.getElem?_eq_some_iff.1 this).1
    omega

/-- what lies ahead of the first blank, what behind it, whether there is one -/
def cutb (l : List UInt8) : List UInt8 × List UInt8 × Bool :=
  if 0 ≤ Lib.indexByte l 32 then (l.take (Lib.indexByte l 32).toNat, l.drop ((Lib.indexByte l 32).toNat + 1), true) else (l, [], false)

theorem cut_parts (s : ByteArray) (i j : Nat) (hj : j = s.size) (h : i ≤ j) : (⟨(s.data.toList.take i).toArray⟩ : ByteArray) = s.extract 0 i ∧ (⟨(s.data.toList.drop i).toArray⟩ : ByteArray) = s.extract i j := by
  obtain ⟨⟨l⟩⟩ := s
  subst hj
  constructor
  · rw [ByteArray.extract_mk]; simp
  · rw [ByteArray.extract_mk]; simp [ByteArray.size]; exact (List.take_of_length_le (by simp)).symm

set_option maxHeartbeats 1000000 in
theorem cut_miss (s : ByteArray) (w : World) (h : Lib.indexByte s.data.toList 32 = -1) :
    Calls Tryd.prog 18 #[.string s, .string ⟨#[32]⟩] w fun e w' => e = .returned (.tuple #[.string ⟨(cutb s.data.toList).1.toArray⟩, .string ⟨(cutb s.data.toList).2.1.toArray⟩, .bool (cutb s.data.toList).2.2]) ∧ ∃ n, w' = w.drewN n := by
  have E1 := Lib.hid (show cutb s.data.toList = (s.data.toList, [], false) by unfold cutb; rw [h, if_neg (by omega)])
  go_enter Tryd.func18, Tryd.ntmps18
  go_wp2_with fail
  refine (index_any s w).mono ?_
  rintro e w' ⟨rfl, rfl⟩
  rw [h]
  clear h
  go_wp2
  go_ret3
  rw [E1.out]
  exact ⟨rfl, 0, rfl⟩

set_option maxHeartbeats 1000000 in
theorem cutin_any (s : ByteArray) (w : World) (hs : s.size ≤ 9223372036854775806) :
    Calls Tryd.prog 18 #[.string s, .string ⟨#[32]⟩] w fun e w' => e = .returned (.tuple #[.string ⟨(cutb s.data.toList).1.toArray⟩, .string ⟨(cutb s.data.toList).2.1.toArray⟩, .bool (cutb s.data.toList).2.2]) ∧ ∃ n, w' = w.drewN n := by
  have hsz := Lib.size_eq s
  rcases index_lt s.data.toList with hi | hi
  · by_cases h : 0 ≤ Lib.indexByte s.data.toList 32
    · obtain ⟨k, hk⟩ := Int.eq_ofNat_of_zero_le h
      have hkl : k < s.size := by omega
      have E1 := Lib.hid (show cutb s.data.toList = (s.data.toList.take k, s.data.toList.drop (k + 1), true) by unfold cutb; rw [hk, if_pos (by omega)]; rfl)
      have E2 := Lib.hid (cut_parts s k s.size rfl (by omega)).1
      have E3 := Lib.hid (cut_parts s (k + 1) s.size rfl (by omega)).2
      clear hsz hi h
      go_enter Tryd.func18, Tryd.ntmps18
      go_wp2_with fail
      refine (index_any s w).mono ?_
      rintro e w' ⟨rfl, rfl⟩
      rw [hk]
      clear hk
      go_wp2_with fail
      go_quiet (fail)
      go_wp2
      go_ret3
      rw [E1.out]
      exact ⟨by rw [E2.out, E3.out]; rfl, nq, rfl⟩
    · have := Lib.indexByte_ge s.data.toList 32
      exact cut_miss s w (by omega)
  · exact cut_miss s w hi

set_option maxHeartbeats 1000000 in
theorem cut_any (s : ByteArray) (w : World) (hs : s.size ≤ 9223372036854775806) :
    Calls Tryd.prog 13 #[.string s, .string ⟨#[32]⟩] w fun e w' => e = .returned (.tuple #[.string ⟨(cutb s.data.toList).1.toArray⟩, .string ⟨(cutb s.data.toList).2.1.toArray⟩, .bool (cutb s.data.toList).2.2]) ∧ ∃ n, w' = w.drewN n := by
  go_enter Tryd.func13, Tryd.ntmps13
  go_wp2_with fail
  refine (cutin_any s w hs).mono ?_
  rintro e w' ⟨rfl, n, rfl⟩
  go_wp2
  go_ret3
  exact ⟨rfl, n, rfl⟩

set_option maxHeartbeats 1000000 in
theorem cutPrefixin_any (s p : ByteArray) (w : World) :
    Calls Tryd.prog 17 #[.string s, .string p] w fun e w' => e = .returned (.tuple #[.string (if Lib.hasPrefix s.data.toList p.data.toList then ⟨(s.data.toList.drop p.size).toArray⟩ else s), .bool (Lib.hasPrefix s.data.toList p.data.toList)]) ∧ w' = w := by
  cases hp : Lib.hasPrefix s.data.toList p.data.toList
  · go_enter Tryd.func17, Tryd.ntmps17
    go_wp2_with fail
    refine (hasPrefix_any s p w).mono ?_
    rintro e w' ⟨rfl, rfl⟩
    rw [hp]
    go_wp2
    go_ret2
    exact ⟨rfl, rfl⟩
  · have hle : p.size ≤ s.size := by
      have h1 := hp
      rw [← Lib.hasPrefix_of_take, Bool.and_eq_true, decide_eq_true_iff] at h1
      rw [Lib.size_eq, Lib.size_eq]
      exact h1.1
    have E := Lib.hid (cut_parts s p.size s.size rfl hle).2
    go_enter Tryd.func17, Tryd.ntmps17
    go_wp2_with fail
    refine (hasPrefix_any s p w).mono ?_
    rintro e w' ⟨rfl, rfl⟩
    rw [hp]
    go_wp2
    go_ret2
    rw [E.out]
    exact ⟨rfl, rfl⟩

set_option maxHeartbeats 1000000 in
theorem cutPrefix_any (s p : ByteArray) (w : World) :
    Calls Tryd.prog 12 #[.string s, .string p] w fun e w' => e = .returned (.tuple #[.string (if Lib.hasPrefix s.data.toList p.data.toList then ⟨(s.data.toList.drop p.size).toArray⟩ else s), .bool (Lib.hasPrefix s.data.toList p.data.toList)]) ∧ w' = w := by
  generalize hv : (if Lib.hasPrefix s.data.toList p.data.toList then (⟨(s.data.toList.drop p.size).toArray⟩ : ByteArray) else s) = v
  have HV := Lib.hid hv
  clear hv
  generalize hb : Lib.hasPrefix s.data.toList p.data.toList = b
  have HB := Lib.hid hb
  clear hb
  go_enter Tryd.func12, Tryd.ntmps12
  go_wp2_with fail
  refine (cutPrefixin_any s p w).mono ?_
  rintro e w' ⟨rfl, rfl⟩
  rw [HV.out, HB.out]
  go_wp2
  go_ret2
  exact ⟨rfl, rfl⟩
end Go.Proofs.YtffjoacflchomaaDoor.Sig
