/-
  The first line of each statement on fields (awake), and the fields that are right which the statements make of any ones.
-/
import Derived.Test.YtdinkampbkckpaaFieldHelp
namespace Go.Proofs.Ytdinkampbkckpaa.Field
open Go.RowKit Base FieldMath

theorem encode_val (B : Nat) (A : Option Addr) (n c : Nat) (fs : List Fld) (l : List UInt8) (w : World) (hr : Flds w B A n c fs) (hB : B ≤ w.heap.size) (h : enc fs = .ok l) :
    Calls Try.prog 10 #[.slice A n c] w fun e w' => ∃ A' c', e = .returned (.tuple #[.slice A' l.length c', .int .i64 0]) ∧ w'.ownsRow w.heap.size 5 1 (.slice A' l.length c') l.length (bv l) ∧ Below w.heap.size w w' := by
  refine (encode_any B A n c fs w hr hB).mono ?_
  rintro e w' ⟨A', n', c', he, ho, hb⟩
  rw [h] at he ho
  have hn : l.length = n' := by have := ho.1; rw [show got (Except.ok l) = l from rfl, bv_length, Nat.mul_one] at this; exact this
  subst hn
  exact ⟨A', c', he, ho, hb⟩
theorem decode_val (B : Nat) (A : Option Addr) (n c : Nat) (l : List UInt8) (fs : List Fld) (w : World) (hr : Bytes w B A n c l) (hB : B ≤ w.heap.size) (h : dec l = .ok fs) :
    Calls Try.prog 14 #[.slice A n c] w fun e w' => ∃ A' c', e = .returned (.tuple #[.slice A' fs.length c', .int .i64 0]) ∧ Flds w' w'.heap.size A' fs.length c' fs ∧ Below w.heap.size w w' := by
  refine (decode_any B A n c l w hr hB).mono ?_
  rintro e w' ⟨A', n', c', he, ho, hb⟩
  rw [h] at he ho
  have hn : fs.length = n' := ho.len
  subst hn
  exact ⟨A', c', he, ho, hb⟩
theorem decode_bad (B : Nat) (A : Option Addr) (n c : Nat) (l : List UInt8) (k : Nat) (w : World) (hr : Bytes w B A n c l) (hB : B ≤ w.heap.size) (h : dec l = .error k) :
    Calls Try.prog 14 #[.slice A n c] w fun e w' => ∃ A' n' c', e = .returned (.tuple #[.slice A' n' c', .int .i64 k]) ∧ Below w.heap.size w w' := by
  refine (decode_any B A n c l w hr hB).mono ?_
  rintro e w' ⟨A', n', c', he, ho, hb⟩
  rw [h] at he
  exact ⟨A', n', c', he, hb⟩

theorem enc_five : enc [⟨1, 5, ⟨#[]⟩⟩] = .ok [0, 1, 1, 0, 0, 0, 0, 0, 0, 0, 5] := by rfl
theorem dec_x : dec [0, 1, 2, 0, 1, 120] = .ok [⟨2, 0, str [120]⟩] := by kernel_rfl
theorem six_bytes (w : World) (e : TypeId) {s : Nat} (hs : s = w.heap.size) :
    Bytes (w.alloc (.cells #[.int .u8 0, .int .u8 1, .int .u8 2, .int .u8 0, .int .u8 1, .int .u8 120] e)) (w.heap.size + 1) (some ⟨s, 0, none⟩) 6 6 [0, 1, 2, 0, 1, 120] :=
  Row.lit w #[.int .u8 0, .int .u8 1, .int .u8 2, .int .u8 0, .int .u8 1, .int .u8 120] e (0, 0) hs rfl (by omega)

set_option maxHeartbeats 800000 in
theorem awake_any (w : World) :
    Calls Try.prog 8 #[] w fun e w' => e = .returned (.bool true) ∧ Below w.heap.size w w' := by
  go_enter Try.func8, Try.ntmps8
  go_wp2_with fail
  refine (encode_val _ _ 1 1 _ _ _ (one_fld w _ ⟨1, 5, ⟨#[]⟩⟩ rfl) (by simp) enc_five).mono ?_
  rintro e w1 ⟨A1, c1, rfl, hown1, hb1⟩
  have HB1 := Lib.hid (((Below.refl w.heap.size w).alloc (Nat.le_refl _) _).trans (hb1.mono (by simp)))
  have HY1 : Hid (Bytes w1 w1.heap.size A1 11 c1 [0, 1, 1, 0, 0, 0, 0, 0, 0, 0, 5]) := Bytes.of_own hown1
  have hz1 := HB1.out.size
  clear hown1 hb1
  go_wp2_with fail
  refine (decode_val _ _ 6 6 _ _ _ (six_bytes w1 _ rfl) (by simp) dec_x).mono ?_
  rintro e w2 ⟨A2, c2, rfl, hf2, hb2⟩
  have HB2 := Lib.hid ((HB1.out.alloc (by omega) _).trans (hb2.mono (by simp; omega)))
  obtain ⟨b, off, f, rfl, _, q0, q1, q2, hget, _⟩ := hf2.at_ (k := 0) (by simp)
  simp only [List.getElem?_cons_zero, Option.some.injEq] at hget
  subst hget
  rw [Nat.zero_mul, Nat.add_zero] at q0 q1 q2
  replace q2 : w2.cell? ⟨b, off + 2, none⟩ = some (.string ⟨#[120]⟩) := q2
  simp only at q0 q1
  have hcv : (convert 27 9 (.slice A1 11 c1)).run Try.prog w2 = .ok (.string ⟨#[0, 1, 1, 0, 0, 0, 0, 0, 0, 0, 5]⟩) w2 := ((HY1.out.alloc (Nat.le_refl _) _).below (hb2.mono (by simp))).str (P := Try.prog) Try.underlying27 Try.underlying5 Try.underlying9
  clear hf2 hb2
  go_wp2
  go_ret
  exact ⟨rfl, HB2.out⟩

/-- a field that is right, of any one -/
def mkF (f : Fld) : Fld := if modZ f.kind 2 = 0 then ⟨1, f.n, ⟨#[]⟩⟩ else ⟨2, 0, str (f.s.data.toList.take 4096)⟩
def mkL (fs : List Fld) : List Fld := (fs.take 60).map mkF
theorem mkL_length (fs : List Fld) : (mkL fs).length ≤ 60 := by rw [mkL, List.length_map, List.length_take]; omega
theorem mkL_right (fs : List Fld) (h : ∀ f ∈ fs, f.ok) : ∀ f ∈ mkL fs, f.right = true ∧ f.ok := by
  intro g hg
  obtain ⟨f, hf, rfl⟩ := List.mem_map.1 hg
  have hk := h f (List.mem_of_mem_take hf)
  unfold mkF
  split
  · exact ⟨rfl, by show (-9223372036854775808 : Int) ≤ 1; omega, by show (1 : Int) ≤ _; omega, hk.2.2.1, hk.2.2.2.1, by show (0 : Nat) ≤ _; omega⟩
  · have hs : (str (f.s.data.toList.take 4096)).size ≤ 4096 := by rw [str_size, List.length_take]; omega
    exact ⟨by simp [Fld.right, hs], by show (-9223372036854775808 : Int) ≤ 2; omega, by show (2 : Int) ≤ _; omega, by show (-9223372036854775808 : Int) ≤ 0; omega, by show (0 : Int) ≤ _; omega, by show (str (f.s.data.toList.take 4096)).size ≤ _; omega⟩

def MkRel (w : World) (n : Nat) (fs : List Fld) (v i : Value) (wr : World) : Prop :=
  ∃ (k : Nat) (A : Option Addr) (c : Nat), k ≤ n ∧ k ≤ 60 ∧ i = .int .i64 k ∧ v = .slice A k c ∧ wr.ownsRow w.heap.size 26 3 (.slice A k c) k (fv ((fs.take k).map mkF)) ∧ Below w.heap.size w wr

set_option maxHeartbeats 1000000 in
theorem mk_any (B : Nat) (A : Option Addr) (n c : Nat) (fs : List Fld) (w : World) (hr : Flds w B A n c fs) (hok : ∀ f ∈ fs, f.ok) (hB : B ≤ w.heap.size) :
    Calls Try.prog 17 #[.slice A n c] w fun e w' => ∃ A' c', e = .returned (.slice A' (mkL fs).length c') ∧ w'.ownsRow w.heap.size 26 3 (.slice A' (mkL fs).length c') (mkL fs).length (fv (mkL fs)) ∧ Below w.heap.size w w' := by
  have hle := hr.le
  have hlen := hr.len
  have HL := Lib.hid hlen
  have HR := Lib.hid hr
  have HK := Lib.hid hok
  clear hr hlen hok
  go_enter Try.func17, Try.ntmps17
  go_wp2
  go_loopw [3, 4] (fun v i wr => MkRel w n fs v i wr) (fun _ i _ => n - (intOf i).toNat)
  case atStart => exact ⟨0, none, 0, by omega, by omega, rfl, rfl, World.ownsRow_nil _ _ _ _, Below.refl _ _⟩
  case round =>
    obtain ⟨k, A1, c1, hk, hk60, rfl, rfl, hown, hbel⟩ := hrel
    have HO := Lib.hid hown
    have HB := Lib.hid hbel
    have hz := hbel.size
    clear hown hbel
    by_cases hlt : k < n ∧ k < 60
    · obtain ⟨hlt, hlt60⟩ := hlt
      obtain ⟨b, off, f, rfl, hb, q0, q1, q2, hget, htk⟩ := (HR.out.below (HB.out.mono hB)).at_ hlt
      have HOF := Lib.hid (HK.out f (List.mem_of_getElem? hget))
      have HE := Lib.hid (show (fs.take (k + 1)).map mkF = (fs.take k).map mkF ++ [mkF f] by rw [htk, List.map_append]; rfl)
      clear hget htk
      obtain ⟨fk, fn, fss⟩ := f
      simp only at q0 q1 q2
      go_wp2_with fail
      refine (mod_any _ 2 _ (by omega) (by omega)).mono ?_
      rintro e w2 ⟨rfl, rfl⟩
      by_cases hm : modZ fk 2 = 0
      · have HM := Lib.hid (show mkF ⟨fk, fn, fss⟩ = ⟨1, fn, ⟨#[]⟩⟩ by rw [mkF, if_pos hm])
        rw [hm]
        clear hm
        go_wp2_with fail
        refine (num_any _ _).mono ?_
        rintro e w2 ⟨rfl, hb2⟩
        have HB2 := Lib.hid (HB.out.trans (hb2.mono HB.out.size))
        have HO2 := Lib.hid (own_keep HO.out hb2)
        have hz2 : w.heap.size ≤ w2.heap.size := HB2.out.size
        clear hb2
        go_wp2_with (first
          | (at_builtin
             refine wpList_append_row rfl (.tmp 22) (.tmp 29) rfl ef w.heap.size _ k _ rfl (HO2.out.alloc _) _ _ 1 1 (fv [⟨1, fn, ⟨#[]⟩⟩]) rfl (one_fld _ _ ⟨1, fn, ⟨#[]⟩⟩ (by simp)) (fv_one _) (by omega) (by omega) (by simp; omega) ?_
             intro A3 c3 w3 hown3 _ hb3
             rw [← fv_append, ← HM.out, ← HE.out] at hown3
             have HO3 := Lib.hid hown3
             have HB3 := Lib.hid ((HB2.out.alloc (by omega) _).trans hb3)
             clear hown3 hb3))
        go_roundw
        case rel => exact ⟨k + 1, A3, c3, by omega, by omega, by go_num, rfl, HO3.out, HB3.out⟩
        case measure => simp [intOf]; omega
      · have hm' : ((modZ fk 2 : Nat) : Int) = 1 := by have := modZ_lt fk (n := 2) (by omega); omega
        have HM := Lib.hid (show mkF ⟨fk, fn, fss⟩ = ⟨2, 0, str (fss.data.toList.take 4096)⟩ by rw [mkF, if_neg hm])
        rw [hm']
        clear hm hm'
        go_wp2_with fail
        refine (cut_any _ 4096 _ HOF.out.2.2.2.2 (by omega)).mono ?_
        rintro e w2 ⟨rfl, rfl⟩
        generalize str (fss.data.toList.take 4096) = s at HM
        go_wp2_with fail
        refine (text_any _ _).mono ?_
        rintro e w2 ⟨rfl, hb2⟩
        have HB2 := Lib.hid (HB.out.trans (hb2.mono HB.out.size))
        have HO2 := Lib.hid (own_keep HO.out hb2)
        have hz2 : w.heap.size ≤ w2.heap.size := HB2.out.size
        clear hb2
        go_wp2_with (first
          | (at_builtin
             refine wpList_append_row rfl (.tmp 31) (.tmp 39) rfl ef w.heap.size _ k _ rfl (HO2.out.alloc _) _ _ 1 1 (fv [⟨2, 0, s⟩]) rfl (one_fld _ _ ⟨2, 0, s⟩ (by simp)) (fv_one _) (by omega) (by omega) (by simp; omega) ?_
             intro A3 c3 w3 hown3 _ hb3
             rw [← fv_append, ← HM.out, ← HE.out] at hown3
             have HO3 := Lib.hid hown3
             have HB3 := Lib.hid ((HB2.out.alloc (by omega) _).trans hb3)
             clear hown3 hb3))
        go_roundw
        case rel => exact ⟨k + 1, A3, c3, by omega, by omega, by go_num, rfl, HO3.out, HB3.out⟩
        case measure => simp [intOf]; omega
    · have hkl : (fs.take k).map mkF = mkL fs := by
        rw [mkL]
        by_cases h60 : k = 60
        · rw [h60]
        · rw [List.take_of_length_le (by rw [HL.out]; omega), List.take_of_length_le (by rw [HL.out]; omega)]
      rw [hkl] at HO
      have hkn : k = (mkL fs).length := by have := HO.out.1; rw [fv_length] at this; omega
      have HN := Lib.hid hkn
      clear hkl hkn
      by_cases hkn : k < n
      all_goals
        have h60 : k < n → ¬ k < 60 := by omega
        clear hlt
        go_wp2
        go_ret
        refine ⟨A1, c1, ?_, ?_, HB.out⟩
        · rw [← HN.out]; rfl
        · rw [← HN.out]; exact HO.out
end Go.Proofs.Ytdinkampbkckpaa.Field
