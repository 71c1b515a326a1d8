/-
  The walk of the law on how bytes are parted: it answers true, whatever rows of bytes, and writes nothing that was there.
-/
import Derived.Test.YtaijgndgdejicaaOwn
namespace Go.Proofs.Ytaijgndgdejicaa.Crc
open Go.RowKit

def PartsRel (w : World) (n : Nat) (ls : List (List Int)) (v s i : Value) (wr : World) : Prop :=
  ∃ (k t : Nat) (x : Int) (A : Option Addr) (c : Nat), k ≤ n ∧ i = .int .i64 k ∧ v = .slice A t c ∧ t ≤ 4000 * k ∧ wr.ownsRow w.heap.size 5 1 (.slice A t c) t (vals (ls.take k).flatten) ∧ Below w.heap.size w wr ∧
    s = .int .u32 x ∧ 0 ≤ x ∧ x < 4294967296 ∧ x = moreZ 0 (ls.take k).flatten

set_option maxHeartbeats 800000 in
theorem parts_walk (A : Option Addr) (n cap : Nat) (ls : List (List Int)) (w : World) (hr : Parts w A n ls) :
    Calls Try.prog 5 #[.slice A n cap] w fun e w' => e = .returned (.bool true) ∧ Below w.heap.size w w' := by
  have hn := hr.2.1
  have HR := Lib.hid hr
  clear hr
  by_cases hbig : 200 < n
  · go_enter Try.func5, Try.ntmps5
    go_wp2_with (go_at_call 7; refine (awake_any _).mono ?_; rintro e w1 ⟨rfl, hb⟩; have HB := Lib.hid hb; clear hb)
    go_ret
    exact ⟨rfl, HB.out⟩
  · have hn2 : n ≤ 200 := by omega
    clear hbig
    go_enter Try.func5, Try.ntmps5
    go_wp2
    go_loopw [3, 4, 5] (fun v s i wr => PartsRel w n ls v s i wr) (fun _ _ i _ => n - (intOf i).toNat)
    case atStart =>
      exact ⟨0, 0, 0, none, 0, by omega, rfl, rfl, by omega, World.ownsRow_nil _ _ _ _, Below.refl _ _, rfl, by omega, by omega, (moreZ_nil (by omega) (by omega)).symm⟩
    case round =>
      obtain ⟨k, t, x, A1, c1, hk, rfl, rfl, ht, hown, hbel, rfl, hx0, hx1, hx⟩ := hrel
      have HX := Lib.hid hx
      have HO := Lib.hid hown
      have HB := Lib.hid hbel
      clear hx hown hbel
      by_cases hlt : k < n
      · obtain ⟨b, off, A', m, c, l, rfl, hcell0, hrow, htake⟩ := HR.out.at_ hlt
        have HT := Lib.hid htake
        have HW := Lib.hid hrow
        clear htake hrow
        have hcell : wr.cell? ⟨b, off + k, none⟩ = some (.slice A' m c) := (HB.out.cell (p := ⟨b, off + k, none⟩) (World.block_lt_of_cell? w _ hcell0)).trans hcell0
        have HC := Lib.hid hcell0
        clear hcell0
        by_cases hm : 4000 < m
        · go_wp2_with (go_at_call 7; refine (awake_any _).mono ?_; rintro e w1 ⟨rfl, hb⟩; have HB1 := Lib.hid hb; clear hb)
          go_ret
          exact ⟨rfl, HB.out.trans (HB1.out.mono HB.out.size)⟩
        · have hm2 : m ≤ 4000 := by omega
          clear hm
          go_wp2_with (first
            | (at_builtin
               refine wpList_append_row rfl (.tmp 23) (.tmp 27) rfl w.heap.size _ t (ls.take k).flatten rfl HO.out A' m c l rfl (HW.out.below HB.out (Nat.le_refl _)) (by omega) HB.out.size ?_
               intro A2 c2 w2 hown2 hb2
               have HO2 := Lib.hid hown2
               have HB2 := Lib.hid (HB.out.trans hb2)
               clear hown2 hb2
               have hcell2 : w2.cell? ⟨b, off + k, none⟩ = some (.slice A' m c) := (HB2.out.cell (p := ⟨b, off + k, none⟩) (World.block_lt_of_cell? w _ HC.out)).trans HC.out)
            | (go_at_call 11; refine (more_any _ _ _ _ l _ hx0 hx1 (HW.out.below HB2.out (Nat.le_refl _))).mono ?_; rintro e w3 ⟨rfl, rfl⟩))
          go_roundw
          case rel =>
            have hb := moreZ_bd l hx0 hx1 HW.out.2.2.1
            refine ⟨k + 1, t + m, _, A2, c2, by omega, by go_num, rfl, by omega, ?_, HB2.out, rfl, hb.1, hb.2, ?_⟩
            · rw [HT.out]; exact HO2.out
            · rw [HT.out, moreZ_append _ _ (by omega) (by omega) (HR.out.bytes k), ← HX.out]
          case measure => simp [intOf]; omega
      · have hz : ls.take k = ls := List.take_of_length_le (by have := HR.out.1; omega)
        rw [hz] at HX HO
        clear hz
        have hby : bytesB ls.flatten := by have := HR.out.bytes ls.length; rwa [List.take_length] at this
        have HY := Lib.hid (Row8.own HO.out hby)
        have E1 := Lib.hid (show moreZ 0 [ls.flatten].flatten = x by rw [List.flatten_cons, List.flatten_nil, List.append_nil]; exact HX.out.symm)
        clear hby
        go_wp2_with fail
        refine (awake_any _).mono ?_
        rintro e w1 ⟨rfl, hb⟩
        have HB1 := Lib.hid hb
        clear hb
        have HR1 := Lib.hid (HR.out.below (HB.out.trans (HB1.out.mono HB.out.size)) (Nat.le_refl _))
        have HY1 := Lib.hid (HY.out.below HB1.out (Nat.le_refl _))
        go_wp2_with fail
        refine (sum_val _ _ _ _ _ x HR1.out HX.out.symm).mono ?_
        rintro e w2 ⟨rfl, rfl⟩
        go_wp2_with fail
        refine (sum_val _ _ _ _ _ x (Parts.one HY1.out _ rfl) E1.out).mono ?_
        rintro e w2 ⟨rfl, rfl⟩
        go_wp2_with fail
        refine (sum_val _ _ _ _ _ x (Parts.one (HY1.out.alloc _) _ (by simp)) E1.out).mono ?_
        rintro e w2 ⟨rfl, rfl⟩
        go_wp2
        go_ret
        have hs := HB.out.size
        have hs1 := HB1.out.size
        exact ⟨rfl, ((HB.out.trans (HB1.out.mono hs)).alloc (by omega) _).alloc (by simp; omega) _⟩
end Go.Proofs.Ytaijgndgdejicaa.Crc
