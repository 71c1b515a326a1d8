/-
  DiskPlays: the walk.
-/
import Derived.Test.YthjdankeopfkaaaPlayDo
import Derived.Test.YthjdankeopfkaaaPlayAlike
namespace Go.Proofs.Ythjdankeopfkaaa.Play
set_option linter.ambiguousOpen false
open Go.RowKit Base DiskMath Disk Ref Field

/-- one op lies at that place -/
def OpAt (w : World) (B bb o : Nat) : Prop :=
  ∃ (kd f n : Int) (Ab : Option Addr) (nb cb : Nat) (b : List UInt8) (Ak : Option Addr) (nk ck : Nat) (ks : List Int),
    w.cell? ⟨bb, o, none⟩ = some (.int .i64 kd) ∧ w.cell? ⟨bb, o + 1, none⟩ = some (.int .i64 f) ∧ w.cell? ⟨bb, o + 2, none⟩ = some (.int .i64 n) ∧ w.cell? ⟨bb, o + 3, none⟩ = some (.slice Ab nb cb) ∧ w.cell? ⟨bb, o + 4, none⟩ = some (.slice Ak nk ck) ∧
    Bytes w B Ab nb cb b ∧ nb ≤ 1048576 ∧ Row w B 1 Ak nk ck (iv ks) ∧ (∀ k, I64 (ks.getD k 0)) ∧ I64 n
/-- a slice of ops -/
def Ops (w : World) (B : Nat) (A : Option Addr) (n c : Nat) : Prop := n ≤ c ∧ c ≤ 9223372036854775807 ∧ (0 < n → ∃ bb off, A = some ⟨bb, off, none⟩ ∧ bb < B ∧ ∀ i, i < n → OpAt w B bb (off + i * 5))

theorem seek_out {l : List Fl} {f : Int} (hu : Up 0 l) (hf : f < 0 ∨ 16384 ≤ f) : seek l f = none := by
  cases h : seek l f with
  | none => rfl
  | some x =>
    have h1 := seek_mem h
    have h2 := hu.mem x h1.1
    have h3 := h1.2
    omega

set_option maxRecDepth 100000 in
set_option maxHeartbeats 1600000 in
theorem plays_walk (A : Option Addr) (n c : Nat) (w : World) (ho : Ops w w.heap.size A n c) :
    Calls Try.prog 3 #[.slice A n c] w fun e w' => e = .returned (.bool true) ∧ Below w.heap.size w w' := by
  have hle := ho.1
  have hc := ho.2.1
  have HO := Lib.hid ho.2.2
  clear ho
  go_enter Try.func3, Try.ntmps3
  go_wp2_with fail
  refine (new_b w).mono ?_
  rintro e w1 ⟨g, rfl, hd, hb⟩
  obtain ⟨B, hB⟩ : ∃ B, B = w.heap.size := ⟨_, rfl⟩
  have HT : Hid (Two (fun j => j < B) (w1.alloc (.cells #[.slice none 0 0, .int .i64 0, .bool false, .int .i64 0] 28)) g w1.heap.size none_ none_) := by
    refine ⟨_, fun i => i = w1.heap.size, DiskAt.alloc hd _, ⟨none, 0, fun _ => ⟨none, 0⟩, ?_, rfl, ⟨rfl, .inl ⟨rfl, rfl⟩⟩, (fun _ hg => (by cases hg)), (fun x hx => (by cases hx)), trivial⟩, fun i hi => ⟨by omega, by rw [World.size_alloc]; omega⟩, fun i hi => ⟨by have := hb.size; omega, by rw [World.size_alloc]; omega⟩, fun i hi hx => by omega⟩
    exact Array.getElem?_push_size
  have HW : Hid (Kept (fun j => j < B) w (w1.alloc (.cells #[.slice none 0 0, .int .i64 0, .bool false, .int .i64 0] 28))) := Kept.new (hb.alloc hb.size _)
  clear hd hb
  go_wp2
  generalize w1.alloc (.cells #[.slice none 0 0, .int .i64 0, .bool false, .int .i64 0] 28) = W at HT HW ⊢
  generalize w1.heap.size = h at HT ⊢
  rw [← hB] at HO
  go_loopw [5] (fun v wr => ∃ (k : Nat) (d : Dk), k ≤ n ∧ k ≤ 60 ∧ v = .int .i64 k ∧ Two (fun j => j < B) wr g h d d ∧ Lim k 1048576 d ∧ Kept (fun j => j < B) w wr) (fun v _ => 60 - (RowKit.intOf v).toNat)
  case atStart => exact ⟨0, none_, by omega, by omega, rfl, HT.out, ⟨Nat.le_refl _, by show 0 ≤ 8; omega, fun x hx => by cases hx⟩, HW.out⟩
  case round =>
    obtain ⟨k, d, hkn, hk60, rfl, ht, hl, hkp⟩ := hrel
    clear HT HW
    have hBr : B ≤ wr.heap.size := by rw [hB]; exact hkp.size
    by_cases hlt : k < n
    · by_cases h60 : k < 60
      · obtain ⟨bb, off, rfl, hbb, hat⟩ := HO.out (by omega)
        obtain ⟨kd, f, m, Ab, nb, cb, b, Ak, nk, ck, ks, k0, k1, k2, k3, k4, hy, hnb, hr, hI, hm⟩ := hat k hlt
        have hbw : bb < w.heap.size := by omega
        have c0 : wr.cell? ⟨bb, off + k * 5, none⟩ = some (.int .i64 kd) := (hkp.cell hbw hbb).trans k0
        have c1 : wr.cell? ⟨bb, off + k * 5 + 1, none⟩ = some (.int .i64 f) := (hkp.cell hbw hbb).trans k1
        have c2 : wr.cell? ⟨bb, off + k * 5 + 2, none⟩ = some (.int .i64 m) := (hkp.cell hbw hbb).trans k2
        have c3 : wr.cell? ⟨bb, off + k * 5 + 3, none⟩ = some (.slice Ab nb cb) := (hkp.cell hbw hbb).trans k3
        have c4 : wr.cell? ⟨bb, off + k * 5 + 4, none⟩ = some (.slice Ak nk ck) := (hkp.cell hbw hbb).trans k4
        have CD := Lib.hid (do_any B g h k 1048576 d kd f m Ab nb cb b Ak nk ck ks wr ht hBr hl h60 (by omega) (hkp.row hy (by omega) fun _ hj => hj) hnb (hkp.row hr (by omega) fun _ hj => hj) hI hm)
        have HKP := Lib.hid hkp
        clear k0 k1 k2 k3 k4 hy hr hI hm hat ht hl hkp
        go_wp2_with fail
        refine CD.out.mono ?_
        rintro e w2 ⟨rfl, hk2, d2, ht2, hl2⟩
        have HT2 := Lib.hid ht2
        have HL2 := Lib.hid hl2
        have HK2 := Lib.hid (HKP.out.trans hk2)
        clear ht2 hl2 hk2 CD
        go_wp2_with fail
        refine (alike_any _ g h d2 w2 HT2.out (fun x hx => by have := HL2.out.2.2 x hx; omega)).mono ?_
        rintro e w3 ⟨rfl, hb3⟩
        have HT3 := Lib.hid (HT2.out.new hb3)
        have HK3 := Lib.hid (HK2.out.trans (Kept.new (K := fun j => j < B) hb3))
        clear hb3 HT2 HK2 c0 c1 c2 c3 c4
        go_wp2
        go_roundw
        case rel => exact ⟨k + 1, d2, by omega, by omega, by go_num, HT3.out, HL2.out, HK3.out⟩
        case measure => simp [RowKit.intOf]; omega
      · obtain ⟨FD, FX, a, b, _, _, _⟩ := ht
        have hup := a.up
        have HD := Lib.hid a
        have HK := Lib.hid hkp
        have HU := Lib.hid hup
        clear a b hl hkp hup
        go_wp2_with fail
        refine (read_no FD g d (-1) wr HD.out ⟨by omega, by omega⟩ (seek_out HU.out (by omega))).mono ?_
        rintro e w2 ⟨rfl, rfl⟩
        go_wp2_with fail
        refine (awake_any wr).mono ?_
        rintro e w3 ⟨rfl, hb3⟩
        have HD3 := Lib.hid (HD.out.new hb3)
        have HE : Hid (Below w.heap.size w w3) := (Turn.below (B := w.heap.size) (HK.out.trans (Kept.new (K := fun j => j < B) hb3)) (fun i hi => by omega) (Nat.le_refl _))
        clear hb3
        go_wp2_with fail
        refine (len_val FD g d 16384 w3 (-1) HD3.out ⟨by omega, by omega⟩ (by unfold size; rw [seek_out HU.out (by omega)])).mono ?_
        rintro e w4 ⟨rfl, rfl⟩
        go_wp2_with fail
        refine (synced_val FD g d (-5) w3 (-1) HD3.out ⟨by omega, by omega⟩ (by unfold safe; rw [seek_out HU.out (by omega)])).mono ?_
        rintro e w5 ⟨rfl, rfl⟩
        go_wp2
        go_ret
        exact ⟨rfl, HE.out⟩
    · obtain ⟨FD, FX, a, b, _, _, _⟩ := ht
      have hup := a.up
      have HD := Lib.hid a
      have HK := Lib.hid hkp
      have HU := Lib.hid hup
      clear a b hl hkp hup
      go_wp2_with fail
      refine (read_no FD g d (-1) wr HD.out ⟨by omega, by omega⟩ (seek_out HU.out (by omega))).mono ?_
      rintro e w2 ⟨rfl, rfl⟩
      go_wp2_with fail
      refine (awake_any wr).mono ?_
      rintro e w3 ⟨rfl, hb3⟩
      have HD3 := Lib.hid (HD.out.new hb3)
      have HE : Hid (Below w.heap.size w w3) := (Turn.below (B := w.heap.size) (HK.out.trans (Kept.new (K := fun j => j < B) hb3)) (fun i hi => by omega) (Nat.le_refl _))
      clear hb3
      go_wp2_with fail
      refine (len_val FD g d 16384 w3 (-1) HD3.out ⟨by omega, by omega⟩ (by unfold size; rw [seek_out HU.out (by omega)])).mono ?_
      rintro e w4 ⟨rfl, rfl⟩
      go_wp2_with fail
      refine (synced_val FD g d (-5) w3 (-1) HD3.out ⟨by omega, by omega⟩ (by unfold safe; rw [seek_out HU.out (by omega)])).mono ?_
      rintro e w5 ⟨rfl, rfl⟩
      go_wp2
      go_ret
      exact ⟨rfl, HE.out⟩
end Go.Proofs.Ythjdankeopfkaaa.Play
