/-
  The statements' own 'do': one op of both disks.
-/
import Derived.Test.YthjdankeopfkaaaPlayTwo
import Derived.Deep.RegionHeld3
import Derived.Deep.DeepCutAuto
namespace Go.Proofs.Ythjdankeopfkaaa.Play
set_option linter.ambiguousOpen false
open Go.RowKit Base DiskMath Disk Ref Field

/-- both have gone on, to one and the same -/
def Played (B : Nat) (w : World) (g h i M : Nat) (e : Ending) (w' : World) : Prop := e = .returned (.bool true) ∧ Kept (fun j => j < B) w w' ∧ ∃ d', Two (fun j => j < B) w' g h d' d' ∧ Lim i M d'

theorem size_i64 {i M : Nat} {d : Dk} (l : Lim i M d) (hM : 61 * M ≤ 140737488355328) (hi : i < 60) (f : Int) : -1 ≤ size d f ∧ size d f ≤ 140737488355328 := by
  unfold size
  split
  · rename_i x hx
    have := l.at_ hM (by omega) (seek_mem hx).1
    omega
  · omega

set_option maxRecDepth 100000 in
set_option maxHeartbeats 1600000 in
theorem do_any (B g h i M : Nat) (d : Dk) (kd f n : Int) (Ab : Option Addr) (nb cb : Nat) (b : List UInt8) (Ak : Option Addr) (nk ck : Nat) (ks : List Int) (w : World)
    (t : Two (fun j => j < B) w g h d d) (hB : B ≤ w.heap.size) (l : Lim i M d) (hi : i < 60) (hM : 61 * M ≤ 140737488355328) (hb : Bytes w B Ab nb cb b) (hnb : nb ≤ M) (hks : Row w B 1 Ak nk ck (iv ks)) (hI : ∀ k, I64 (ks.getD k 0)) (hn : I64 n) :
    Calls Try.prog 9 #[.pointer (some ⟨g, 0, none⟩), .pointer (some ⟨h, 0, none⟩), .agg #[.int .i64 kd, .int .i64 f, .int .i64 n, .slice Ab nb cb, .slice Ak nk ck]] w (Played B w g h (i + 1) M) := by
  have HT := Lib.hid t
  have HL := Lib.hid l
  have HY := Lib.hid hb
  have HKS := Lib.hid hks
  have HI := Lib.hid hI
  have HBL := Lib.hid hb.len
  clear t l hb hks hI
  go_enter Try.func9, Try.ntmps9
  go_wp2_with fail
  refine (file_any kd f n _ _ _).mono ?_
  rintro e W ⟨rfl, hbl⟩
  generalize fileOf f = F
  obtain ⟨p, hp⟩ : ∃ p, p = w.heap.size := ⟨_, rfl⟩
  have hbw : Below w.heap.size w W := ((Below.refl _ _).alloc (Nat.le_refl _) _).trans (hbl.mono (by simp))
  have hpW : p < W.heap.size := by have := hbl.size; rw [World.size_alloc] at this; omega
  have c0 : W.cell? ⟨p, 0, none⟩ = some (.int .i64 kd) := by rw [hbl.cell (by simp [hp]), hp]; simp
  have c2 : W.cell? ⟨p, 2, none⟩ = some (.int .i64 n) := by rw [hbl.cell (by simp [hp]), hp]; simp
  have c3 : W.cell? ⟨p, 3, none⟩ = some (.slice Ab nb cb) := by rw [hbl.cell (by simp [hp]), hp]; simp
  have c4 : W.cell? ⟨p, 4, none⟩ = some (.slice Ak nk ck) := by rw [hbl.cell (by simp [hp]), hp]; simp
  have HTW : Hid (Two (fun j => j < B ∨ j = p) W g h d d) := (HT.out.more (p := p) (by omega)).new hbw
  have HKW : Hid (∀ j, (j < B ∨ j = p) → j < W.heap.size) := fun j hj => by have := hbw.size; omega
  have hBW : B ≤ W.heap.size := Nat.le_trans hB hbw.size
  have HYW : Hid (Bytes W B Ab nb cb b) := HY.out.below (hbw.mono hB)
  have HRW : Hid (Row W B 1 Ak nk ck (iv ks)) := (Kept.new (K := fun j => j < B) hbw).row HKS.out hB fun _ hi => hi
  have HBK : Hid (∀ j, j < B → (j < B ∨ j = p)) := fun j hj => .inl hj
  have HW : Hid (Kept (fun j => j < B) w W) := Kept.new hbw
  have fin : Hid (∀ (w' : World) (d' : Dk), Two (fun j => j < B ∨ j = p) w' g h d' d' → Kept (fun j => j < B ∨ j = p) W w' → Lim (i + 1) M d' → Played B w g h (i + 1) M (.returned (.bool true)) w') := fun w' d' h1 h2 h3 =>
    ⟨rfl, HW.out.trans (h2.weak fun _ hj => .inl hj), d', h1.weak fun _ hj => .inl hj, h3⟩
  have hfit := HL.out.fits (by omega)
  have HSZ : Hid (∀ x, seek d.files F = some x → x.b.length + M ≤ 140737488355328) := fun x hx => HL.out.at_ hM (by omega) (seek_mem hx).1
  have HSA : Hid (∀ x ∈ d.files, x.b.length ≤ 140737488355328) := fun x hx => by have := HL.out.at_ hM (by omega) hx; omega
  rw [← hp]
  clear hbl hbw hp HT HY HKS
  go_wp2_with fail
  refine (mod_any kd 10 _ (by omega) (by omega)).mono ?_
  rintro e w1 ⟨rfl, rfl⟩
  have hk := modZ_lt kd (n := 10) (by omega)
  generalize modZ kd 10 = k at hk ⊢
  by_cases h4 : k < 4
  · have CA := Lib.hid (two_append (fun j => j < B ∨ j = p) g h d d W.drew HTW.out HKW.out F B Ab nb cb b hBW hfit HYW.out (by omega) (fun x hx => by have := HSZ.out x hx; omega))
    go_wp2_with fail
    go_region_held3 (fun w' => w'.cell? ⟨p, 3, none⟩ = some (.slice Ab nb cb))
      (first | exact c3 | exact (hk1.cell (p := ⟨p, 3, none⟩) hpW (.inr rfl)).trans c3 | exact (hk2.cell (p := ⟨p, 3, none⟩) (Nat.lt_of_lt_of_le hpW hk1.size) (.inr rfl)).trans ((hk1.cell (p := ⟨p, 3, none⟩) hpW (.inr rfl)).trans c3))
      (first
        | (go_at_call 15; refine CA.out.mono ?_; rintro e w1 ⟨rfl, ht1, hk1⟩)
        | (go_at_call 32; refine (two_rappend (fun j => j < B ∨ j = p) g h _ d w1 ht1 (fun j hj => Nat.lt_of_lt_of_le (HKW.out j hj) hk1.size) F B Ab nb cb b (Nat.le_trans hBW hk1.size) HBK.out hfit (Kept.row (w := W.drew) hk1 HYW.out hBW HBK.out) (by omega) (fun x hx => by have := HSZ.out x hx; omega)).mono ?_; rintro e w2 ⟨rfl, ht2, hk2⟩)
        | fail)
    have HE := Lib.hid (fin.out w2 _ ht2 (Kept.trans (w := W) ⟨hk1.os, hk1.tape, hk1.output, hk1.size, hk1.block⟩ hk2) (HL.out.append F (by rw [HBL.out]; exact hnb)))
    clear ht1 hk1 ht2 hk2
    go_wp2
    go_ret
    simpa using HE.out
  · by_cases h6 : k < 6
    · go_wp2_with fail
      refine (two_sync _ g h d d _ HTW.out HKW.out F hfit).mono ?_
      rintro e w1 ⟨rfl, ht1, hk1⟩
      go_wp2_with fail
      refine (two_rsync _ g h _ d w1 ht1 (fun j hj => Nat.lt_of_lt_of_le (HKW.out j hj) hk1.size) F hfit).mono ?_
      rintro e w2 ⟨rfl, ht2, hk2⟩
      have HE := Lib.hid (fin.out w2 _ ht2 (hk1.trans hk2) (HL.out.sync F))
      clear ht1 hk1 ht2 hk2
      go_wp2
      go_ret
      simpa using HE.out
    · by_cases h7 : k = 7
      · subst h7
        go_wp2_with fail
        refine (two_remove _ g h d d _ HTW.out HKW.out F hfit).mono ?_
        rintro e w1 ⟨rfl, ht1, hk1⟩
        go_wp2_with fail
        refine (two_rremove _ g h _ d w1 ht1 (fun j hj => Nat.lt_of_lt_of_le (HKW.out j hj) hk1.size) F hfit).mono ?_
        rintro e w2 ⟨rfl, ht2, hk2⟩
        have HE := Lib.hid (fin.out w2 _ ht2 (hk1.trans hk2) (HL.out.remove F))
        clear ht1 hk1 ht2 hk2
        go_wp2
        go_ret
        simpa using HE.out
      · by_cases h9 : k = 9
        · subst h9
          go_wp2_with fail
          refine (two_crash _ g h d d _ HTW.out HKW.out B Ak nk ck ks hBW HBK.out HRW.out HI.out HSA.out).mono ?_
          rintro e w1 ⟨rfl, ht1, hk1⟩
          have c4' : w1.cell? ⟨p, 4, none⟩ = some (.slice Ak nk ck) := (hk1.cell (p := ⟨p, 4, none⟩) hpW (.inr rfl)).trans c4
          go_wp2_with fail
          refine (two_rcrash _ g h _ d w1 ht1 (fun j hj => Nat.lt_of_lt_of_le (HKW.out j hj) hk1.size) B Ak nk ck ks (Nat.le_trans hBW hk1.size) HBK.out (hk1.row HRW.out hBW HBK.out) HI.out HSA.out).mono ?_
          rintro e w2 ⟨rfl, ht2, hk2⟩
          have HE := Lib.hid (fin.out w2 _ ht2 (hk1.trans hk2) (HL.out.crash ks))
          clear ht1 hk1 ht2 hk2
          go_wp2
          go_ret
          exact HE.out
        · by_cases h8 : k = 8
          · subst h8
            go_upto_if 89 with fail
            go_cut [10] (fun v wx => ∃ m : Int, m ≤ 8 ∧ v = .int .i64 m ∧ W = wx)
            case first =>
              by_cases h0 : 0 < n
              · obtain ⟨m, rfl⟩ := Int.eq_ofNat_of_zero_le (show 0 ≤ n by omega)
                have hm : 0 < m := by omega
                unfold I64 at hn
                go_wp2_with fail
                go_meet
                exact ⟨_, by omega, rfl, rfl⟩
              · go_wp2_with fail
                go_meet
                exact ⟨n, by omega, rfl, rfl⟩
            case rest =>
              obtain ⟨m, hm, rfl, rfl⟩ := hcut
              go_wp2_with fail
              refine (two_arm _ g h d d _ HTW.out HKW.out m).mono ?_
              rintro e w1 ⟨rfl, ht1, hk1⟩
              go_wp2_with fail
              refine (two_rarm _ g h _ d w1 ht1 (fun j hj => Nat.lt_of_lt_of_le (HKW.out j hj) hk1.size) m).mono ?_
              rintro e w2 ⟨rfl, ht2, hk2⟩
              have HE := Lib.hid (fin.out w2 _ ht2 (hk1.trans hk2) (HL.out.arm hm))
              clear ht1 hk1 ht2 hk2
              go_wp2
              go_ret
              exact HE.out
          · obtain rfl : k = 6 := by omega
            go_upto_region 9 with fail
            have hsz := size_i64 HL.out hM hi F
            generalize hS : size d F = S at hsz
            have HS := Lib.hid hS
            clear hS
            go_cut [57] (fun v wx => (∃ bt, v = .bool bt ∧ (bt = true → 0 ≤ n ∧ 0 ≤ S)) ∧ ∃ q, W.drewN q = wx)
            case first =>
              by_cases h0 : 0 ≤ n
              · obtain ⟨m, rfl⟩ := Int.eq_ofNat_of_zero_le h0
                by_cases h5 : 0 < m % 5
                · go_wp2_with fail
                  refine (two_rlen _ g h d d _ HTW.out F).mono ?_
                  rintro e w1 ⟨rfl, q, rfl⟩
                  rw [HS.out]
                  go_wp2_with fail
                  go_meet
                  exact ⟨⟨_, rfl, fun hb => ⟨h0, by simp at hb; omega⟩⟩, q, rfl⟩
                · go_wp2_with fail
                  go_meet
                  exact ⟨⟨_, rfl, fun hb => by cases hb⟩, 0, rfl⟩
              · go_wp2_with fail
                go_meet
                exact ⟨⟨_, rfl, fun hb => by cases hb⟩, 0, rfl⟩
            case rest =>
              obtain ⟨⟨bt, rfl, hbt⟩, q, rfl⟩ := hcut
              go_upto_if 57 with fail
              go_cut [9] (fun v wx => (∃ z, v = .int .i64 z) ∧ ∃ q, W.drewN q = wx)
              case first =>
                cases bt with
                | true =>
                  obtain ⟨h0, hs0⟩ := hbt rfl
                  obtain ⟨m, rfl⟩ := Int.eq_ofNat_of_zero_le h0
                  obtain ⟨s, rfl⟩ := Int.eq_ofNat_of_zero_le hs0
                  clear hbt
                  go_wp2_with fail
                  refine (two_rlen _ g h d d _ (by exact HTW.out) F).mono ?_
                  rintro e w1 ⟨rfl, q2, rfl⟩
                  rw [HS.out]
                  obtain ⟨v, hv⟩ : ∃ v : Int, v = (s : Int) + 1 := ⟨_, rfl⟩
                  have hwr : IntKind.i64.wrap ((s : Int) + 1) = v := by rw [← hv]; exact IntWalk.i64_in _ (by omega)
                  have hv0 : ¬ v = 0 := by omega
                  have hv1 : (v == 0) = false := by simp; omega
                  clear hv
                  go_wp2_with fail
                  go_meet
                  exact ⟨⟨_, rfl⟩, q + q2, by simp [World.drewN]⟩
                | false =>
                  clear hbt
                  go_wp2_with fail
                  go_meet
                  exact ⟨⟨n, rfl⟩, q, rfl⟩
              case rest =>
                obtain ⟨⟨z, rfl⟩, q2, rfl⟩ := hcut
                clear hbt
                go_wp2_with fail
                refine (two_cut (fun j => j < B ∨ j = p) g h d d (W.drewN q2) HTW.out HKW.out F z hfit).mono ?_
                rintro e w1 ⟨rfl, ht1, hk1⟩
                go_wp2_with fail
                refine (two_rcut (fun j => j < B ∨ j = p) g h _ d w1 ht1 (fun j hj => Nat.lt_of_lt_of_le (HKW.out j hj) hk1.size) F z hfit (fun x hx => by have := HSZ.out x hx; omega)).mono ?_
                rintro e w2 ⟨rfl, ht2, hk2⟩
                have HE := Lib.hid (fin.out w2 _ ht2 (Kept.trans (w := W) ⟨hk1.os, hk1.tape, hk1.output, hk1.size, hk1.block⟩ hk2) (HL.out.cut F z))
                clear ht1 hk1 ht2 hk2
                go_wp2
                go_ret
                simpa using HE.out
end Go.Proofs.Ythjdankeopfkaaa.Play
