/-
  Contracts of package disk's settle and Crash.
-/
import Derived.Test.YtjiicmkafidldaaGreatDiskFiles
import Derived.Test.YtjiicmkafidldaaGreatInts
import Derived.StillTailTactics
namespace Go.Proofs.YtjiicmkafidldaaGreat.Disk
set_option maxRecDepth 100000
open Go.RowKit Base DiskMath
set_option linter.ambiguousOpen false

set_option maxRecDepth 100000 in
set_option maxHeartbeats 800000 in
theorem settle_nat (F : Nat → Prop) (x : Fl) (q : Pl) (k : Nat) (w : World) (h : FileAt w F x q) (hs : x.safe ≤ x.b.length) (hn : x.b.length ≤ 140737488355328) (hk : (k : Int) ≤ 9223372036854775807) :
    Calls Tryz.prog 42 #[.pointer (some ⟨q.p, 0, none⟩), .int .i64 k] w fun e w' => e = .returned (.tuple #[]) ∧ FileAt w' F (setl k x) q ∧ w.grownBy w' (some q.p) := by
  have c0 : w.cell? ⟨q.p, 0, none⟩ = some (.slice q.A x.b.length q.c) := Blk.cell h.1 0
  have c1 : w.cell? ⟨q.p, 1, none⟩ = some (.int .i64 x.safe) := Blk.cell h.1 1
  have HF := Lib.hid h
  have hkp := keeps_le k x hs
  have HKE := Lib.hid (show keeps k x = x.safe + k % (x.b.length - x.safe + 1) by rw [keeps, Int.toNat_natCast])
  clear h
  obtain ⟨p, A, c⟩ := q
  dsimp only at c0 c1
  generalize hj : keeps k x = j at hkp HKE
  generalize hl : x.b.length = n at c0 hs hn hkp HKE
  generalize hsf : x.safe = s at c1 hs hkp HKE
  have HJ := Lib.hid hj
  have HL := Lib.hid hl
  have HSF := Lib.hid hsf
  clear hj hl hsf
  go_enter Tryz.func42, Tryz.ntmps42
  go_wp2
  go_quiet (fail)
  generalize hw0 : w.drewN nq = w0
  have HW0 := Lib.hid hw0
  clear hw0
  have HF0 : Hid (FileAt w0 F x ⟨p, A, c⟩) := by rw [← HW0.out]; exact HF.out
  have c0' : w0.cell? ⟨p, 0, none⟩ = some (.slice A n c) := by rw [← HW0.out]; exact c0
  have c1' : w0.cell? ⟨p, 1, none⟩ = some (.int .i64 s) := by rw [← HW0.out]; exact c1
  obtain ⟨v, hv⟩ : ∃ v : Int, v = (n : Int) - s + 1 := ⟨_, rfl⟩
  have hwr : IntKind.i64.wrap ((n : Int) - s + 1) = v := by rw [← hv]; exact IntWalk.i64_in _ (by omega)
  obtain ⟨r, hr⟩ : ∃ r : Nat, r = k % (n - s + 1) := ⟨_, rfl⟩
  have hrl : r < n - s + 1 := by rw [hr]; exact Nat.mod_lt _ (by omega)
  have htm : (k : Int).tmod v = (r : Int) := by
    rw [hv, show (n : Int) - s + 1 = ((n - s + 1 : Nat) : Int) by omega, hr]
    exact (Int.tmod_eq_emod_of_nonneg (by omega)).trans (Int.natCast_emod k (n - s + 1)).symm
  have hjr : j = s + r := by rw [HKE.out, hr]
  have hw1 : IntKind.i64.wrap (r : Int) = (r : Int) := IntWalk.i64_in _ (by omega)
  have hw2 : IntKind.i64.wrap ((s : Int) + r) = (j : Int) := by rw [hjr]; rw [IntWalk.i64_in _ (by omega)]; simp
  have hv0 : ¬ v = 0 := by omega
  have hv1 : (v == 0) = false := by simp; omega
  clear hr hrl hjr hv
  go_wp2
  go_still_tail 11, (by kernel_rfl)
  go_wp2_with fail
  clear hwr htm hw1 hw2 hv1 hv0
  refine (fcut_any F x ⟨p, A, c⟩ j _ (by exact HF0.out) (by rw [HL.out]; exact hkp.2)).mono ?_
  rintro e w2 ⟨rfl, hf2, hg2⟩
  have hl2 : (trim j x).b.length = j := by
    show (x.b.take j).length = j
    rw [take_len (by rw [HL.out]; exact hkp.2)]
  have k0 : w2.cell? ⟨p, 0, none⟩ = some (.slice A j c) := by
    have := Blk.cell hf2.1 0
    rw [hl2] at this
    exact this
  have k1 : w2.cell? ⟨p, 1, none⟩ = some (.int .i64 (trim j x).safe) := Blk.cell hf2.1 1
  have z1 := Blk.frozen hf2.1 1
  have HD : Hid (FileAt (w2.setCell ⟨p, 1, none⟩ (.int .i64 j)) F (setl k x) ⟨p, A, c⟩) := by
    obtain ⟨h1, h2, h3, h4⟩ := hf2
    refine ⟨?_, h2, ?_, h4⟩
    · have := Blk.set_ h1 1 (.int .i64 j)
      unfold setl
      rw [HJ.out]
      exact this
    · have e : (setl k x).b = (trim j x).b := by unfold setl trim; rw [HJ.out]
      rw [e]
      refine own_same h3 fun g hg => Below.heap_setCell _ _ _ _ fun e => ?_
      obtain ⟨cur, hcur⟩ := own_type h3 hg
      unfold Blk at h1
      dsimp only at e h1
      rw [← e, hcur] at h1
      cases h1
  have HG : Hid (w.grownBy (w2.setCell ⟨p, 1, none⟩ (.int .i64 j)) (some p)) := by
    refine only_set ?_ _ _
    have hg0 : w.grownBy w0 (some p) := by rw [← HW0.out]; exact only_drewN (World.grownBy.refl _ _) nq
    exact only_trans hg0 (only_of_drew hg2) (.inl rfl)
  clear hf2 hg2 hl2
  generalize (trim j x).safe = s2 at k1
  go_wp2
  go_end0
  exact ⟨rfl, HD.out, HG.out⟩
set_option maxRecDepth 100000 in
set_option maxHeartbeats 800000 in
theorem settle_neg (F : Nat → Prop) (x : Fl) (q : Pl) (k : Int) (w : World) (h : FileAt w F x q) (hs : x.safe ≤ x.b.length) (hn : x.b.length ≤ 140737488355328) (hk : k < 0) :
    Calls Tryz.prog 42 #[.pointer (some ⟨q.p, 0, none⟩), .int .i64 k] w fun e w' => e = .returned (.tuple #[]) ∧ FileAt w' F (setl k x) q ∧ w.grownBy w' (some q.p) := by
  have c0 : w.cell? ⟨q.p, 0, none⟩ = some (.slice q.A x.b.length q.c) := Blk.cell h.1 0
  have c1 : w.cell? ⟨q.p, 1, none⟩ = some (.int .i64 x.safe) := Blk.cell h.1 1
  have HF := Lib.hid h
  have hkp := keeps_le k x hs
  have HKE := Lib.hid (show keeps k x = x.safe by rw [keeps, show k.toNat = 0 by omega, Nat.zero_mod]; rfl)
  clear h
  obtain ⟨p, A, c⟩ := q
  dsimp only at c0 c1
  generalize hj : keeps k x = j at hkp HKE
  generalize hl : x.b.length = n at c0 hs hn hkp HKE
  generalize hsf : x.safe = s at c1 hs hkp HKE
  have HJ := Lib.hid hj
  have HL := Lib.hid hl
  have HSF := Lib.hid hsf
  clear hj hl hsf
  go_enter Tryz.func42, Tryz.ntmps42
  go_wp2
  go_quiet (fail)
  generalize hw0 : w.drewN nq = w0
  have HW0 := Lib.hid hw0
  clear hw0
  have HF0 : Hid (FileAt w0 F x ⟨p, A, c⟩) := by rw [← HW0.out]; exact HF.out
  have c0' : w0.cell? ⟨p, 0, none⟩ = some (.slice A n c) := by rw [← HW0.out]; exact c0
  have c1' : w0.cell? ⟨p, 1, none⟩ = some (.int .i64 s) := by rw [← HW0.out]; exact c1
  obtain ⟨v, hv⟩ : ∃ v : Int, v = (n : Int) - s + 1 := ⟨_, rfl⟩
  have hwr : IntKind.i64.wrap ((n : Int) - s + 1) = v := by rw [← hv]; exact IntWalk.i64_in _ (by omega)
  have hw2 : IntKind.i64.wrap (s : Int) = (s : Int) := IntWalk.i64_in _ (by omega)
  have hv0 : ¬ v = 0 := by omega
  have hv1 : (v == 0) = false := by simp; omega
  have hmx : max k 0 = 0 := by omega
  have htm : (0 : Int).tmod v = 0 := Int.zero_tmod v
  obtain rfl : j = s := HKE.out
  clear hv
  go_wp2
  go_still_tail 11, (by kernel_rfl)
  go_wp2_with fail
  clear hwr htm hmx hw2 hv1 hv0
  refine (fcut_any F x ⟨p, A, c⟩ j _ (by exact HF0.out) (by rw [HL.out]; exact hkp.2)).mono ?_
  rintro e w2 ⟨rfl, hf2, hg2⟩
  have hl2 : (trim j x).b.length = j := by
    show (x.b.take j).length = j
    rw [take_len (by rw [HL.out]; exact hkp.2)]
  have k0 : w2.cell? ⟨p, 0, none⟩ = some (.slice A j c) := by
    have := Blk.cell hf2.1 0
    rw [hl2] at this
    exact this
  have k1 : w2.cell? ⟨p, 1, none⟩ = some (.int .i64 (trim j x).safe) := Blk.cell hf2.1 1
  have z1 := Blk.frozen hf2.1 1
  have HD : Hid (FileAt (w2.setCell ⟨p, 1, none⟩ (.int .i64 j)) F (setl k x) ⟨p, A, c⟩) := by
    obtain ⟨h1, h2, h3, h4⟩ := hf2
    refine ⟨?_, h2, ?_, h4⟩
    · have := Blk.set_ h1 1 (.int .i64 j)
      unfold setl
      rw [HJ.out]
      exact this
    · have e : (setl k x).b = (trim j x).b := by unfold setl trim; rw [HJ.out]
      rw [e]
      refine own_same h3 fun g hg => Below.heap_setCell _ _ _ _ fun e => ?_
      obtain ⟨cur, hcur⟩ := own_type h3 hg
      unfold Blk at h1
      dsimp only at e h1
      rw [← e, hcur] at h1
      cases h1
  have HG : Hid (w.grownBy (w2.setCell ⟨p, 1, none⟩ (.int .i64 j)) (some p)) := by
    refine only_set ?_ _ _
    have hg0 : w.grownBy w0 (some p) := by rw [← HW0.out]; exact only_drewN (World.grownBy.refl _ _) nq
    exact only_trans hg0 (only_of_drew hg2) (.inl rfl)
  clear hf2 hg2 hl2
  generalize (trim j x).safe = s2 at k1
  go_wp2
  go_end0
  exact ⟨rfl, HD.out, HG.out⟩

theorem settle_any (F : Nat → Prop) (x : Fl) (q : Pl) (k : Int) (w : World) (h : FileAt w F x q) (hs : x.safe ≤ x.b.length) (hn : x.b.length ≤ 140737488355328) (hk : I64 k) :
    Calls Tryz.prog 42 #[.pointer (some ⟨q.p, 0, none⟩), .int .i64 k] w fun e w' => e = .returned (.tuple #[]) ∧ FileAt w' F (setl k x) q ∧ w.grownBy w' (some q.p) := by
  by_cases h0 : 0 ≤ k
  · obtain ⟨j, rfl⟩ := Int.eq_ofNat_of_zero_le h0
    exact settle_nat F x q j w h hs hn hk.2
  · exact settle_neg F x q k w h hs hn (by omega)

/-- its blocks are there -/
theorem DiskAt.exact {F : Nat → Prop} {w : World} {g : Nat} {d : Dk} (h : DiskAt F w g d) : DiskAt (fun i => F i ∧ i < w.heap.size) w g d := by
  obtain ⟨m, pl, h1, h2, h3⟩ := h
  refine ⟨m, pl, h1, ⟨h2, Blk.lt h1⟩, ⟨h3.1, map_lt h3⟩, h3.2.1, ⟨fun x hx => ?_, h3.2.2.1.2⟩, h3.2.2.2⟩
  obtain ⟨a, b, c, e⟩ := h3.2.2.1.1 x hx
  refine ⟨a, ⟨b, Blk.lt a⟩, c, fun k hk => ⟨e k hk, ?_⟩⟩
  obtain ⟨cur, hcur⟩ := own_type c (g := k) (by rw [row_own]; exact hk)
  exact (Array.getElem?_eq_some_iff.1 hcur).1

/-- one file settles -/
theorem settled {F : Nat → Prop} {w w' : World} {g m : Nat} {pl : Int → Pl} {d : Dk} {f : Int} {x : Fl} {t : Fl → Fl} (hh : Head w g d m) (hg : F g) (hb : Body w F d.files m pl) (hx : seek d.files f = some x)
    (ht : ∀ x, (t x).id = x.id) (hs : ∀ x, x.safe ≤ x.b.length → (t x).safe ≤ (t x).b.length) (hq : FileAt w' F (t x) (pl f)) (h2 : w.grownBy w' (some (pl f).p)) : DiskAt F w' g { d with files := put d.files f t } ∧ Turn F w w' := by
  have hX := hb.2.2.1.1 x (seek_mem hx).1
  rw [(seek_mem hx).2] at hX
  have hgp : g ≠ (pl f).p := fun e => by
    have a := hX.1
    unfold Blk at a
    unfold Head Blk at hh
    rw [← e, hh] at a
    cases a
  refine ⟨⟨m, upd pl f (pl f), (h2.block g (Blk.lt hh) fun e => hgp (by injection e)).trans hh, hg, ?_⟩, ?_⟩
  · exact hb.turn hx ht hs (fun i hi hp _ => h2.block i hi fun e => hp (by injection e)) hq rfl (.inl rfl) fun _ hi => hi
  · exact Turn.grown (F := F) h2 fun k e => by injection e with e; rw [← e]; exact hX.2.1

set_option maxRecDepth 100000 in
set_option maxHeartbeats 1600000 in
theorem crash_any (F : Nat → Prop) (g : Nat) (d : Dk) (B : Nat) (A : Option Addr) (n c : Nat) (ks : List Int) (w : World) (h : DiskAt F w g d) (hF : ∀ i, F i → i < w.heap.size) (hr : Row w B 1 A n c (iv ks)) (hB : B ≤ w.heap.size) (hA : 0 < n → ∀ a, A = some a → ¬ F a.block)
    (hk : ∀ k, I64 (ks.getD k 0)) (hsz : ∀ x ∈ d.files, x.b.length ≤ 140737488355328) :
    Calls Tryz.prog 15 #[.pointer (some ⟨g, 0, none⟩), .slice A n c] w (Armed F w g (crash d ks)) := by
  have hle := hr.le
  have hup := h.up
  have HD := Lib.hid h
  have HR := Lib.hid hr
  have HA := Lib.hid hA
  have HK := Lib.hid hk
  have HS := Lib.hid hsz
  have HF := Lib.hid hF
  have HU := Lib.hid hup
  have hlen := hup.le
  clear h hr hA hk hsz hup hF
  go_enter Tryz.func15, Tryz.ntmps15
  go_wp2_with fail
  refine (files_any F g d w HD.out).mono ?_
  rintro e w1 ⟨A1, c1, rfl, hown1, hb1⟩
  rw [List.length_map] at *
  have HO1 := Lib.hid hown1
  have HB1 := Lib.hid hb1
  have HR1 : Hid (Row w1 w1.heap.size 1 A1 d.files.length c1 (iv (d.files.map (·.id)))) := Row.of_own hown1
  have hle1 := HR1.out.le
  clear hown1 hb1
  generalize hN : d.files.length = N at *
  have HN := Lib.hid hN
  clear hN
  go_wp2
  go_loopw [10] (fun i wr => ∃ k : Nat, k ≤ N ∧ i = .int .i64 k ∧ DiskAt F wr g { d with files := crashTo d.files ks k } ∧ Turn F w1 wr) (fun i _ => N - (RowKit.intOf i).toNat)
  case atStart =>
    refine ⟨0, by omega, rfl, ?_, Turn.refl _ _⟩
    rw [crashTo_zero]
    exact HD.out.new HB1.out
  case round =>
    obtain ⟨k, hk, rfl, hd, ht⟩ := hrel
    by_cases hlt : k < N
    · have hkl : k < d.files.length := by rw [HN.out]; exact hlt
      obtain ⟨x, hx⟩ : ∃ x, d.files[k]? = some x := ⟨_, List.getElem?_eq_getElem hkl⟩
      have hxm := List.mem_of_getElem? hx
      have hsk : seek (crashTo d.files ks k) x.id = some x := seek_of (crashTo_up ks k HU.out) (List.mem_of_getElem? ((crashTo_get d.files ks hkl).trans hx))
      have hub := HU.out.mem x hxm
      have hI : I64 x.id := ⟨by omega, by omega⟩
      obtain ⟨m, pl, hh, hg, hb⟩ := hd
      have hl := hb.finds hI.wf
      dsimp only at hl
      rw [hsk, Option.map_some] at hl
      have hX := hb.2.2.1.1 x (seek_mem hsk).1
      have c3 := hh.cells.2.2.2
      obtain ⟨b1, o1, rfl, hb1, hc1⟩ := Row.num HR1.out hlt
      have hnew : ¬ F b1 := fun hf => by
        have a := HF.out b1 hf
        have b := (HO1.out.lt b1 rfl).1
        omega
      have hcell1 : wr.cell? ⟨b1, o1 + k, none⟩ = some (.int .i64 x.id) := by
        rw [ht.cell (p := ⟨b1, o1 + k, none⟩) hb1 hnew, hc1, List.getD_eq_getElem?_getD, List.getElem?_map, hx]
        rfl
      have HX := Lib.hid hx
      have HSK := Lib.hid hsk
      have HH := Lib.hid hh
      have HBd := Lib.hid hb
      have HFl := Lib.hid hX
      have HT := Lib.hid ht
      have hs := hub.2.2
      have hn := HS.out x hxm
      clear hx hsk hh hb hX ht hc1 hxm hub hkl hnew hb1
      have HE := Lib.hid (crashTo_succ (x := x) ks HU.out HX.out)
      have HI := Lib.hid (HK.out k)
      have fin : Hid (∀ (w2 : World), FileAt w2 F (setl (ks.getD k 0) x) (pl x.id) → wr.grownBy w2 (some (pl x.id).p) → DiskAt F w2 g { d with files := crashTo d.files ks (k + 1) } ∧ Turn F w1 w2) := fun w2 h1 h2 => by
        have := settled HH.out hg HBd.out HSK.out (t := setl (ks.getD k 0)) (setl_id _) (setl_ok _) h1 h2
        rw [HE.out]
        exact ⟨this.1, HT.out.trans this.2 fun _ hi => .inl hi⟩
      generalize x.id = f at *
      generalize (pl f) = q at *
      by_cases hkn : k < n
      · obtain ⟨b2, o2, rfl, hb2, hc2⟩ := Row.num HR.out hkn
        have hcell2 : wr.cell? ⟨b2, o2 + k, none⟩ = some (.int .i64 (ks.getD k 0)) := by
          rw [HT.out.cell (p := ⟨b2, o2 + k, none⟩) (by have := HB1.out.size; dsimp only; omega) (HA.out (by omega) ⟨b2, o2, none⟩ rfl), HB1.out.cell (p := ⟨b2, o2 + k, none⟩) (by dsimp only; omega)]
          exact hc2
        clear hc2 hb2
        generalize ks.getD k 0 = v at *
        go_wp2_with fail
        refine (settle_any F x q v _ HFl.out hs hn HI.out).mono ?_
        rintro e w2 ⟨rfl, hf2, hg2⟩
        have HE2 := Lib.hid (fin.out w2 hf2 hg2)
        clear hf2 hg2
        go_wp2
        go_roundw
        case rel => exact ⟨k + 1, by omega, by go_num, HE2.out⟩
        case measure => simp [RowKit.intOf]; omega
      · have hv : ks.getD k 0 = 0 := by
          have := HR.out.1
          rw [iv, List.length_map] at this
          rw [List.getD_eq_getElem?_getD, List.getElem?_eq_none (by omega)]
          rfl
        rw [hv] at fin HI
        clear hv
        go_wp2_with fail
        refine (settle_any F x q 0 _ HFl.out hs hn HI.out).mono ?_
        rintro e w2 ⟨rfl, hf2, hg2⟩
        have HE2 := Lib.hid (fin.out w2 hf2 hg2)
        clear hf2 hg2
        go_wp2
        go_roundw
        case rel => exact ⟨k + 1, by omega, by go_num, HE2.out⟩
        case measure => simp [RowKit.intOf]; omega
    · obtain rfl : k = N := by omega
      rw [crashTo_all _ _ (by rw [HN.out]; exact Nat.le_refl _)] at hd
      obtain ⟨m, pl, hh, hg, hb⟩ := hd
      have c0 := hh.cells.1
      have z0 := Blk.frozen hh 0
      have z1 := Blk.frozen hh 1
      have z2 := Blk.frozen hh 2
      have c1 := hh.cells.2.1
      have c2 := hh.cells.2.2.1
      have HH := Lib.hid hh
      have HBd := Lib.hid hb
      have HT := Lib.hid ht
      clear hh hb ht
      dsimp only at c0 c1 c2
      go_wp2
      go_end0
      refine ⟨rfl, ?_⟩
      have hw : wr.grownBy _ (some g) := only_three wr g (.int .i64 d.ops) (.int .i64 0) (.bool false)
      have hh3 : Head _ g (crash d ks) m := Blk.set_ (Blk.set_ (Blk.set_ HH.out 0 (.int .i64 d.ops)) 1 (.int .i64 0)) 2 (.bool false)
      have ht : Turn F w _ := ((Turn.new HB1.out).trans HT.out fun _ hi => .inl hi).trans (Turn.grown (F := F) hw fun k e => by injection e with e; rw [← e]; exact hg) fun _ hi => .inl hi
      exact ⟨⟨m, pl, hh3, .inl hg, (HBd.out.head HH.out hw).mono fun _ hi => .inl hi⟩, ht⟩
end Go.Proofs.YtjiicmkafidldaaGreat.Disk
