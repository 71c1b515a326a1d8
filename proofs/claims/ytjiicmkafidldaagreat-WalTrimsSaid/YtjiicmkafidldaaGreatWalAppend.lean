/-
  Contracts of a log's Append and Tear (package wal).
-/
import Derived.Test.YtjiicmkafidldaaGreatWalEnter
namespace Go.Proofs.YtjiicmkafidldaaGreat.Wal
set_option maxRecDepth 100000
open Go.RowKit Base WalMath
open Go.Proofs.YtjiicmkafidldaaGreat.Disk (Turn Out DiskAt I64 Fits own_same own_type)
open DiskMath (Fl Dk)
set_option linter.ambiguousOpen false

/-- the log's segments are small -/
def Small (l : Lg) : Prop := ∀ s ∈ l.segs, s.size ≤ 1099511627776
theorem nextF_bd {l : Lg} (ho : Ok l) : 0 ≤ nextF l := by
  unfold nextF
  split
  · exact ho.1
  · rename_i s hs
    have := (ho.2.2.2.2 s (List.mem_of_getLast? hs)).1
    omega
/-- numbers still fit behind an entry more -/
theorem enter_ok {l : Lg} {off : Bool} {p b : List UInt8} {q : Pc} (ho : Ok l) (hsm : Small l) (h : plan l off p = .ok (q, b)) : ∀ s ∈ enter l.segs q b.length p, SgOk s := by
  obtain ⟨h1, h2, h3, h4, _, h5⟩ := plan_ok h
  have hh := hd_bd ho.2.2.2.2
  rcases h5 with ⟨pre, s, hcon, rfl, hb, _⟩ | ⟨rfl, hb, hn, _⟩
  · rw [hcon, enter_snoc rfl]
    intro x hx
    have hs := ho.2.2.2.2 s (by rw [hcon]; simp)
    have hz := hsm s (by rw [hcon]; simp)
    rcases List.mem_append.1 hx with hx | hx
    · exact ho.2.2.2.2 x (by rw [hcon]; simp [hx])
    · rw [List.mem_singleton] at hx
      subst hx
      rw [hcon, hd_snoc] at hh h3
      obtain ⟨a, b', c, d, e, f⟩ := hs
      refine ⟨a, b', c, ?_, ?_, fun y hy => ?_⟩
      · unfold last at *
        simp only [List.length_append, List.length_singleton]
        omega
      · show s.size + b.length ≤ _
        omega
      · rcases List.mem_append.1 hy with hy | hy
        · exact f y hy
        · rw [List.mem_singleton] at hy
          subst hy
          exact h1
  · rw [enter_begins rfl]
    intro x hx
    rcases List.mem_append.1 hx with hx | hx
    · exact ho.2.2.2.2 x hx
    · rw [List.mem_singleton] at hx
      subst hx
      have hb0 := nextF_bd ho
      have hb1 := ho.2.1
      refine ⟨hb0, by show nextF l < 16384; omega, by show 1 ≤ hd l.segs + 1; omega, ?_, by show b.length ≤ _; omega, fun y hy => ?_⟩
      · show hd l.segs + 1 + (([p].length : Nat) : Int) - 1 ≤ _
        simp only [List.length_singleton]
        omega
      · rw [List.mem_singleton] at hy
        subst hy
        exact h1

/-- enter, beside a disk -/
theorem enter_any (T : Nat → Prop) (g gd : Nat) (l : Lg) (d : Dk) (q : Pc) (z : Nat) (off : Bool) (A : Option Addr) (n c : Nat) (p b : List UInt8) (w : World) (h : Both T w g gd l d) (hT : New T w) (ho : Ok l) (hN : l.segs.length ≤ 16384) (hp : plan l off p = .ok (q, b)) (hz : z = b.length) (hr : Bytes w w.heap.size A n c p) (hli : Lies (fun i => ¬ T i) A n) :
    Calls Tryz.prog 41 #[.pointer (some ⟨g, 0, none⟩), pcv q, .int .i64 z, .slice A n c] w (Did T w g gd (.tuple #[]) { l with segs := enter l.segs q z p } d) := by
  subst hz
  obtain ⟨h1, h2, h3, h4, _, h5⟩ := plan_ok hp
  have hn : n ≤ 1048576 := by rw [← hr.len]; exact h1
  obtain ⟨F, G, hdk, hl, hFG, hF, hG⟩ := h
  rcases h5 with ⟨pre, s, hcon, rfl, hb, _⟩ | ⟨rfl, hb, _, _⟩
  · refine (enter_old G g gd l _ b.length pre s A n c p w hl hcon (ho.2.2.2.2 s (by rw [hcon]; simp)) (by omega) rfl hr hn).mono ?_
    rintro e w' ⟨rfl, hl', ht⟩
    have := Both.log hdk hF hFG hG hT ht hl' fun i hi => hi
    rw [hcon, enter_snoc rfl]
    exact ⟨rfl, this⟩
  · refine (enter_new G g gd l _ b.length A n c p w hl ho.2.2.2.2 hN (by omega) rfl hr (hli.mono fun i hi hg => hi (hG i hg).1) hn).mono ?_
    rintro e w' ⟨rfl, hl', ht⟩
    have := Both.log hdk hF hFG hG hT ht hl' fun i hi => hi
    rw [enter_begins rfl]
    exact ⟨rfl, this⟩

theorem write_cap {k M : Nat} {d : Dk} (h : Cap k M d) (l : Lg) (q : Pc) (b : List UInt8) : Cap (k + 2) (M + b.length) (write l d q b).2.2 := by
  unfold write
  split
  · exact (h.clean l).append _ _
  · exact (h.clean l).mono (by omega) (by omega)

set_option maxHeartbeats 3200000 in
theorem append_any (T : Nat → Prop) (g gd : Nat) (l : Lg) (d : Dk) (k M : Nat) (A : Option Addr) (n c : Nat) (p : List UInt8) (w : World) (h : Both T w g gd l d) (hT : New T w) (ho : Ok l) (hsm : Small l) (hN : l.segs.length ≤ 16384) (hc : Cap k M d) (hk : k ≤ 10000000) (hM : M ≤ 35184372088832) (hr : Bytes w w.heap.size A n c p) (hli : Lies (fun i => ¬ T i) A n) :
    Calls Tryz.prog 14 #[.pointer (some ⟨g, 0, none⟩), .slice A n c] w (Did T w g gd (.tuple #[.int .i64 (append l d p).n, .int .i64 (append l d p).e]) (append l d p).l (append l d p).d) := by
  have HB := Lib.hid h
  have HT := Lib.hid hT
  have HO := Lib.hid ho
  have HSM := Lib.hid hsm
  have HC := Lib.hid hc
  have HR := Lib.hid hr
  have HLI := Lib.hid hli
  obtain ⟨F, G, hdk, hl, _, _, _⟩ := h
  have HP := Lib.hid (plan_any F G g gd l d w.heap.size A n c p w hl hdk ho hr (Nat.le_refl _))
  clear hT ho hsm hc hr hli hdk hl
  generalize hap : append l d p = r
  have HAP := Lib.hid hap
  clear hap
  go_enter Tryz.func14, Tryz.ntmps14
  go_wp2_with fail
  refine HP.out.mono ?_
  intro e w1 hpl
  clear HP
  cases hpe : plan l d.off p with
  | error kk =>
    rw [hpe] at hpl
    obtain ⟨rfl, hb1⟩ := hpl
    have HE := Lib.hid (show r = ⟨0, kk, l, d⟩ by rw [← HAP.out, append, hpe])
    have hne : ((kk : Int) == 0) = false := by have := plan_err hpe; simp; omega
    have hne2 : ((kk : Int) != 0) = true := by have := plan_err hpe; simp; omega
    have HB1 := Lib.hid hb1
    clear hb1 hpe
    go_wp2
    go_ret2
    rw [HE.out]
    exact ⟨rfl, HB.out.new (held_alloc HB1.out _), Turn.new (held_alloc HB1.out _)⟩
  | ok qb =>
    obtain ⟨q, b⟩ := qb
    rw [hpe] at hpl
    obtain ⟨A1, c1, rfl, hown1, hb1⟩ := hpl
    have HPE := Lib.hid hpe
    have hpo := plan_ok hpe
    have hbl := hpo.2.2.2.1
    clear hpe hpo
    have HB1 := Lib.hid hb1
    have HO1 := Lib.hid hown1
    have HW2 : Hid (Below w.heap.size w (w1.alloc (.cells #[.int .i64 q.file, .int .i64 q.had, .bool q.begins] 82))) := held_alloc hb1 _
    have HX : Hid (Blk (w1.alloc (.cells #[.int .i64 q.file, .int .i64 q.had, .bool q.begins] 82)) w1.heap.size 82 #[.int .i64 q.file, .int .i64 q.had, .bool q.begins]) := Blk.new _ _ _
    have HY2 : Hid (Bytes (w1.alloc (.cells #[.int .i64 q.file, .int .i64 q.had, .bool q.begins] 82)) (w1.alloc (.cells #[.int .i64 q.file, .int .i64 q.had, .bool q.begins] 82)).heap.size A1 b.length c1 b) := Bytes.of_own (hown1.alloc _)
    have HLB : Hid (Lies (fun i => ¬ Win T w.heap.size (w1.alloc (.cells #[.int .i64 q.file, .int .i64 q.had, .bool q.begins] 82)).heap.size i) A1 b.length) := fun hn bb off e hw => by
      have a := hown1.lt bb (by rw [e]; rfl)
      have c := hw.2
      rw [World.size_alloc] at c
      omega
    clear hb1 hown1
    unfold pcv
    go_wp2_with fail
    generalize w1.alloc (.cells #[.int .i64 q.file, .int .i64 q.had, .bool q.begins] 82) = W2 at *
    have HS1 : Hid (w.heap.size ≤ w1.heap.size) := HB1.out.size
    generalize w1.heap.size = s1 at *
    have x0 : W2.cell? ⟨s1, 0, none⟩ = some (.int .i64 q.file) := HX.out.cell 0
    have x1 : W2.cell? ⟨s1, 1, none⟩ = some (.int .i64 q.had) := HX.out.cell 1
    have x2 : W2.cell? ⟨s1, 2, none⟩ = some (.bool q.begins) := HX.out.cell 2
    have HT2 : Hid (∀ i, Win T w.heap.size W2.heap.size i → T i) := fun i hi => hi.1
    have HN2 := Lib.hid (HT.out.win (w' := W2) HW2.out.size)
    have HX2 : Hid (¬ Win T w.heap.size W2.heap.size s1) := fun hw => by
      have a := hw.2
      have b := HX.out.lt
      have c := HS1.out
      omega
    have HBW := Lib.hid (HB.out.win HW2.out)
    have HTW : Hid (Turn T w W2) := Turn.new HW2.out
    generalize Win T w.heap.size W2.heap.size = T2 at *
    refine (write_any T2 g gd l d k M q A1 b.length c1 b W2 HBW.out HN2.out HC.out (by omega) HY2.out HLB.out (by omega)).mono ?_
    rintro e w3 ⟨rfl, hb3, ht3⟩
    have HC3 := Lib.hid (write_cap HC.out l q b)
    have HWL := Lib.hid (show (write l d q b).1 = 0 → (write l d q b).2.1 = { l with left := some q } from fun h => by
      unfold write at h ⊢
      split
      · rfl
      · rename_i h2
        rw [if_neg h2] at h
        exact absurd h h2)
    have HB3 := Lib.hid hb3
    have HT3 := Lib.hid ((HTW.out.trans (F' := T) (ht3.mono HT2.out) fun _ hi => .inl hi))
    have HN3 := Lib.hid (New.le HN2.out ht3.size)
    replace HX := Lib.hid (show Blk w3 s1 82 _ from (ht3.block s1 HX.out.lt HX2.out).trans HX.out)
    replace x0 : w3.cell? ⟨s1, 0, none⟩ = some (.int .i64 q.file) := HX.out.cell 0
    clear hb3 ht3 x1 x2 HY2 HLB HBW HTW HN2 HO1
    generalize hwr : write l d q b = wr at *
    have HWR := Lib.hid hwr
    clear hwr
    obtain ⟨e3, l3, d3⟩ := wr
    dsimp only at *
    by_cases h3 : e3 = 0
    · subst h3
      obtain rfl : l3 = { l with left := some q } := HWL.out rfl
      obtain ⟨F3, hdk3, hF3, HK3⟩ := HB3.out.disk HN3.out
      have HD3 := Lib.hid hdk3
      obtain ⟨_, G3, _, ⟨A3, n3, c3, qs3, lp3, hL3⟩, _⟩ := HB3.out
      have y1 := hL3.cells.2.1
      clear hdk3 hF3 hL3
      go_wp2
      go_still_tail 6, (by kernel_rfl)
      go_wp2_with fail
      refine (Disk.sync_any F3 gd d3 q.file _ (HD3.out.drewN 1) (cap_fits HC3.out (by omega))).mono ?_
      rintro e w4 ⟨rfl, hd4, ht4⟩
      have hr4 := HK3.out w4 _ hd4 ⟨ht4.os, ht4.tape, ht4.output, ht4.size, ht4.block⟩
      have HB4 := Lib.hid hr4.1
      have HT4 := Lib.hid (HT3.out.trans (F' := T) (hr4.2.mono HT2.out) fun _ hi => .inl hi)
      have HN4 := Lib.hid (New.le HN3.out hr4.2.size)
      replace HX := Lib.hid (show Blk w4 s1 82 _ from (hr4.2.block s1 HX.out.lt HX2.out).trans HX.out)
      clear hd4 ht4 hr4 HB3 HT3 HN3 HK3 HD3 y1 x0
      generalize hsy : DiskMath.sync d3 q.file = sy at *
      have HSY := Lib.hid hsy
      clear hsy
      obtain ⟨e4, d4⟩ := sy
      dsimp only at *
      by_cases h4 : e4 = 0
      · subst h4
        have HE := Lib.hid (show r = ⟨hd (enter l.segs q b.length p), 0, { l with segs := enter l.segs q b.length p, left := none }, d4⟩ by
          rw [← HAP.out, append, HPE.out]
          simp only [HWR.out, if_true]
          rw [synced, HSY.out]
          rfl)
        obtain ⟨F4, G4, hdk4, ⟨A4, n4, c4, qs4, lp4, hL4⟩, hFG4, hF4, hG4⟩ := HB4.out
        have y4 := hL4.cells.2.2.2.2
        have z4 := hL4.2.1.frozen 4
        have hst := hL4.lefts (lp' := none) (left := none) trivial
        have hbo := Both.log (T := T2) (l' := { l with left := none }) hdk4 hF4 hFG4 hG4 HN4.out hst.2 ⟨_, _, _, _, _, hst.1⟩ (fun i hi => .inl hi)
        rw [show leftV none = .pointer none from rfl] at hbo
        have HB5 := Lib.hid hbo.1
        have HT5 := Lib.hid (HT4.out.trans (F' := T) (hbo.2.mono HT2.out) fun _ hi => .inl hi)
        have HN5 := Lib.hid (New.le HN4.out hbo.2.size)
        replace HX := Lib.hid (show Blk (w4.setCell ⟨g, 4, none⟩ (.pointer none)) s1 82 _ from (hbo.2.block s1 HX.out.lt HX2.out).trans HX.out)
        clear hL4 hst hbo hFG4 hF4 hG4 hdk4 HB4 HT4 HN4
        have u0 : (w4.setCell ⟨g, 4, none⟩ (.pointer none)).cell? ⟨s1, 0, none⟩ = some (.int .i64 q.file) := HX.out.cell 0
        have u1 : (w4.setCell ⟨g, 4, none⟩ (.pointer none)).cell? ⟨s1, 1, none⟩ = some (.int .i64 q.had) := HX.out.cell 1
        have u2 : (w4.setCell ⟨g, 4, none⟩ (.pointer none)).cell? ⟨s1, 2, none⟩ = some (.bool q.begins) := HX.out.cell 2
        generalize hW5 : w4.setCell ⟨g, 4, none⟩ (.pointer none) = W5 at *
        go_wp2_with fail
        clear hW5 u0 u1 u2 y4 z4
        refine (enter_any T2 g gd { l with left := none } d4 q b.length d.off A n c p b W5 HB5.out HN5.out HO.out hN (by exact HPE.out) rfl (Bytes.turn HR.out HLI.out HT5.out) (HLI.out.mono fun i hi ht => hi (HT2.out i ht))).mono ?_
        rintro e w6 ⟨rfl, hb6, ht6⟩
        have HB6 := Lib.hid hb6
        have HT6 := Lib.hid (HT5.out.trans (F' := T) (ht6.mono HT2.out) fun _ hi => .inl hi)
        clear hb6 ht6
        obtain ⟨F6, G6, _, hl6, _⟩ := HB6.out
        have HL6 := Lib.hid hl6
        have HEO := Lib.hid (enter_ok HO.out HSM.out HPE.out)
        clear hl6
        go_wp2_with fail
        refine (head_any G6 g gd _ _ HL6.out HEO.out).mono ?_
        rintro e w7 ⟨rfl, hb7⟩
        have HB7 := Lib.hid hb7
        clear hb7
        go_wp2
        go_ret2
        rw [HE.out]
        exact ⟨rfl, (HB6.out.new HB7.out).mono HT2.out, HT6.out.trans (F' := T) (Turn.new HB7.out) fun _ hi => .inl hi⟩
      · have HE := Lib.hid (show r = ⟨0, e4, { l with left := some q }, d4⟩ by
          rw [← HAP.out, append, HPE.out]
          simp only [HWR.out, if_true]
          rw [synced, HSY.out]
          simp [h4])
        have hne2 : (e4 != 0) = true := by simpa using h4
        clear h4
        go_wp2
        go_ret2
        rw [HE.out]
        exact ⟨rfl, HB4.out.mono HT2.out, HT4.out⟩
    · have HE := Lib.hid (show r = ⟨0, e3, l3, d3⟩ by
        rw [← HAP.out, append, HPE.out]
        simp only [HWR.out, if_neg h3])
      have hne : (e3 == 0) = false := by simpa using h3
      have hne2 : (e3 != 0) = true := by simpa using h3
      clear h3
      go_wp2
      go_ret2
      rw [HE.out]
      exact ⟨rfl, HB3.out.mono HT2.out, HT3.out⟩
end Go.Proofs.YtjiicmkafidldaaGreat.Wal
