/-
  The contract of a log's Trim (package wal).
-/
import Derived.Test.YtjiicmkafidldaaGreatWalDelete
import Derived.StillTailTactics
namespace Go.Proofs.YtjiicmkafidldaaGreat.Wal
set_option linter.unusedVariables false
set_option maxRecDepth 100000
open Go.RowKit Base WalMath
open Go.Proofs.YtjiicmkafidldaaGreat.Disk (Turn Out DiskAt I64 Fits own_same own_type)
open DiskMath (Fl Dk)
set_option linter.ambiguousOpen false

/-- without its first segment -/
theorem Laid.pop {G : Nat → Prop} {w w1 : World} {g gd n c b : Nat} {l : Lg} {x : Sg × Sp} {rest : List (Sg × Sp)} {lp : Option Nat} (h : Laid G w g gd l (some ⟨b, 0, none⟩) n c (x :: rest) lp) {n' : Nat} (hown : w1.ownsRow 0 91 4 (.slice (some ⟨b, 0, none⟩) n' c) n' (flat rest)) (hg : w.grownBy w1 (some b)) :
    Laid G (w1.setCell ⟨g, 0, none⟩ (.slice (some ⟨b, 0, none⟩) n' c)) g gd { l with segs := rest.map (·.1) } (some ⟨b, 0, none⟩) n' c rest lp ∧ Turn G w (w1.setCell ⟨g, 0, none⟩ (.slice (some ⟨b, 0, none⟩) n' c)) := by
  obtain ⟨h1, h2, h3, ⟨h4, h5, h6, h7⟩, h8⟩ := h
  have hk : ∀ (i : Nat) (cur : Array Value) (e : TypeId), e ≠ 91 → w.heap[i]? = some (.cells cur e (0, 0)) → w1.heap[i]? = some (.cells cur e (0, 0)) := fun i cur e hne hi => kept_type hg (fun b' hb => own_type h4 (by rw [← hb]; rfl)) hne hi
  have hbk : Blk w1 g 44 _ := hk g _ _ (by decide) h2
  have hk2 : ∀ (i : Nat) (cur : Array Value) (e : TypeId), e ≠ 91 → e ≠ 44 → w.heap[i]? = some (.cells cur e (0, 0)) → (w1.setCell ⟨g, 0, none⟩ (.slice (some ⟨b, 0, none⟩) n' c)).heap[i]? = w.heap[i]? := fun i cur e hne hne2 hi => (other_block (p := ⟨g, 0, none⟩) hbk (hk i cur e hne hi) hne2).trans hi.symm
  have hz : w.heap.size ≤ (w1.setCell ⟨g, 0, none⟩ (.slice (some ⟨b, 0, none⟩) n' c)).heap.size := by simpa using hg.size
  refine ⟨⟨rfl, Blk.set_ hbk 0 _, h3, ⟨?_, fun b' hb => h5 b' (by rw [← hb]; rfl), fun y hy => ?_, ?_⟩, h8.keepT fun i cur hi => hk2 i cur _ (by decide) (by decide) hi⟩, (Turn.grown hg fun b' hb => h5 b' (by rw [← hb]; rfl)).setCell (.inl h3) _⟩
  · refine own_same hown fun b' hb => ?_
    obtain ⟨cur, hc⟩ := own_type hown hb
    exact (other_block (p := ⟨g, 0, none⟩) hbk hc (by decide)).trans hc.symm
  · exact ListsIn.keep2 (h6 y (List.mem_cons_of_mem _ hy)) hz (fun b cur _ hb => hk2 b cur _ (by decide) (by decide) hb) (fun b cur hb => hk2 b cur _ (by decide) (by decide) hb)
  · exact (List.pairwise_cons.1 h7).2

theorem Laid.blk {G : Nat → Prop} {w w1 : World} {g gd n c b : Nat} {l : Lg} {qs : List (Sg × Sp)} {lp : Option Nat} (h : Laid G w g gd l (some ⟨b, 0, none⟩) n c qs lp) (hg : w.grownBy w1 (some b)) : Blk w1 g 44 #[.slice (some ⟨b, 0, none⟩) n c, .pointer (some ⟨gd, 0, none⟩), .int .i64 l.base, .int .i64 l.size, leftV lp] :=
  kept_type hg (fun b' hb => own_type h.2.2.2.1.1 (by rw [← hb]; rfl)) (by decide) h.2.1
def sliceLen : Option Value → Nat
  | some (.slice _ n _) => n
  | _ => 0
def TrimRel (T : Nat → Prop) (w : World) (g gd : Nat) (l : Lg) (d : Dk) (lsn : Int) (k M : Nat) (wr : World) : Prop :=
  ∃ (segs : List Sg) (d1 : Dk), Both T wr g gd { l with segs := segs } d1 ∧ trimS lsn segs d1 = trimS lsn l.segs d ∧ (∀ s ∈ segs, SgOk s) ∧ Cap (k + (l.segs.length - segs.length)) M d1 ∧ segs.length ≤ l.segs.length ∧ Turn T w wr

set_option maxHeartbeats 3200000 in
theorem trim_on (T : Nat → Prop) (g gd : Nat) (l : Lg) (d : Dk) (k M : Nat) (lsn : Int) (w : World) (h : Both T w g gd l d) (hT : New T w) (ho : ∀ s ∈ l.segs, SgOk s) (hN : l.segs.length ≤ 16384) (hc : Cap k M d) (hk : k ≤ 1000000) (hoff : d.off = false) :
    Calls Tryz.prog 26 #[.pointer (some ⟨g, 0, none⟩), .int .i64 lsn] w (Wrote T w g gd (trim l d lsn)) := by
  have HB := Lib.hid h
  have HT := Lib.hid hT
  have HO := Lib.hid ho
  have HC := Lib.hid hc
  obtain ⟨F, G, hdk, ⟨A, n, c, qs, lp, hl⟩, _, _, _⟩ := h
  have HDW := Lib.hid (Disk.down_any F gd d w hdk)
  rw [hoff] at HDW
  have y1 := hl.cells.2.1
  have HE := Lib.hid (show trim l d lsn = ((trimS lsn l.segs d).1, { l with segs := (trimS lsn l.segs d).2.1 }, (trimS lsn l.segs d).2.2) by unfold trim; rw [hoff]; rfl)
  clear hT ho hc hdk hl hoff
  go_enter Tryz.func26, Tryz.ntmps26
  go_wp2_with fail
  refine HDW.out.mono ?_
  rintro e w1 ⟨rfl, rfl⟩
  clear y1
  go_wp2
  go_loopw [5] (fun _ wr => TrimRel T w g gd l d lsn k M wr) (fun _ wr => sliceLen (wr.cell? ⟨g, 0, none⟩))
  case atStart => exact ⟨l.segs, d, HB.out, rfl, HO.out, HC.out.mono (by omega) (Nat.le_refl _), Nat.le_refl _, Turn.refl _ _⟩
  case round =>
    obtain ⟨segs, d1, hbo, htr, hok, hcap, hle, htu⟩ := hrel
    have HBO := Lib.hid hbo
    have HTR := Lib.hid htr
    have HOK := Lib.hid hok
    have HCA := Lib.hid hcap
    have HTU := Lib.hid htu
    have HNW := Lib.hid (HT.out.le htu.size)
    obtain ⟨F1, G1, hdk, ⟨A, n, c, qs, lp, hl⟩, hFG, hF, hG⟩ := hbo
    have y0 := hl.cells.1
    have y1 := hl.cells.2.1
    have hlen : segs.length = n := hl.len
    clear htr hok hcap htu
    match segs, hlen with
    | [], hlen =>
      obtain rfl : 0 = n := hlen
      clear hdk hl hFG hF hG
      go_wp2
      go_ret
      rw [HE.out, ← HTR.out]
      exact ⟨rfl, HBO.out, HTU.out⟩
    | [s], hlen =>
      obtain rfl : 1 = n := hlen
      clear hdk hl hFG hF hG
      go_wp2
      go_ret
      rw [HE.out, ← HTR.out]
      exact ⟨rfl, HBO.out, HTU.out⟩
    | s :: t :: r, hlen =>
      obtain ⟨b, q, rfl, hq0, hGb, hb, hpn, ⟨hnc, hcm⟩, _, k0, k1, k2, k3⟩ := hl.at_ (k := 0) (s := s) rfl
      rw [Nat.zero_mul] at k0 k1 k2 k3
      rw [Nat.zero_add] at k1 k2 k3
      have hs := HOK.out s List.mem_cons_self
      have hbd := hs.bd
      obtain ⟨hf0, hf1, hx1, hla, _⟩ := hs
      have hn2 : decide ((1 : Int) < (n : Int)) = true := by simp at hlen ⊢; omega
      have hn3 : 2 ≤ n := by simp at hlen; omega
      obtain ⟨x0, rest, hqs⟩ : ∃ x0 rest, qs = x0 :: rest := by
        cases qs with
        | nil => simp at hq0
        | cons x0 rest => exact ⟨x0, rest, rfl⟩
      subst hqs
      have hmap : x0.1 = s ∧ rest.map (·.1) = t :: r := by
        have := hl.1
        simpa using this
      have HMAP := Lib.hid hmap
      clear hmap hq0 hla
      have HLEN : Hid ((s :: t :: r).length = n) := hlen
      clear hlen
      by_cases hle2 : last s ≤ lsn
      · have HTS := Lib.hid (show trimS lsn (s :: t :: r) d1 = if (DiskMath.remove d1 s.file).1 = 0 then trimS lsn (t :: r) (DiskMath.remove d1 s.file).2 else ((DiskMath.remove d1 s.file).1, s :: t :: r, (DiskMath.remove d1 s.file).2) by rw [trimS, if_pos hle2])
        have hla : s.first + s.rows.length - 1 ≤ lsn := hle2
        clear hle2
        have HCC := Lib.hid (show Cap (k + 16384) M d1 from HCA.out.mono (by omega) (Nat.le_refl _))
        obtain ⟨sfile, sfirst, srows, ssize⟩ := s
        dsimp only at *
        have HLA := Lib.hid (fun w => last_any sfile sfirst q.A srows.length q.c ssize w (by omega) (by omega))
        generalize hsr : srows.length = sr at *
        have HSR := Lib.hid hsr
        have HY0 := Lib.hid y0
        clear hsr hdk hl hFG hF hG
        go_wp2_with fail
        refine (HLA.out _).mono ?_
        rintro e w2 ⟨rfl, hb2⟩
        have HB2 := Lib.hid (HBO.out.new hb2)
        have HT2 : Hid (Turn T w w2) := HTU.out.trans (F' := T) (Turn.new hb2) fun _ hi => .inl hi
        have HN2 := Lib.hid (HNW.out.le hb2.size)
        clear hb2 y0 y1 k0 k1 k2 k3 hb hGb HMAP
        obtain ⟨F2, hd2, hF2, HK2⟩ := HB2.out.disk HN2.out
        obtain ⟨_, G2, _, ⟨A2, n2, c2, qs2, lp2, hl2⟩, _, _, _⟩ := HB2.out
        have y0 := hl2.cells.1
        have y1 := hl2.cells.2.1
        obtain ⟨b2, q2, rfl, _, _, hb2, hpn2, ⟨hnc2, hcm2⟩, _, k0, _, _, _⟩ := hl2.at_ (k := 0) (s := ⟨sfile, sfirst, srows, ssize⟩) rfl
        rw [Nat.zero_mul] at k0
        have HRM := Lib.hid (Disk.remove_any F2 gd d1 sfile w2.drew (hd2.drewN 1) (cap_fits HCC.out (by omega)))
        clear hl2 hd2 hF2
        go_wp2
        go_still_tail 12, (by kernel_rfl)
        go_wp2_with fail
        refine HRM.out.mono ?_
        rintro e w3 ⟨rfl, hd3, ht3⟩
        have hr3 := HK2.out w3 _ hd3 ⟨ht3.os, ht3.tape, ht3.output, ht3.size, ht3.block⟩
        have HB3 := Lib.hid hr3.1
        have HT3 := Lib.hid (HT2.out.trans (F' := T) hr3.2 fun _ hi => .inl hi)
        have HN3 := Lib.hid (HN2.out.le hr3.2.size)
        have HC3 := Lib.hid (HCA.out.remove sfile)
        clear hd3 ht3 hr3 HRM HK2 y0 y1 k0
        generalize DiskMath.remove d1 sfile = rm at *
        obtain ⟨e3, d3⟩ := rm
        dsimp only at *
        by_cases he3 : e3 = 0
        · subst he3
          rw [if_pos rfl] at HTS
          obtain ⟨F3, G3, hdk3, ⟨A3, n3, c3, qs3, lp3, hl3⟩, hFG3, hF3, hG3⟩ := HB3.out
          have y0 := hl3.cells.1
          have hlen3 : r.length + 2 = n3 := by have := hl3.len; simpa using this
          obtain ⟨b3, q3, rfl, hq3, _, _, _, _⟩ := hl3.at_ (k := 0) (s := ⟨sfile, sfirst, srows, ssize⟩) rfl
          obtain ⟨x3, rest3, hqs⟩ : ∃ x0 rest, qs3 = x0 :: rest := by
            cases qs3 with
            | nil => simp at hq3
            | cons x0 rest => exact ⟨x0, rest, rfl⟩
          subst hqs
          have hmap : rest3.map (·.1) = t :: r := by
            have := hl3.1
            simp at this
            exact this.2
          have HD := Lib.hid (delete_any 0 b3 n3 c3 x3 rest3 w3 hl3.2.2.2.1.1 (by omega))
          have HL3 := Lib.hid hl3
          have HLN := Lib.hid hlen3
          clear hl3 hq3 hlen3
          go_wp2_with fail
          refine HD.out.mono ?_
          rintro e w4 ⟨rfl, hown4, hg4⟩
          have hbk := HL3.out.blk hg4
          have z0 : w4.cell? ⟨g, 0, none⟩ = some _ := hbk.cell 0
          have zf : w4.frozen? ⟨g, 0, none⟩ = false := hbk.frozen 0
          have hpop := HL3.out.pop hown4 hg4
          rw [hmap] at hpop
          have hbo4 := Both.log hdk3 hF3 hFG3 hG3 HN3.out hpop.2 ⟨_, _, _, _, _, hpop.1⟩ (fun i hi => .inl hi)
          have HB4 := Lib.hid hbo4.1
          have HT4 := Lib.hid (HT3.out.trans (F' := T) hbo4.2 fun _ hi => .inl hi)
          have HY4 := Lib.hid hpop.1.cells.1
          clear hown4 hg4 hbk hpop hbo4 hdk3 hF3 hFG3 hG3 HD hmap
          go_wp2
          go_roundw
          case rel =>
            refine ⟨t :: r, d3, HB4.out, ?_, fun u hu => HOK.out u (List.mem_cons_of_mem _ hu), ?_, ?_, HT4.out⟩
            · rw [← HTR.out, HTS.out]
            · refine HC3.out.mono ?_ (Nat.le_refl _)
              simp at hle ⊢
              omega
            · simp at hle ⊢
              omega
          case measure =>
            rw [HY4.out, HY0.out]
            show n3 - 1 < n
            have h1 := HLN.out
            have h2 : r.length + 2 = n := by have := HLEN.out; simpa using this
            omega
        · rw [if_neg he3] at HTS
          have hne : (e3 != 0) = true := by simpa using he3
          clear he3
          go_wp2
          go_ret
          rw [HE.out, ← HTR.out, HTS.out]
          exact ⟨rfl, HB3.out, HT3.out⟩
      · have HTS := Lib.hid (show trimS lsn (s :: t :: r) d1 = (0, s :: t :: r, d1) by rw [trimS, if_neg hle2])
        have hla : ¬ s.first + s.rows.length - 1 ≤ lsn := hle2
        clear hle2 hdk hl hFG hF hG
        obtain ⟨sfile, sfirst, srows, ssize⟩ := s
        dsimp only at *
        have HLA := Lib.hid (fun w => last_any sfile sfirst q.A srows.length q.c ssize w (by omega) (by omega))
        generalize hsr : srows.length = sr at *
        have HSR := Lib.hid hsr
        clear hsr
        go_wp2_with fail
        refine (HLA.out _).mono ?_
        rintro e w2 ⟨rfl, hb2⟩
        have HB2 := Lib.hid hb2
        clear hb2
        go_wp2
        go_ret
        rw [HE.out, ← HTR.out, HTS.out]
        exact ⟨rfl, HBO.out.new HB2.out, HTU.out.trans (F' := T) (Turn.new HB2.out) fun _ hi => .inl hi⟩
end Go.Proofs.YtjiicmkafidldaaGreat.Wal
