/-
  The contract of a log's Read (package wal): the entry of a number, in new memory.
-/
import Derived.Test.YtedfddnbgljcjaaGreatWalAsk
import Derived.Test.YtedfddnbgljcjaaGreatLays
import Derived.Lib.SliceRun
namespace Go.Proofs.YtedfddnbgljcjaaGreat.Wal
set_option maxRecDepth 100000
open Go.RowKit Base WalMath
open Go.Sort (grow)
open Go.Proofs.YtedfddnbgljcjaaGreat.Disk (Turn Out DiskAt I64 Fits)
open DiskMath (Fl Dk)
set_option linter.ambiguousOpen false

set_option maxHeartbeats 800000 in
/-- the closure of Read: is segment i's first number above lsn? -/
theorem above_any (G : Nat → Prop) (g gd : Nat) (l : Lg) (lsn : Int) (i p q : Nat) (s : Sg) (w : World) (h : LogAt G w g gd l) (hs : l.segs[i]? = some s) (hp : w.cell? ⟨p, 0, none⟩ = some (.pointer (some ⟨g, 0, none⟩))) (hq : w.cell? ⟨q, 0, none⟩ = some (.int .i64 lsn)) :
    Calls Tryz.prog 52 #[.int .i64 i, .pointer (some ⟨p, 0, none⟩), .pointer (some ⟨q, 0, none⟩)] w fun e w' => e = .returned (.bool (decide (lsn < s.first))) ∧ ∃ m, w' = w.drewN m := by
  obtain ⟨A, n, c, qs, lp, h⟩ := h
  have c0 := h.cells.1
  obtain ⟨b, q, rfl, _, _, hb, hpn, ⟨hnc, hcm⟩, _, k0, k1, k2, k3⟩ := h.at_ hs
  clear h hs k0 k2 k3
  generalize s.first = x at *
  go_enter Tryz.func52, Tryz.ntmps52
  go_wp2
  go_quiet (fail)
  go_wp2
  go_ret
  exact ⟨rfl, nq, rfl⟩

theorem count_upto (n k : Nat) (p : Nat → Bool) (hk : k < n) (h1 : ∀ i, i ≤ k → p i = false) (h2 : ∀ i, k < i → i < n → p i = true) : (List.range n).countP (fun i => !p i) = k + 1 := by
  induction n with
  | zero => omega
  | succ n ih =>
    rw [List.range_succ, List.countP_append, List.countP_singleton]
    by_cases hkn : k = n
    · subst hkn
      rw [h1 k (Nat.le_refl _)]
      have : (List.range k).countP (fun i => !p i) = k := by
        have := List.countP_eq_length (p := fun i => !p i) (l := List.range k)
        rw [List.length_range] at this
        rw [this]
        intro a ha
        rw [List.mem_range] at ha
        simp [h1 a (by omega)]
      rw [this]
      simp
    · rw [ih (by omega) (fun i hi hin => h2 i hi (by omega)), h2 n (by omega) (by omega)]
      simp

theorem below_grow (w : World) (q : Nat) (os : Array Obj) : Below w.heap.size w (grow (w.drewN q) os) := Go.Proofs.below_grown_sl _ _ _ _ (Nat.le_refl _)

def firstAt (l : List Sg) (i : Nat) : Int := ((l[i]?).map Sg.first).getD 0
theorem search_any (G : Nat → Prop) (g gd : Nat) (l : Lg) (lsn : Int) (k p q : Nat) (w : World) (h : LogAt G w g gd l) (hp : w.cell? ⟨p, 0, none⟩ = some (.pointer (some ⟨g, 0, none⟩))) (hq : w.cell? ⟨q, 0, none⟩ = some (.int .i64 lsn)) (hN : l.segs.length ≤ 16384) (hk : k < l.segs.length)
    (hbs : ∀ (j : Nat) (t : Sg), l.segs[j]? = some t → (j ≤ k → t.first ≤ lsn) ∧ (k < j → lsn < t.first)) :
    Calls Tryz.prog 51 #[.int .i64 l.segs.length, .func (.func 52) #[] #[.pointer (some ⟨p, 0, none⟩), .pointer (some ⟨q, 0, none⟩)]] w fun e w' => e = .returned (.int .i64 (k + 1 : Nat)) ∧ Below w.heap.size w w' := by
  have eg : ∀ args w, (callFunc 52 args).run Tryz.prog w = .ok (.enter 52 args) w := enters_of Tryz.func52 (by kernel_rfl) rfl
  have hat : ∀ i, i < l.segs.length → ∃ t, l.segs[i]? = some t ∧ firstAt l.segs i = t.first := fun i hi => ⟨l.segs[i], List.getElem?_eq_getElem hi, by rw [firstAt, List.getElem?_eq_getElem hi]; rfl⟩
  have hc := Go.Proofs.Any.sort_Search Tryz.searchA 52 #[.pointer (some ⟨p, 0, none⟩), .pointer (some ⟨q, 0, none⟩)] l.segs.length (fun i => decide (lsn < firstAt l.segs i)) w eg (by omega)
    (fun m os i hi => by
      obtain ⟨t, ht, hf⟩ := hat i hi
      have hb := below_grow w m os
      refine (above_any G g gd l lsn i p q t _ (h.new hb) ht (held_cell hb hp) (held_cell hb hq)).mono ?_
      rintro e w' ⟨rfl, r, rfl⟩
      exact ⟨by rw [hf], r, #[], by simp⟩)
    (fun a b hab hb hpa => by
      obtain ⟨t, ht, hf⟩ := hat a (by omega)
      obtain ⟨u, hu, hg⟩ := hat b hb
      rw [hf] at hpa
      rw [hg]
      simp only [decide_eq_true_eq] at hpa ⊢
      have h1 := hbs a t ht
      have h2 := hbs b u hu
      rcases Nat.lt_or_ge k b with hkb | hkb
      · exact h2.2 hkb
      · have := h1.1 (by omega); omega)
  change Calls Tryz.prog 51 _ _ _ at hc
  refine hc.mono ?_
  rintro e w' ⟨rfl, r, os, rfl⟩
  refine ⟨?_, below_grow w r os⟩
  rw [count_upto l.segs.length k _ hk (fun i hi => ?_) (fun i hi hin => ?_)]
  · obtain ⟨t, ht, hf⟩ := hat i (by omega)
    rw [hf]
    have := (hbs i t ht).1 hi
    simpa using this
  · obtain ⟨t, ht, hf⟩ := hat i hin
    rw [hf]
    have := (hbs i t ht).2 hi
    simpa using this

set_option maxHeartbeats 3200000 in
theorem readyes_any (G : Nat → Prop) (g gd : Nat) (l : Lg) (lsn : Int) (k : Nat) (s : Sg) (p : List UInt8) (w : World) (h : LogAt G w g gd l) (ho : ∀ s ∈ l.segs, SgOk s) (hN : l.segs.length ≤ 16384) (hlo : low l.segs ≤ lsn) (hhi : lsn ≤ hd l.segs)
    (hs : l.segs[k]? = some s) (h0 : s.first ≤ lsn) (h1 : lsn - s.first < s.rows.length) (hp : s.rows[(lsn - s.first).toNat]? = some p) (hbs : ∀ (j : Nat) (t : Sg), l.segs[j]? = some t → (j ≤ k → t.first ≤ lsn) ∧ (k < j → lsn < t.first)) :
    Calls Tryz.prog 19 #[.pointer (some ⟨g, 0, none⟩), .int .i64 lsn] w (ReadS w (some p)) := by
  have HL := Lib.hid h
  have HO := Lib.hid ho
  have HS := Lib.hid hs
  have HBS := Lib.hid hbs
  have HP := Lib.hid hp
  have hsk := ho s (List.mem_of_getElem? hs)
  have hpl : p.length ≤ 1048576 := hsk.2.2.2.2.2 p (List.mem_of_getElem? hp)
  obtain ⟨_, _, hf1, hf2, _, _⟩ := hsk
  clear h ho hs hbs hp
  have HW : Hid (Below w.heap.size w ((w.alloc (.cells #[.pointer (some ⟨g, 0, none⟩)] 97)).alloc (.cells #[.int .i64 lsn] 2))) := ((Below.refl _ _).alloc (Nat.le_refl _) _).alloc (by simp) _
  have hc0 : ((w.alloc (.cells #[.pointer (some ⟨g, 0, none⟩)] 97)).alloc (.cells #[.int .i64 lsn] 2)).cell? ⟨w.heap.size, 0, none⟩ = some (.pointer (some ⟨g, 0, none⟩)) := by simp
  have hc1 : ((w.alloc (.cells #[.pointer (some ⟨g, 0, none⟩)] 97)).alloc (.cells #[.int .i64 lsn] 2)).cell? ⟨w.heap.size + 1, 0, none⟩ = some (.int .i64 lsn) := by simp
  have hd1 : decide (lsn < low l.segs) = false := by simpa using hlo
  have hd2 : decide (hd l.segs < lsn) = false := by simpa using hhi
  clear hlo hhi
  generalize hlo : low l.segs = lo at hd1
  generalize hhi : hd l.segs = hi at hd2
  have HLO := Lib.hid hlo
  have HHI := Lib.hid hhi
  clear hlo hhi
  go_enter Tryz.func19, Tryz.ntmps19
  go_wp2_with fail
  generalize (w.alloc (.cells #[.pointer (some ⟨g, 0, none⟩)] 97)).alloc (.cells #[.int .i64 lsn] 2) = W at hc0 hc1 HW ⊢
  generalize hs0 : w.heap.size = s0 at hc0 hc1
  have HS0 := Lib.hid hs0
  clear hs0
  have HLW := Lib.hid (HL.out.new HW.out)
  go_region_held3 (fun w' => w'.cell? ⟨s0, 0, none⟩ = some (.pointer (some ⟨g, 0, none⟩)) ∧ w'.cell? ⟨s0 + 1, 0, none⟩ = some (.int .i64 lsn) ∧ Below W.heap.size W w')
    (first
      | exact held2 (held_start W) hc0 hc1
      | assumption
      | (go_split_ands; exact held2 (held_call (by assumption) hbc) hc0 hc1)
      | fail)
    (first
      | (go_at_call 16; go_split_ands; refine (low_any G g gd l _ (HLW.out.new (by assumption))).mono ?_; rintro e wc ⟨rfl, rfl⟩; rw [HLO.out])
      | (go_at_call 17; go_split_ands; refine (head_any G g gd l _ (HLW.out.new (by assumption)) HO.out).mono ?_; rintro e wc ⟨rfl, hbc⟩; rw [HHI.out])
      | fail)
  have HB2 := Lib.hid (held_call (held_start W) hbc)
  clear hbc hd1 hd2
  have HL2 := Lib.hid (HLW.out.new HB2.out)
  have e0 := held_cell HB2.out hc0
  have e1 := held_cell HB2.out hc1
  have HE0 := Lib.hid e0
  have HE1 := Lib.hid e1
  have HB3 := Lib.hid (held_two HW.out HB2.out)
  clear hc0 hc1 HW HB2 HLW
  obtain ⟨A, n, c, qs, lp, hL⟩ := HL2.out
  have c0 := hL.cells.1
  have hlen := hL.len
  obtain ⟨b, q, rfl, _, _, hb, hpn, ⟨hnc, hcm⟩, hE, k0, k1, k2, k3⟩ := hL.at_ HS.out
  have HEn := Lib.hid hE
  have HSE := Lib.hid (search_any G g gd l lsn k s0 (s0 + 1) _ HL2.out e0 e1 hN (by rw [hlen]; exact hpn) HBS.out)
  rw [hlen] at HSE
  clear hL hE hlen
  have hwk : IntKind.i64.wrap ((k + 1 : Nat) - 1 : Int) = k := by rw [IntWalk.i64_in _ (by omega)]; omega
  generalize wc = w2 at *
  go_wp2_with fail
  refine HSE.out.mono ?_
  rintro e w3 ⟨rfl, hb3⟩
  have HB4 := Lib.hid (held_two HB3.out hb3)
  replace e0 := held_cell hb3 e0
  replace e1 := held_cell hb3 e1
  replace c0 := held_cell hb3 c0
  replace k0 := held_cell hb3 k0
  replace k1 := held_cell hb3 k1
  replace k2 := held_cell hb3 k2
  replace k3 := held_cell hb3 k3
  have HEn3 := Lib.hid (HEn.out.below hb3)
  clear hb3 HEn HSE
  obtain ⟨j, hj⟩ := Int.eq_ofNat_of_zero_le (show 0 ≤ lsn - s.first by omega)
  have hjr : j < s.rows.length := by omega
  obtain ⟨b2, o2, A4, n4, c4, p4, hA4, hb4, hcell4, hy4, hget4, _⟩ := HEn3.out.lists.at_ (k := j) hjr
  have hpp : p4 = p := by
    have := HP.out
    rw [hj, Int.toNat_natCast, hget4] at this
    exact Option.some.inj this
  subst hpp
  have hn4 := hy4.len
  rw [hA4] at k2
  have hlen4 := HEn3.out.lists.le
  have HY4 := Lib.hid hy4
  have hwj : IntKind.i64.wrap (lsn - s.first) = j := by rw [IntWalk.i64_in _ (by omega)]; exact hj
  have hp4 : n4 ≤ 140737488355328 := by omega
  clear hA4 hget4 hy4 HP HBS HS HL HO HLO HHI HE0 HE1 hN HEn3 HL2
  generalize s.rows.length = r at *
  generalize s.file = f at *
  generalize s.first = x at *
  generalize s.size = z at *
  generalize q.c = cq at *
  subst hn4
  have e1' : ∀ o, (w3.alloc o).cell? ⟨s0 + 1, 0, none⟩ = some (.int .i64 lsn) := fun o => Lib.cell?_alloc_some o e1
  have hcell5 : ∀ o, (w3.alloc o).cell? ⟨b2, o2 + j, none⟩ = some (.slice A4 p4.length c4) := fun o => Lib.cell?_alloc_some o hcell4
  go_wp2_with fail
  refine (Disk.clone_any w3.heap.size A4 _ c4 p4 _ (HY4.out.alloc (Nat.le_refl _) _) (by simp) hp4).mono ?_
  rintro e w4 ⟨A5, c5, rfl, hown5, hb5⟩
  have HO5 := Lib.hid (own_mono hown5 (Nat.le_trans HB4.out.size (by simp)))
  have HB5 := Lib.hid (held_two (held_alloc HB4.out _) hb5)
  clear hown5 hb5
  go_wp2
  go_ret2
  exact ⟨A5, c5, rfl, HO5.out, HB5.out⟩

theorem read_any (G : Nat → Prop) (g gd : Nat) (l : Lg) (lsn : Int) (w : World) (h : LogAt G w g gd l) (ho : ∀ s ∈ l.segs, SgOk s) (hN : l.segs.length ≤ 16384) (hr : Runs (low l.segs) l.segs) :
    Calls Tryz.prog 19 #[.pointer (some ⟨g, 0, none⟩), .int .i64 lsn] w (ReadS w (entry l.segs lsn)) := by
  unfold entry
  by_cases hn : low l.segs ≤ lsn ∧ lsn ≤ hd l.segs
  · rw [if_pos hn]
    have h0 : l.segs ≠ [] := fun e => by
      rw [e] at hn
      have a : low [] = 1 := rfl
      have b : hd [] = 0 := rfl
      omega
    have hh := runs_hd hr h0
    obtain ⟨k, s, h1, h2, h3, h4, h5⟩ := runs_at hr hn.1 (by omega)
    have hlt : (lsn - s.first).toNat < s.rows.length := by omega
    rw [List.getElem?_eq_getElem hlt] at h4
    rw [← h4]
    exact readyes_any G g gd l lsn k s _ w h ho hN hn.1 hn.2 h1 h2 h3 (List.getElem?_eq_getElem hlt) h5
  · rw [if_neg hn]
    exact readno_any G g gd l lsn w h ho hn
end Go.Proofs.YtedfddnbgljcjaaGreat.Wal
