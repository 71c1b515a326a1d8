/-
  The document's set of tables: contract of Apply.
-/
import Derived.Test.YtlgdbpejefgeaaaTblRefSet
import Derived.Test.YtlgdbpejefgeaaaRegionLast
namespace Go.Proofs.Ytlgdbpejefgeaaa.Tbl
set_option linter.unusedVariables false
set_option maxRecDepth 100000
open Go.RowKit Base IdxMath Foot Idx
open PChg (Cs)
open Last (wp_region_last_at then_normal)
set_option linter.ambiguousOpen false
set_option linter.unusedSimpArgs false

/-- what the document's Apply does -/
def RefTurned (w : World) (R : Nat → Prop) (p : Nat) (b : Bool) (T : List (List Rw)) (e : Ending) (w' : World) : Prop := e = .returned (.bool b) ∧ RAt w' (Out R w w') p T ∧ Turn R w w'
/-- rows that came of a table's Put or Del: in new memory, or as they were -/
def Came (R : Nat → Prop) (w : World) (l : List Rw) (b : Bool) (e : Ending) (w' : World) : Prop := ∃ A n c, e = .returned (.tuple #[.slice A n c, .bool b]) ∧ w'.ownsRow 0 36 2 (.slice A n c) n (rv l) ∧ (∀ g, (Value.slice A n c).ownBlock = some g → Out R w w' g) ∧ Below w.heap.size w w'
section
variable {R : Nat → Prop} {w wx : World} {A : Option Addr} {n c : Nat} {l : List Rw} {k : Int} {v : ByteArray}
theorem out_new {w' w1 : World} (hw : w.heap.size ≤ w1.heap.size) {A : Option Addr} {n c m : Nat} {l : List Rw} (ho : w'.ownsRow w1.heap.size 36 2 (.slice A n c) m (rv l)) : ∀ g, (Value.slice A n c).ownBlock = some g → Out R w w' g := fun g hg => .inr (by
  have := ho.lt g hg
  omega)
theorem came_put (hb : Below w.heap.size w wx) (h : Rz wx wx.heap.size A n c l) (hsz : n ≤ 1099511627774) :
    Calls Try.prog 20 #[.slice A n c, .int .i64 k, .string v] wx (Came R w (put l k v) (!there l k)) := by
  refine (refput_any wx.heap.size A n c l k v wx h (Nat.le_refl _) hsz).mono ?_
  rintro e w' ⟨A', c', rfl, ho, hb'⟩
  exact ⟨A', _, c', rfl, own_mono ho (Nat.zero_le _), out_new hb.size ho, held_two hb hb'⟩
theorem came_del (hb : Below w.heap.size w wx) (h : wx.ownsRow 0 36 2 (.slice A n c) n (rv l)) (hg : ∀ g, (Value.slice A n c).ownBlock = some g → R g) (hr : Rise l) (hsz : n ≤ 1099511627774) :
    Calls Try.prog 19 #[.slice A n c, .int .i64 k] wx (Came R w (del l k) (there l k)) := by
  refine (refdel_any wx.heap.size A n c l k wx (Rs.of_own h) (Nat.le_refl _) hr hsz).mono ?_
  rintro e w' (⟨ht, A', c', rfl, ho, hb'⟩ | ⟨ht, rfl, rfl⟩)
  · rw [ht]
    exact ⟨A', _, c', rfl, own_mono ho (Nat.zero_le _), out_new hb.size ho, held_two hb hb'⟩
  · rw [ht]
    have hd : del l k = l := by unfold IdxMath.del; rw [if_neg (by rw [ht]; simp)]
    rw [hd]
    exact ⟨A, n, c, rfl, h, fun g hx => .inl (hg g hx), hb⟩
end
theorem allT_end {T : List (List Rw)} {l : List Cg} {k : Nat} (hl : l.length ≤ k) (h : allT T (l.take k) = true) : allT T l = true := by rwa [List.take_of_length_le hl] at h
theorem allT_step {T : List (List Rw)} {l : List Cg} {k : Nat} {f : Cg} (h : allT T (l.take k) = true) (e : l.take (k + 1) = l.take k ++ [f]) (hf : isT T f.tbl = true) : allT T (l.take (k + 1)) = true := by rw [e, allT_snoc, h, hf]; rfl
/-- the i-th table turned, in the row -/
theorem turn_lay {w wr w2 : World} {R : Nat → Prop} {p b i : Nat} {cs : Array Value} {T : List (List Rw)} (h : RLie wr (Out R w wr) p b cs T) (hi : i < T.length) (ht : Turn R w wr) (hb : Below wr.heap.size wr w2) {A : Option Addr} {n c : Nat} {l : List Rw} (ho : w2.ownsRow 0 36 2 (.slice A n c) n (rv l)) (hg : ∀ g, (Value.slice A n c).ownBlock = some g → Out (Out R w wr) wr w2 g) (hr : Rise l) :
    RAt (w2.setCell ⟨b, i, none⟩ (.slice A n c)) (Out R w (w2.setCell ⟨b, i, none⟩ (.slice A n c))) p (T.set i l) ∧ Turn R w (w2.setCell ⟨b, i, none⟩ (.slice A n c)) := by
  have hsz : (w2.setCell ⟨b, i, none⟩ (.slice A n c)).heap.size = w2.heap.size := by simp [World.setCell]
  refine ⟨⟨b, _, (h.lay hi hb ho hg hr).mono fun x _ hx => ?_⟩, ?_⟩
  · have := Out.two ht hx hb.size
    rcases this with h1 | h1
    · exact .inl h1
    · exact .inr ⟨h1.1, by rw [hsz]; exact h1.2⟩
  · refine (ht.trans (Turn.new (F := fun _ => False) hb) fun _ hf => hf.elim).setCell ?_ _
    rcases h.inb with h1 | h1
    · exact .inl h1
    · exact .inr h1.1

/-- a cell that holds a number is not of the row of tables -/
theorem ref_apart {w : World} {R : Nat → Prop} {p b : Nat} {cs : Array Value} {T : List (List Rw)} {b' off : Nat} {k : Int} (h : RLie w R p b cs T) (hc : w.cell? ⟨b', off, none⟩ = some (.int .i64 k)) : b' ≠ b := by
  rintro rfl
  rw [h.row.cell off] at hc
  have hlt : off < cs.size := by
    rcases Nat.lt_or_ge off cs.size with hh | hh
    · exact hh
    · rw [Array.getElem?_eq_none hh] at hc; cases hc
  obtain ⟨A, n, c, e, _⟩ := h.each off _ _ hc (List.getElem?_eq_getElem (by rw [← h.len]; exact hlt))
  cases e
theorem RLie.pne {w : World} {R : Nat → Prop} {p b : Nat} {cs : Array Value} {T : List (List Rw)} (h : RLie w R p b cs T) : p ≠ b := fun e => by
  have h3 := h.row
  have h4 := h.box
  unfold Blk at h3 h4
  rw [e, h3] at h4
  simp at h4
set_option maxHeartbeats 12800000 in
theorem refapply_any (R : Nat → Prop) (p : Nat) (T : List (List Rw)) (M : Nat) (A : Option Addr) (n c : Nat) (l : List Cg) (w : World) (h : RAt w R p T) (hl : ∀ wr, Turn R w wr → Cs wr wr.heap.size A n c l) (hM : Most T M) (hsz : M + n ≤ 1099511627774) :
    Calls Try.prog 33 #[.pointer (some ⟨p, 0, none⟩), .slice A n c] w (RefTurned w R p (allT T l) (appl T l)) := by
  have HS := Lib.hid h
  have HC := Lib.hid hl
  have HLEN := Lib.hid (hl w (.refl _ _)).len
  have hle := (hl w (.refl _ _)).le
  have HM := Lib.hid hM
  clear h hl hM
  go_enter Try.func33, Try.ntmps33
  go_wp2
  go_loopw [5] (fun vi wr => ∃ k : Nat, vi = .int .i64 k ∧ k ≤ n ∧ w = wr ∧ allT T (l.take k) = true) (fun vi _ => n - (intOf vi).toNat)
  case atStart => exact ⟨0, rfl, Nat.zero_le _, rfl, rfl⟩
  case round =>
    obtain ⟨k, rfl, hk, rfl, hall⟩ := hrel
    have HA := Lib.hid hall
    clear hall
    by_cases hkn : k < n
    · obtain ⟨b, off, f, rfl, hbB, c0, c1, c2, c3, hf, ht⟩ := (HC.out w (.refl _ _)).at_ hkn
      have HF := Lib.hid hf
      have HTK := Lib.hid ht
      have l1 : (k : Int) < (n : Int) := by omega
      clear hf ht
      go_wp2_with fail
      refine (refis_any R p T f.tbl w HS.out).mono ?_
      rintro e w1 ⟨rfl, rfl⟩
      cases hi : isT T f.tbl with
      | true =>
        have HN := Lib.hid (allT_step HA.out HTK.out hi)
        go_wp2
        go_roundw
        case rel => exact ⟨k + 1, by go_num, by omega, by first | trivial | rfl, HN.out⟩
        case measure => simp [intOf]; omega
      | false =>
        have HN := Lib.hid (allT_not HF.out hi)
        go_wp2
        go_ret
        rw [HN.out]
        refine ⟨by first | trivial | rfl, ?_, Turn.refl _ _⟩
        unfold appl
        rw [HN.out]
        exact HS.out.mono fun i _ hi => .inl hi
    · have HT := Lib.hid (allT_end (k := k) (by rw [HLEN.out]; omega) HA.out)
      have l1 : ¬ (k : Int) < (n : Int) := by omega
      clear HA
      go_upto_region 7 with fail
      go_loopw [6, 7] (fun vi _ wr => ∃ j : Nat, vi = .int .i64 j ∧ j ≤ n ∧ RAt wr (Out R w wr) p (doAll T (l.take j)) ∧ Most (doAll T (l.take j)) (M + j) ∧ Turn R w wr) (fun vi _ _ => n - (intOf vi).toNat)
      case atStart => exact ⟨0, rfl, Nat.zero_le _, HS.out.mono fun i _ hi => .inl hi, HM.out, Turn.refl _ _⟩
      case round =>
        obtain ⟨j, rfl, hj, hset, hmost, hturn⟩ := hrel
        by_cases hjn : j < n
        · obtain ⟨b, off, f, rfl, hbB, c0, c1, c2, c3, hf, ht⟩ := (HC.out wr hturn).at_ hjn
          have hft := allT_at HT.out hf
          obtain ⟨ft, fk, fg, fv⟩ := f
          dsimp only at c0 c1 c2 c3 hft
          obtain ⟨i, rfl, hi⟩ := isT_nat hft
          have hi2 : i < (doAll T (l.take j)).length := by rw [doAll_length]; exact hi
          have hnew : doAll T (l.take (j + 1)) = (doAll T (l.take j)).set i (one (tab (doAll T (l.take j)) (i : Int)) ⟨i, fk, fg, fv⟩) := by rw [ht, doAll_snoc, do1, Int.toNat_natCast]
          have hmost2 : Most (doAll T (l.take (j + 1))) (M + (j + 1)) := by
            rw [ht, doAll_snoc]
            exact hmost.do1 (by rw [isT_length (doAll_length _ _)]; exact hft)
          have hshort := hmost (i : Int)
          generalize hTT : doAll T (l.take j) = TT at *
          generalize hTN : doAll T (l.take (j + 1)) = TN at *
          have HTN := Lib.hid hTN
          clear hTN
          obtain ⟨bb, cs, hX⟩ := hset
          obtain ⟨A5, n5, c5, l0, e2, d2, ho0, hr0, hg0⟩ := hX.get hi2
          have d0 : wr.cell? ⟨p, 0, none⟩ = some (.slice (some ⟨bb, 0, none⟩) TT.length TT.length) := hX.box.cell 0
          have htab := tab_get hi2 e2
          rw [htab] at hnew hshort
          subst hnew
          have HX := Lib.hid hX
          have HTU := Lib.hid hturn
          have HMO := Lib.hid hmost2
          have HO0 := Lib.hid ho0
          have HG0 := Lib.hid hg0
          have HR0 := Lib.hid hr0
          have l2 : (j : Int) < (n : Int) := by omega
          have l3 : (i : Int) < (TT.length : Int) := by omega
          have hs0 : n5 ≤ 1099511627774 := by have := (Rs.of_own ho0).len; omega
          clear hX e2 ho0 hr0 hg0 htab hturn hmost hmost2 hf ht hft hTT hshort
          cases fg with
          | true =>
            have C3 : Hid (∀ wx, Below wr.heap.size wr wx → Calls Try.prog 19 #[.slice A5 n5 c5, .int .i64 fk] wx (Came (Out R w wr) wr (del l0 fk) (there l0 fk))) := fun wx hb => came_del hb (own_keep HO0.out hb) HG0.out HR0.out hs0
            have HRN := Lib.hid (HR0.out.del fk)
            generalize there l0 fk = tb at C3
            go_upto_region 11 with fail
            have k1 : wr.cell? ⟨b, off + j * 4 + 1, none⟩ = some (.int .i64 fk) := by simpa [Nat.add_assoc] using c1
            have k3 : wr.cell? ⟨b, off + j * 4 + 3, none⟩ = some (.string fv) := by simpa [Nat.add_assoc] using c3
            have hbne : b ≠ bb := ref_apart HX.out k1
            have hpne : p ≠ bb := HX.out.pne
            refine Go.wp_region_held_drew (S := fun w' => w'.cell? ⟨p, 0, none⟩ = some (.slice (some ⟨bb, 0, none⟩) TT.length TT.length) ∧ w'.cell? ⟨b, off + j * 4 + 1, none⟩ = some (.int .i64 fk) ∧ w'.cell? ⟨b, off + j * 4 + 3, none⟩ = some (.string fv)) (by kernel_rfl) ⟨d0, k1, k3⟩ (fun hHeld => ?_)
            refine wpAnyH_take (i := 0) (v := ?dv0) rfl (by kernel_rfl) (by kernel_rfl) (by kernel_rfl) (fun _ _ _ h => h) (Or.inl ⟨by rfl, ?dy0⟩) (by assumption) ?dr0
            case dy0 => (intro w hSw; (try dsimp only at hSw); go_simp; try with_reducible rfl)
            try simp only [Act.put, List.getElem_toArray, List.getElem_cons_succ, List.getElem_cons_zero, List.setIfInBounds_toArray, List.set_cons_zero, List.set_cons_succ]
            refine wpAnyH_take (i := 1) (v := ?dv1) rfl (by kernel_rfl) (by kernel_rfl) (by kernel_rfl) (fun _ _ _ h => h) (Or.inl ⟨by rfl, ?dy1⟩) (by assumption) ?dr1
            case dy1 => (intro w hSw; (try dsimp only at hSw); go_simp; try with_reducible rfl)
            try simp only [Act.put, List.getElem_toArray, List.getElem_cons_succ, List.getElem_cons_zero, List.setIfInBounds_toArray, List.set_cons_zero, List.set_cons_succ]
            refine wpAnyH_take (i := 2) (v := ?dv2) rfl (by kernel_rfl) (by kernel_rfl) (by kernel_rfl) (fun _ _ _ h => h) (Or.inl ⟨by rfl, ?dy2⟩) (by assumption) ?dr2
            case dy2 => (intro w hSw; (try dsimp only at hSw); go_simp; try with_reducible rfl)
            try simp only [Act.put, List.getElem_toArray, List.getElem_cons_succ, List.getElem_cons_zero, List.setIfInBounds_toArray, List.set_cons_zero, List.set_cons_succ]
            refine wpAnyH_take (i := 3) (v := ?dv3) rfl (by kernel_rfl) (by kernel_rfl) (by kernel_rfl) (fun _ _ _ h => h) (Or.inl ⟨by rfl, ?dy3⟩) (by assumption) ?dr3
            case dy3 => (intro w hSw; (try dsimp only at hSw); go_simp; try with_reducible rfl)
            try simp only [Act.put, List.getElem_toArray, List.getElem_cons_succ, List.getElem_cons_zero, List.setIfInBounds_toArray, List.set_cons_zero, List.set_cons_succ]
            refine wpAnyH_take (i := 4) (v := ?dv4) rfl (by kernel_rfl) (by kernel_rfl) (by kernel_rfl) (fun _ _ _ h => h) (Or.inl ⟨by rfl, ?dy4⟩) (by assumption) ?dr4
            case dy4 => (intro w hSw; (try dsimp only at hSw); go_simp; try with_reducible rfl)
            try simp only [Act.put, List.getElem_toArray, List.getElem_cons_succ, List.getElem_cons_zero, List.setIfInBounds_toArray, List.set_cons_zero, List.set_cons_succ]
            refine wpAnyH_take (i := 5) (v := ?dv5) rfl (by kernel_rfl) (by kernel_rfl) (by kernel_rfl) (fun _ _ _ h => h) (Or.inl ⟨by rfl, ?dy5⟩) (by assumption) ?dr5
            case dy5 => (intro w hSw; (try dsimp only at hSw); go_simp; try with_reducible rfl)
            try simp only [Act.put, List.getElem_toArray, List.getElem_cons_succ, List.getElem_cons_zero, List.setIfInBounds_toArray, List.set_cons_zero, List.set_cons_succ]
            refine wpAnyH_take (i := 6) (v := ?dv6) rfl (by kernel_rfl) (by kernel_rfl) (by kernel_rfl) (fun _ _ _ h => h) (Or.inl ⟨by rfl, ?dy6⟩) (by assumption) ?dr6
            case dy6 => (intro w hSw; (try dsimp only at hSw); go_simp; try with_reducible rfl)
            try simp only [Act.put, List.getElem_toArray, List.getElem_cons_succ, List.getElem_cons_zero, List.setIfInBounds_toArray, List.set_cons_zero, List.set_cons_succ]
            refine wpAnyH_take (i := 7) (v := ?dv7) rfl (by kernel_rfl) (by kernel_rfl) (by kernel_rfl) (fun _ _ _ h => h) (Or.inl ⟨by rfl, ?dy7⟩) (by assumption) ?dr7
            case dy7 => (intro w hSw; (try dsimp only at hSw); go_simp; try with_reducible rfl)
            try simp only [Act.put, List.getElem_toArray, List.getElem_cons_succ, List.getElem_cons_zero, List.setIfInBounds_toArray, List.set_cons_zero, List.set_cons_succ]
            refine wpAnyH_take (i := 8) (v := ?dv8) rfl (by kernel_rfl) (by kernel_rfl) (by kernel_rfl) (fun _ _ _ h => h) (Or.inl ⟨by rfl, ?dy8⟩) (by assumption) ?dr8
            case dy8 => (intro w hSw; (try dsimp only at hSw); go_simp; try with_reducible rfl)
            try simp only [Act.put, List.getElem_toArray, List.getElem_cons_succ, List.getElem_cons_zero, List.setIfInBounds_toArray, List.set_cons_zero, List.set_cons_succ]
            refine wpAnyH_take (i := 9) (v := ?dv9) rfl (by kernel_rfl) (by kernel_rfl) (by kernel_rfl) (fun _ _ _ h => h) (Or.inl ⟨by rfl, ?dy9⟩) (by assumption) ?dr9
            case dy9 => (intro w hSw; (try dsimp only at hSw); go_simp; try with_reducible rfl)
            try simp only [Act.put, List.getElem_toArray, List.getElem_cons_succ, List.getElem_cons_zero, List.setIfInBounds_toArray, List.set_cons_zero, List.set_cons_succ]
            refine wpAnyH_take (i := 10) (v := ?dv10) rfl (by kernel_rfl) (by kernel_rfl) (by kernel_rfl) (fun _ _ _ h => h) (Or.inl ⟨by rfl, ?dy10⟩) (by assumption) ?dr10
            case dy10 => (intro w hSw; (try dsimp only at hSw); go_simp; try with_reducible rfl)
            try simp only [Act.put, List.getElem_toArray, List.getElem_cons_succ, List.getElem_cons_zero, List.setIfInBounds_toArray, List.set_cons_zero, List.set_cons_succ]
            refine wpAnyH_take (i := 12) (v := ?dv12) rfl (by kernel_rfl) (by kernel_rfl) (by kernel_rfl) (fun _ _ _ h => h) (Or.inl ⟨by rfl, ?dy12⟩) (by assumption) ?dr12
            case dy12 => (intro w hSw; (try dsimp only at hSw); go_simp; try with_reducible rfl)
            try simp only [Act.put, List.getElem_toArray, List.getElem_cons_succ, List.getElem_cons_zero, List.setIfInBounds_toArray, List.set_cons_zero, List.set_cons_succ]
            refine wpAnyH_take (i := 13) (v := ?dv13) rfl (by kernel_rfl) (by kernel_rfl) (by kernel_rfl) (fun _ _ _ h => h) (Or.inl ⟨by rfl, ?dy13⟩) (by assumption) ?dr13
            case dy13 => (intro w hSw; (try dsimp only at hSw); go_simp; try with_reducible rfl)
            try simp only [Act.put, List.getElem_toArray, List.getElem_cons_succ, List.getElem_cons_zero, List.setIfInBounds_toArray, List.set_cons_zero, List.set_cons_succ]
            refine wpAnyH_take (i := 14) (v := ?dv14) rfl (by kernel_rfl) (by kernel_rfl) (by kernel_rfl) (fun _ _ _ h => h) (Or.inl ⟨by rfl, ?dy14⟩) (by assumption) ?dr14
            case dy14 => (intro w hSw; (try dsimp only at hSw); go_simp; try with_reducible rfl)
            try simp only [Act.put, List.getElem_toArray, List.getElem_cons_succ, List.getElem_cons_zero, List.setIfInBounds_toArray, List.set_cons_zero, List.set_cons_succ]
            refine wpAnyH_take (i := 15) (v := ?dv15) rfl (by kernel_rfl) (by kernel_rfl) (by kernel_rfl) (fun _ _ _ h => h) (Or.inl ⟨by rfl, ?dy15⟩) (by assumption) ?dr15
            case dy15 => (intro w hSw; (try dsimp only at hSw); go_simp; try with_reducible rfl)
            try simp only [Act.put, List.getElem_toArray, List.getElem_cons_succ, List.getElem_cons_zero, List.setIfInBounds_toArray, List.set_cons_zero, List.set_cons_succ]
            refine wpAnyH_take (i := 16) (v := ?dv16) rfl (by kernel_rfl) (by kernel_rfl) (by kernel_rfl) (fun _ _ _ h => h) (Or.inl ⟨by rfl, ?dy16⟩) (by assumption) ?dr16
            case dy16 => (intro w hSw; (try dsimp only at hSw); go_simp; try with_reducible rfl)
            try simp only [Act.put, List.getElem_toArray, List.getElem_cons_succ, List.getElem_cons_zero, List.setIfInBounds_toArray, List.set_cons_zero, List.set_cons_succ]
            refine wpAnyH_ready (rs := [11]) (by kernel_rfl) (by simp) ?_
            refine AllReadyH.cons rfl (fun K hK => ?_) AllReadyH.nil
            go_simp
            refine hK.out _ _ ⟨d0, k1, k3⟩ (fun hHeld => ?_)
            clear hK K
            try simp only [Act.put, List.getElem_toArray, List.getElem_cons_succ, List.getElem_cons_zero, List.setIfInBounds_toArray, List.set_cons_zero, List.set_cons_succ]
            refine wpAnyH_ready (rs := [17]) (by kernel_rfl) (by simp) ?_
            refine AllReadyH.cons rfl (fun K hK => ?_) AllReadyH.nil
            go_simp
            go_at_call 19
            refine (C3.out _ (held_start wr)).mono ?_
            rintro e w4 ⟨A4, n4, c4, rfl, ho4, hg4, hb4⟩
            have e0 := held_cell hb4 d0
            have e4 := held_cell hb4 d2
            have g1 := held_cell hb4 k1
            have g3 := held_cell hb4 k3
            have f4 := (HX.out.row.below hb4 HX.out.row.lt).frozen i
            have HZ := Lib.hid (turn_lay HX.out hi2 HTU.out hb4 ho4 hg4 HRN.out)
            refine hK.out _ _ ⟨e0, g1, g3⟩ (fun hHeld => ?_)
            clear ho4 hg4 hb4 hK K
            try simp only [Act.put, List.getElem_toArray, List.getElem_cons_succ, List.getElem_cons_zero, List.setIfInBounds_toArray, List.set_cons_zero, List.set_cons_succ]
            refine wpAnyH_take (i := 18) (v := ?dzv18) rfl (by kernel_rfl) (by kernel_rfl) (by kernel_rfl) (fun _ _ _ h => h) (Or.inl ⟨by rfl, ?dzy18⟩) (by assumption) ?dzr18
            case dzy18 => (intro w hSw; (try dsimp only at hSw); go_simp; try with_reducible rfl)
            try simp only [Act.put, List.getElem_toArray, List.getElem_cons_succ, List.getElem_cons_zero, List.setIfInBounds_toArray, List.set_cons_zero, List.set_cons_succ]
            refine wpAnyH_take (i := 19) (v := ?dzv19) rfl (by kernel_rfl) (by kernel_rfl) (by kernel_rfl) (fun _ _ _ h => h) (Or.inl ⟨by rfl, ?dzy19⟩) (by assumption) ?dzr19
            case dzy19 => (intro w hSw; (try dsimp only at hSw); go_simp; try with_reducible rfl)
            try simp only [Act.put, List.getElem_toArray, List.getElem_cons_succ, List.getElem_cons_zero, List.setIfInBounds_toArray, List.set_cons_zero, List.set_cons_succ]
            refine wpAnyH_take (i := 20) (v := ?dzv20) rfl (by kernel_rfl) (by kernel_rfl) (by kernel_rfl) (fun _ _ _ h => h) (Or.inl ⟨by rfl, ?dzy20⟩) (by assumption) ?dzr20
            case dzy20 => (intro w hSw; (try dsimp only at hSw); go_simp; try with_reducible rfl)
            try simp only [Act.put, List.getElem_toArray, List.getElem_cons_succ, List.getElem_cons_zero, List.setIfInBounds_toArray, List.set_cons_zero, List.set_cons_succ]
            refine wpAnyH_take (i := 21) (v := ?dzv21) rfl (by kernel_rfl) (by kernel_rfl) (by kernel_rfl) (fun _ _ _ h => h) (Or.inl ⟨by rfl, ?dzy21⟩) (by assumption) ?dzr21
            case dzy21 => (intro w hSw; (try dsimp only at hSw); go_simp; try with_reducible rfl)
            try simp only [Act.put, List.getElem_toArray, List.getElem_cons_succ, List.getElem_cons_zero, List.setIfInBounds_toArray, List.set_cons_zero, List.set_cons_succ]
            refine wpAnyH_ready (rs := [22]) (by kernel_rfl) (by simp) ?_
            refine AllReadyH.cons rfl (fun K hK => ?_) AllReadyH.nil
            go_simp
            refine hK.out _ _ ⟨(World.cell?_setCell_far w4 ⟨bb, i, none⟩ ⟨p, 0, none⟩ _ (Ne.symm hpne)).trans e0, (World.cell?_setCell_far w4 ⟨bb, i, none⟩ ⟨b, off + j * 4 + 1, none⟩ _ (Ne.symm hbne)).trans g1, (World.cell?_setCell_far w4 ⟨bb, i, none⟩ ⟨b, off + j * 4 + 3, none⟩ _ (Ne.symm hbne)).trans g3⟩ (fun hHeld => ?_)
            clear hK K
            try simp only [Act.put, List.getElem_toArray, List.getElem_cons_succ, List.getElem_cons_zero, List.setIfInBounds_toArray, List.set_cons_zero, List.set_cons_succ]
            refine wpAnyH_done (by kernel_rfl) ?_ _
            go_wp2
            go_roundw
            case rel => exact ⟨j + 1, by go_num, by omega, by rw [HTN.out]; exact HZ.out.1, by rw [HTN.out]; exact HMO.out, HZ.out.2⟩
            case measure => simp [intOf]; omega
          | false =>
            have C3 : Hid (∀ wx, Below wr.heap.size wr wx → Calls Try.prog 20 #[.slice A5 n5 c5, .int .i64 fk, .string fv] wx (Came (Out R w wr) wr (put l0 fk fv) (!there l0 fk))) := fun wx hb => came_put hb (Rz.of_own (own_keep HO0.out hb)) hs0
            have HRN := Lib.hid (HR0.out.put fk fv)
            generalize (!there l0 fk) = tb at C3
            go_upto_region 12 with fail
            have k1 : wr.cell? ⟨b, off + j * 4 + 1, none⟩ = some (.int .i64 fk) := by simpa [Nat.add_assoc] using c1
            have k3 : wr.cell? ⟨b, off + j * 4 + 3, none⟩ = some (.string fv) := by simpa [Nat.add_assoc] using c3
            have hbne : b ≠ bb := ref_apart HX.out k1
            have hpne : p ≠ bb := HX.out.pne
            refine Go.wp_region_held_drew (S := fun w' => w'.cell? ⟨p, 0, none⟩ = some (.slice (some ⟨bb, 0, none⟩) TT.length TT.length) ∧ w'.cell? ⟨b, off + j * 4 + 1, none⟩ = some (.int .i64 fk) ∧ w'.cell? ⟨b, off + j * 4 + 3, none⟩ = some (.string fv)) (by kernel_rfl) ⟨d0, k1, k3⟩ (fun hHeld => ?_)
            refine wpAnyH_take (i := 0) (v := ?ev0) rfl (by kernel_rfl) (by kernel_rfl) (by kernel_rfl) (fun _ _ _ h => h) (Or.inl ⟨by rfl, ?ey0⟩) (by assumption) ?er0
            case ey0 => (intro w hSw; (try dsimp only at hSw); go_simp; try with_reducible rfl)
            try simp only [Act.put, List.getElem_toArray, List.getElem_cons_succ, List.getElem_cons_zero, List.setIfInBounds_toArray, List.set_cons_zero, List.set_cons_succ]
            refine wpAnyH_take (i := 1) (v := ?ev1) rfl (by kernel_rfl) (by kernel_rfl) (by kernel_rfl) (fun _ _ _ h => h) (Or.inl ⟨by rfl, ?ey1⟩) (by assumption) ?er1
            case ey1 => (intro w hSw; (try dsimp only at hSw); go_simp; try with_reducible rfl)
            try simp only [Act.put, List.getElem_toArray, List.getElem_cons_succ, List.getElem_cons_zero, List.setIfInBounds_toArray, List.set_cons_zero, List.set_cons_succ]
            refine wpAnyH_take (i := 2) (v := ?ev2) rfl (by kernel_rfl) (by kernel_rfl) (by kernel_rfl) (fun _ _ _ h => h) (Or.inl ⟨by rfl, ?ey2⟩) (by assumption) ?er2
            case ey2 => (intro w hSw; (try dsimp only at hSw); go_simp; try with_reducible rfl)
            try simp only [Act.put, List.getElem_toArray, List.getElem_cons_succ, List.getElem_cons_zero, List.setIfInBounds_toArray, List.set_cons_zero, List.set_cons_succ]
            refine wpAnyH_take (i := 3) (v := ?ev3) rfl (by kernel_rfl) (by kernel_rfl) (by kernel_rfl) (fun _ _ _ h => h) (Or.inl ⟨by rfl, ?ey3⟩) (by assumption) ?er3
            case ey3 => (intro w hSw; (try dsimp only at hSw); go_simp; try with_reducible rfl)
            try simp only [Act.put, List.getElem_toArray, List.getElem_cons_succ, List.getElem_cons_zero, List.setIfInBounds_toArray, List.set_cons_zero, List.set_cons_succ]
            refine wpAnyH_take (i := 4) (v := ?ev4) rfl (by kernel_rfl) (by kernel_rfl) (by kernel_rfl) (fun _ _ _ h => h) (Or.inl ⟨by rfl, ?ey4⟩) (by assumption) ?er4
            case ey4 => (intro w hSw; (try dsimp only at hSw); go_simp; try with_reducible rfl)
            try simp only [Act.put, List.getElem_toArray, List.getElem_cons_succ, List.getElem_cons_zero, List.setIfInBounds_toArray, List.set_cons_zero, List.set_cons_succ]
            refine wpAnyH_take (i := 5) (v := ?ev5) rfl (by kernel_rfl) (by kernel_rfl) (by kernel_rfl) (fun _ _ _ h => h) (Or.inl ⟨by rfl, ?ey5⟩) (by assumption) ?er5
            case ey5 => (intro w hSw; (try dsimp only at hSw); go_simp; try with_reducible rfl)
            try simp only [Act.put, List.getElem_toArray, List.getElem_cons_succ, List.getElem_cons_zero, List.setIfInBounds_toArray, List.set_cons_zero, List.set_cons_succ]
            refine wpAnyH_take (i := 6) (v := ?ev6) rfl (by kernel_rfl) (by kernel_rfl) (by kernel_rfl) (fun _ _ _ h => h) (Or.inl ⟨by rfl, ?ey6⟩) (by assumption) ?er6
            case ey6 => (intro w hSw; (try dsimp only at hSw); go_simp; try with_reducible rfl)
            try simp only [Act.put, List.getElem_toArray, List.getElem_cons_succ, List.getElem_cons_zero, List.setIfInBounds_toArray, List.set_cons_zero, List.set_cons_succ]
            refine wpAnyH_take (i := 7) (v := ?ev7) rfl (by kernel_rfl) (by kernel_rfl) (by kernel_rfl) (fun _ _ _ h => h) (Or.inl ⟨by rfl, ?ey7⟩) (by assumption) ?er7
            case ey7 => (intro w hSw; (try dsimp only at hSw); go_simp; try with_reducible rfl)
            try simp only [Act.put, List.getElem_toArray, List.getElem_cons_succ, List.getElem_cons_zero, List.setIfInBounds_toArray, List.set_cons_zero, List.set_cons_succ]
            refine wpAnyH_take (i := 8) (v := ?ev8) rfl (by kernel_rfl) (by kernel_rfl) (by kernel_rfl) (fun _ _ _ h => h) (Or.inl ⟨by rfl, ?ey8⟩) (by assumption) ?er8
            case ey8 => (intro w hSw; (try dsimp only at hSw); go_simp; try with_reducible rfl)
            try simp only [Act.put, List.getElem_toArray, List.getElem_cons_succ, List.getElem_cons_zero, List.setIfInBounds_toArray, List.set_cons_zero, List.set_cons_succ]
            refine wpAnyH_take (i := 9) (v := ?ev9) rfl (by kernel_rfl) (by kernel_rfl) (by kernel_rfl) (fun _ _ _ h => h) (Or.inl ⟨by rfl, ?ey9⟩) (by assumption) ?er9
            case ey9 => (intro w hSw; (try dsimp only at hSw); go_simp; try with_reducible rfl)
            try simp only [Act.put, List.getElem_toArray, List.getElem_cons_succ, List.getElem_cons_zero, List.setIfInBounds_toArray, List.set_cons_zero, List.set_cons_succ]
            refine wpAnyH_take (i := 10) (v := ?ev10) rfl (by kernel_rfl) (by kernel_rfl) (by kernel_rfl) (fun _ _ _ h => h) (Or.inl ⟨by rfl, ?ey10⟩) (by assumption) ?er10
            case ey10 => (intro w hSw; (try dsimp only at hSw); go_simp; try with_reducible rfl)
            try simp only [Act.put, List.getElem_toArray, List.getElem_cons_succ, List.getElem_cons_zero, List.setIfInBounds_toArray, List.set_cons_zero, List.set_cons_succ]
            refine wpAnyH_take (i := 12) (v := ?ev12) rfl (by kernel_rfl) (by kernel_rfl) (by kernel_rfl) (fun _ _ _ h => h) (Or.inl ⟨by rfl, ?ey12⟩) (by assumption) ?er12
            case ey12 => (intro w hSw; (try dsimp only at hSw); go_simp; try with_reducible rfl)
            try simp only [Act.put, List.getElem_toArray, List.getElem_cons_succ, List.getElem_cons_zero, List.setIfInBounds_toArray, List.set_cons_zero, List.set_cons_succ]
            refine wpAnyH_take (i := 13) (v := ?ev13) rfl (by kernel_rfl) (by kernel_rfl) (by kernel_rfl) (fun _ _ _ h => h) (Or.inl ⟨by rfl, ?ey13⟩) (by assumption) ?er13
            case ey13 => (intro w hSw; (try dsimp only at hSw); go_simp; try with_reducible rfl)
            try simp only [Act.put, List.getElem_toArray, List.getElem_cons_succ, List.getElem_cons_zero, List.setIfInBounds_toArray, List.set_cons_zero, List.set_cons_succ]
            refine wpAnyH_take (i := 14) (v := ?ev14) rfl (by kernel_rfl) (by kernel_rfl) (by kernel_rfl) (fun _ _ _ h => h) (Or.inl ⟨by rfl, ?ey14⟩) (by assumption) ?er14
            case ey14 => (intro w hSw; (try dsimp only at hSw); go_simp; try with_reducible rfl)
            try simp only [Act.put, List.getElem_toArray, List.getElem_cons_succ, List.getElem_cons_zero, List.setIfInBounds_toArray, List.set_cons_zero, List.set_cons_succ]
            refine wpAnyH_take (i := 15) (v := ?ev15) rfl (by kernel_rfl) (by kernel_rfl) (by kernel_rfl) (fun _ _ _ h => h) (Or.inl ⟨by rfl, ?ey15⟩) (by assumption) ?er15
            case ey15 => (intro w hSw; (try dsimp only at hSw); go_simp; try with_reducible rfl)
            try simp only [Act.put, List.getElem_toArray, List.getElem_cons_succ, List.getElem_cons_zero, List.setIfInBounds_toArray, List.set_cons_zero, List.set_cons_succ]
            refine wpAnyH_take (i := 16) (v := ?ev16) rfl (by kernel_rfl) (by kernel_rfl) (by kernel_rfl) (fun _ _ _ h => h) (Or.inl ⟨by rfl, ?ey16⟩) (by assumption) ?er16
            case ey16 => (intro w hSw; (try dsimp only at hSw); go_simp; try with_reducible rfl)
            try simp only [Act.put, List.getElem_toArray, List.getElem_cons_succ, List.getElem_cons_zero, List.setIfInBounds_toArray, List.set_cons_zero, List.set_cons_succ]
            refine wpAnyH_take (i := 17) (v := ?ev17) rfl (by kernel_rfl) (by kernel_rfl) (by kernel_rfl) (fun _ _ _ h => h) (Or.inl ⟨by rfl, ?ey17⟩) (by assumption) ?er17
            case ey17 => (intro w hSw; (try dsimp only at hSw); go_simp; try with_reducible rfl)
            try simp only [Act.put, List.getElem_toArray, List.getElem_cons_succ, List.getElem_cons_zero, List.setIfInBounds_toArray, List.set_cons_zero, List.set_cons_succ]
            refine wpAnyH_take (i := 18) (v := ?ev18) rfl (by kernel_rfl) (by kernel_rfl) (by kernel_rfl) (fun _ _ _ h => h) (Or.inl ⟨by rfl, ?ey18⟩) (by assumption) ?er18
            case ey18 => (intro w hSw; (try dsimp only at hSw); go_simp; try with_reducible rfl)
            try simp only [Act.put, List.getElem_toArray, List.getElem_cons_succ, List.getElem_cons_zero, List.setIfInBounds_toArray, List.set_cons_zero, List.set_cons_succ]
            refine wpAnyH_take (i := 19) (v := ?ev19) rfl (by kernel_rfl) (by kernel_rfl) (by kernel_rfl) (fun _ _ _ h => h) (Or.inl ⟨by rfl, ?ey19⟩) (by assumption) ?er19
            case ey19 => (intro w hSw; (try dsimp only at hSw); go_simp; try with_reducible rfl)
            try simp only [Act.put, List.getElem_toArray, List.getElem_cons_succ, List.getElem_cons_zero, List.setIfInBounds_toArray, List.set_cons_zero, List.set_cons_succ]
            refine wpAnyH_take (i := 20) (v := ?ev20) rfl (by kernel_rfl) (by kernel_rfl) (by kernel_rfl) (fun _ _ _ h => h) (Or.inl ⟨by rfl, ?ey20⟩) (by assumption) ?er20
            case ey20 => (intro w hSw; (try dsimp only at hSw); go_simp; try with_reducible rfl)
            try simp only [Act.put, List.getElem_toArray, List.getElem_cons_succ, List.getElem_cons_zero, List.setIfInBounds_toArray, List.set_cons_zero, List.set_cons_succ]
            refine wpAnyH_take (i := 21) (v := ?ev21) rfl (by kernel_rfl) (by kernel_rfl) (by kernel_rfl) (fun _ _ _ h => h) (Or.inl ⟨by rfl, ?ey21⟩) (by assumption) ?er21
            case ey21 => (intro w hSw; (try dsimp only at hSw); go_simp; try with_reducible rfl)
            try simp only [Act.put, List.getElem_toArray, List.getElem_cons_succ, List.getElem_cons_zero, List.setIfInBounds_toArray, List.set_cons_zero, List.set_cons_succ]
            refine wpAnyH_ready (rs := [11]) (by kernel_rfl) (by simp) ?_
            refine AllReadyH.cons rfl (fun K hK => ?_) AllReadyH.nil
            go_simp
            refine hK.out _ _ ⟨d0, k1, k3⟩ (fun hHeld => ?_)
            clear hK K
            try simp only [Act.put, List.getElem_toArray, List.getElem_cons_succ, List.getElem_cons_zero, List.setIfInBounds_toArray, List.set_cons_zero, List.set_cons_succ]
            refine wpAnyH_ready (rs := [22]) (by kernel_rfl) (by simp) ?_
            refine AllReadyH.cons rfl (fun K hK => ?_) AllReadyH.nil
            go_simp
            go_at_call 20
            refine (C3.out _ (held_start wr)).mono ?_
            rintro e w4 ⟨A4, n4, c4, rfl, ho4, hg4, hb4⟩
            have e0 := held_cell hb4 d0
            have e4 := held_cell hb4 d2
            have g1 := held_cell hb4 k1
            have g3 := held_cell hb4 k3
            have f4 := (HX.out.row.below hb4 HX.out.row.lt).frozen i
            have HZ := Lib.hid (turn_lay HX.out hi2 HTU.out hb4 ho4 hg4 HRN.out)
            refine hK.out _ _ ⟨e0, g1, g3⟩ (fun hHeld => ?_)
            clear ho4 hg4 hb4 hK K
            try simp only [Act.put, List.getElem_toArray, List.getElem_cons_succ, List.getElem_cons_zero, List.setIfInBounds_toArray, List.set_cons_zero, List.set_cons_succ]
            refine wpAnyH_take (i := 23) (v := ?ezv23) rfl (by kernel_rfl) (by kernel_rfl) (by kernel_rfl) (fun _ _ _ h => h) (Or.inl ⟨by rfl, ?ezy23⟩) (by assumption) ?ezr23
            case ezy23 => (intro w hSw; (try dsimp only at hSw); go_simp; try with_reducible rfl)
            try simp only [Act.put, List.getElem_toArray, List.getElem_cons_succ, List.getElem_cons_zero, List.setIfInBounds_toArray, List.set_cons_zero, List.set_cons_succ]
            refine wpAnyH_take (i := 24) (v := ?ezv24) rfl (by kernel_rfl) (by kernel_rfl) (by kernel_rfl) (fun _ _ _ h => h) (Or.inl ⟨by rfl, ?ezy24⟩) (by assumption) ?ezr24
            case ezy24 => (intro w hSw; (try dsimp only at hSw); go_simp; try with_reducible rfl)
            try simp only [Act.put, List.getElem_toArray, List.getElem_cons_succ, List.getElem_cons_zero, List.setIfInBounds_toArray, List.set_cons_zero, List.set_cons_succ]
            refine wpAnyH_take (i := 25) (v := ?ezv25) rfl (by kernel_rfl) (by kernel_rfl) (by kernel_rfl) (fun _ _ _ h => h) (Or.inl ⟨by rfl, ?ezy25⟩) (by assumption) ?ezr25
            case ezy25 => (intro w hSw; (try dsimp only at hSw); go_simp; try with_reducible rfl)
            try simp only [Act.put, List.getElem_toArray, List.getElem_cons_succ, List.getElem_cons_zero, List.setIfInBounds_toArray, List.set_cons_zero, List.set_cons_succ]
            refine wpAnyH_take (i := 26) (v := ?ezv26) rfl (by kernel_rfl) (by kernel_rfl) (by kernel_rfl) (fun _ _ _ h => h) (Or.inl ⟨by rfl, ?ezy26⟩) (by assumption) ?ezr26
            case ezy26 => (intro w hSw; (try dsimp only at hSw); go_simp; try with_reducible rfl)
            try simp only [Act.put, List.getElem_toArray, List.getElem_cons_succ, List.getElem_cons_zero, List.setIfInBounds_toArray, List.set_cons_zero, List.set_cons_succ]
            refine wpAnyH_ready (rs := [27]) (by kernel_rfl) (by simp) ?_
            refine AllReadyH.cons rfl (fun K hK => ?_) AllReadyH.nil
            go_simp
            refine hK.out _ _ ⟨(World.cell?_setCell_far w4 ⟨bb, i, none⟩ ⟨p, 0, none⟩ _ (Ne.symm hpne)).trans e0, (World.cell?_setCell_far w4 ⟨bb, i, none⟩ ⟨b, off + j * 4 + 1, none⟩ _ (Ne.symm hbne)).trans g1, (World.cell?_setCell_far w4 ⟨bb, i, none⟩ ⟨b, off + j * 4 + 3, none⟩ _ (Ne.symm hbne)).trans g3⟩ (fun hHeld => ?_)
            clear hK K
            try simp only [Act.put, List.getElem_toArray, List.getElem_cons_succ, List.getElem_cons_zero, List.setIfInBounds_toArray, List.set_cons_zero, List.set_cons_succ]
            refine wpAnyH_done (by kernel_rfl) ?_ _
            go_wp2
            go_roundw
            case rel => exact ⟨j + 1, by go_num, by omega, by rw [HTN.out]; exact HZ.out.1, by rw [HTN.out]; exact HMO.out, HZ.out.2⟩
            case measure => simp [intOf]; omega
        · have HN : Hid (doAll T (l.take j) = doAll T l) := by show _ = _; rw [List.take_of_length_le (by rw [HLEN.out]; omega)]
          have HW := Lib.hid hset
          have HTU := Lib.hid hturn
          have l2 : ¬ (j : Int) < (n : Int) := by omega
          clear hset hturn hmost
          go_wp2
          go_ret
          rw [HT.out]
          refine ⟨rfl, ?_, HTU.out⟩
          unfold appl
          rw [HT.out, if_pos rfl, ← HN.out]
          exact HW.out
end Go.Proofs.Ytlgdbpejefgeaaa.Tbl
