/-
  SourceKeeps: behind a crash at any operation, with whatever is left, each transaction that was told is there, or was trimmed, the tables are what all of them come to, and of what was on the way at most one is more; the law answers true and writes nothing that was there. No condition.
-/
import Derived.Test.YtefnmnpfecfdaaaGreatPk44
import Derived.Deep.CutBlock
import Derived.ShutString
set_option linter.all false
set_option maxRecDepth 100000
set_option maxHeartbeats 25600000
open Go.Lib (hid)
namespace Go.Proofs.YtefnmnpfecfdaaaGreat
namespace Tbl
open Go.RowKit Base IdxMath Foot Idx
open PChg (Cs)
open Last (wp_region_last_at then_normal)
def RefTurned (w : World) (R : Nat -> Prop) (p : Nat) (b : Bool) (T : List (List Rw)) (e : Ending) (w' : World) : Prop := e = .returned (.bool b) /\ RAt w' (Out R w w') p T /\ Turn R w w'
def Came (R : Nat -> Prop) (w : World) (l : List Rw) (b : Bool) (e : Ending) (w' : World) : Prop := ∃ A n c,e = .returned (.tuple #[.slice A n c,.bool b]) /\ w'.ownsRow 0 52 2 (.slice A n c) n (rv l) /\ (∀ g,(Value.slice A n c).ownBlock = some g -> Out R w w' g) /\ Below w.heap.size w w'
section
variable {R : Nat -> Prop} {w wx : World} {A : Option Addr} {n c : Nat} {l : List Rw} {k : Int} {v : ByteArray}
theorem out_new {w' w1 : World} (hw : w.heap.size <= w1.heap.size) {A : Option Addr} {n c m : Nat} {l : List Rw} (ho : w'.ownsRow w1.heap.size 52 2 (.slice A n c) m (rv l)) : ∀ g,(Value.slice A n c).ownBlock = some g -> Out R w w' g := fun g hg => .inr (by
 have := ho.lt g hg
 omega)
theorem came_put (hb : Below w.heap.size w wx) (h : Rz wx wx.heap.size A n c l) (hsz : n <= 1099511627774) :
 Calls Tryz.prog 126 #[.slice A n c,.int .i64 k,.string v] wx (Came R w (put l k v) (!there l k)) := by
 refine (refput_any wx.heap.size A n c l k v wx h (Nat.le_refl _) hsz).mono ?_
 rintro e w' ⟨A',c',rfl,ho,hb'⟩
 exact ⟨A',_,c',rfl,own_mono ho (Nat.zero_le _),out_new hb.size ho,held_two hb hb'⟩
theorem came_del (hb : Below w.heap.size w wx) (h : wx.ownsRow 0 52 2 (.slice A n c) n (rv l)) (hg : ∀ g,(Value.slice A n c).ownBlock = some g -> R g) (hr : Rise l) (hsz : n <= 1099511627774) :
 Calls Tryz.prog 125 #[.slice A n c,.int .i64 k] wx (Came R w (del l k) (there l k)) := by
 refine (refdel_any wx.heap.size A n c l k wx (Rs.of_own h) (Nat.le_refl _) hr hsz).mono ?_
 rintro e w' (⟨ht,A',c',rfl,ho,hb'⟩ | ⟨ht,rfl,rfl⟩)
 ·rw [ht]
  exact ⟨A',_,c',rfl,own_mono ho (Nat.zero_le _),out_new hb.size ho,held_two hb hb'⟩
 ·rw [ht]
  have hd : del l k = l := by unfold IdxMath.del; rw [if_neg (by rw [ht]; simp)]
  rw [hd]
  exact ⟨A,n,c,rfl,h,fun g hx => .inl (hg g hx),hb⟩
end
theorem allT_end {T : List (List Rw)} {l : List Cg} {k : Nat} (hl : l.length <= k) (h : allT T (l.take k) = true) : allT T l = true := by rwa [List.take_of_length_le hl] at h
theorem allT_step {T : List (List Rw)} {l : List Cg} {k : Nat} {f : Cg} (h : allT T (l.take k) = true) (e : l.take (k + 1) = l.take k ++ [f]) (hf : isT T f.tbl = true) : allT T (l.take (k + 1)) = true := by rw [e,allT_snoc,h,hf]; rfl
theorem turn_lay {w wr w2 : World} {R : Nat -> Prop} {p b i : Nat} {cs : Array Value} {T : List (List Rw)} (h : RLie wr (Out R w wr) p b cs T) (hi : i < T.length) (ht : Turn R w wr) (hb : Below wr.heap.size wr w2) {A : Option Addr} {n c : Nat} {l : List Rw} (ho : w2.ownsRow 0 52 2 (.slice A n c) n (rv l)) (hg : ∀ g,(Value.slice A n c).ownBlock = some g -> Out (Out R w wr) wr w2 g) (hr : Rise l) :
 RAt (w2.setCell ⟨b,i,none⟩ (.slice A n c)) (Out R w (w2.setCell ⟨b,i,none⟩ (.slice A n c))) p (T.set i l) /\ Turn R w (w2.setCell ⟨b,i,none⟩ (.slice A n c)) := by
 have hsz : (w2.setCell ⟨b,i,none⟩ (.slice A n c)).heap.size = w2.heap.size := by simp [World.setCell]
 refine ⟨⟨b,_,(h.lay hi hb ho hg hr).mono fun x _ hx => ?_⟩,?_⟩
 ·have := Out.two ht hx hb.size
  rcases this with h1 | h1
  ·exact .inl h1
  ·exact .inr ⟨h1.1,by rw [hsz]; exact h1.2⟩
 ·refine (ht.trans (Turn.new (F := fun _ => False) hb) fun _ hf => hf.elim).setCell ?_ _
  rcases h.inb with h1 | h1
  ·exact .inl h1
  ·exact .inr h1.1
theorem ref_apart {w : World} {R : Nat -> Prop} {p b : Nat} {cs : Array Value} {T : List (List Rw)} {b' off : Nat} {k : Int} (h : RLie w R p b cs T) (hc : w.cell? ⟨b',off,none⟩ = some (.int .i64 k)) : b' ≠ b := by
 rintro rfl
 rw [h.row.cell off] at hc
 have hlt : off < cs.size := by
  rcases Nat.lt_or_ge off cs.size with hh | hh
  ·exact hh
  ·rw [Array.getElem?_eq_none hh] at hc; cases hc
 obtain ⟨A,n,c,e,_⟩ := h.each off _ _ hc (List.getElem?_eq_getElem (by rw [<- h.len]; exact hlt))
 cases e
theorem RLie.pne {w : World} {R : Nat -> Prop} {p b : Nat} {cs : Array Value} {T : List (List Rw)} (h : RLie w R p b cs T) : p ≠ b := fun e => by
 have h3 := h.row
 have h4 := h.box
 unfold Blk at h3 h4
 rw [e,h3] at h4
 simp at h4
theorem refapply_any (R : Nat -> Prop) (p : Nat) (T : List (List Rw)) (M : Nat) (A : Option Addr) (n c : Nat) (l : List Cg) (w : World) (h : RAt w R p T) (hl : ∀ wr,Turn R w wr -> Cs wr wr.heap.size A n c l) (hM : Most T M) (hsz : M + n <= 1099511627774) :
 Calls Tryz.prog 57 #[.pointer (some ⟨p,0,none⟩),.slice A n c] w (RefTurned w R p (allT T l) (appl T l)) := by
 have HS := hid h
 have HC := hid hl
 have HLEN := hid (hl w (.refl _ _)).len
 have hle := (hl w (.refl _ _)).le
 have HM := hid hM
 clear h hl hM
 go_enter Tryz.func57,Tryz.ntmps57
 go_wp2
 go_loopw [5] (fun vi wr => ∃ k : Nat,vi = .int .i64 k /\ k <= n /\ w = wr /\ allT T (l.take k) = true) (fun vi _ => n - (RowKit.intOf vi).toNat)
 case atStart => exact ⟨0,rfl,Nat.zero_le _,rfl,rfl⟩
 case round =>
  obtain ⟨k,rfl,hk,rfl,hall⟩ := hrel
  have HA := hid hall
  clear hall
  by_cases hkn : k < n
  ·obtain ⟨b,off,f,rfl,hbB,c0,c1,c2,c3,hf,ht⟩ := (HC.out w (.refl _ _)).at_ hkn
   have HF := hid hf
   have HTK := hid ht
   have l1 : (k : Int) < (n : Int) := by omega
   clear hf ht
   go_wp2_with fail
   refine (refis_any R p T f.tbl w HS.out).mono ?_
   rintro e w1 ⟨rfl,rfl⟩
   cases hi : isT T f.tbl with
   | true =>
     have HN := hid (allT_step HA.out HTK.out hi)
     go_wp2
     go_roundw
     case rel => exact ⟨k + 1,by go_num,by omega,by first | trivial | rfl,HN.out⟩
     case measure => simp [RowKit.intOf]; omega
   | false =>
     have HN := hid (allT_not HF.out hi)
     go_wp2
     go_ret
     rw [HN.out]
     refine ⟨by first | trivial | rfl,?_,Turn.refl _ _⟩
     unfold appl
     rw [HN.out]
     exact HS.out.mono fun i _ hi => .inl hi
  ·have HT := hid (allT_end (k := k) (by rw [HLEN.out]; omega) HA.out)
   have l1 : ¬ (k : Int) < (n : Int) := by omega
   clear HA
   go_upto_region 7 with fail
   go_loopw [6,7] (fun vi _ wr => ∃ j : Nat,vi = .int .i64 j /\ j <= n /\ RAt wr (Out R w wr) p (doAll T (l.take j)) /\ Most (doAll T (l.take j)) (M + j) /\ Turn R w wr) (fun vi _ _ => n - (RowKit.intOf vi).toNat)
   case atStart => exact ⟨0,rfl,Nat.zero_le _,HS.out.mono fun i _ hi => .inl hi,HM.out,Turn.refl _ _⟩
   case round =>
    obtain ⟨j,rfl,hj,hset,hmost,hturn⟩ := hrel
    by_cases hjn : j < n
    ·obtain ⟨b,off,f,rfl,hbB,c0,c1,c2,c3,hf,ht⟩ := (HC.out wr hturn).at_ hjn
     have hft := allT_at HT.out hf
     obtain ⟨ft,fk,fg,fv⟩ := f
     dsimp only at c0 c1 c2 c3 hft
     obtain ⟨i,rfl,hi⟩ := isT_nat hft
     have hi2 : i < (doAll T (l.take j)).length := by rw [doAll_length]; exact hi
     have hnew : doAll T (l.take (j + 1)) = (doAll T (l.take j)).set i (one (tab (doAll T (l.take j)) (i : Int)) ⟨i,fk,fg,fv⟩) := by rw [ht,doAll_snoc,do1,Int.toNat_natCast]
     have hmost2 : Most (doAll T (l.take (j + 1))) (M + (j + 1)) := by
      rw [ht,doAll_snoc]
      exact hmost.do1 (by rw [isT_length (doAll_length _ _)]; exact hft)
     have hshort := hmost (i : Int)
     generalize hTT : doAll T (l.take j) = TT at *
     generalize hTN : doAll T (l.take (j + 1)) = TN at *
     have HTN := hid hTN
     clear hTN
     obtain ⟨bb,cs,hX⟩ := hset
     obtain ⟨A5,n5,c5,l0,e2,d2,ho0,hr0,hg0⟩ := hX.get hi2
     have d0 : wr.cell? ⟨p,0,none⟩ = some (.slice (some ⟨bb,0,none⟩) TT.length TT.length) := hX.box.cell 0
     have htab := tab_get hi2 e2
     rw [htab] at hnew hshort
     subst hnew
     have HX := hid hX
     have HTU := hid hturn
     have HMO := hid hmost2
     have HO0 := hid ho0
     have HG0 := hid hg0
     have HR0 := hid hr0
     have l2 : (j : Int) < (n : Int) := by omega
     have l3 : (i : Int) < (TT.length : Int) := by omega
     have hs0 : n5 <= 1099511627774 := by have := (Rs.of_own ho0).len; omega
     clear hX e2 ho0 hr0 hg0 htab hturn hmost hmost2 hf ht hft hTT hshort
     cases fg with
     | true =>
       have C3 : Hid (∀ wx,Below wr.heap.size wr wx -> Calls Tryz.prog 125 #[.slice A5 n5 c5,.int .i64 fk] wx (Came (Out R w wr) wr (del l0 fk) (there l0 fk))) := fun wx hb => came_del hb (own_keep HO0.out hb) HG0.out HR0.out hs0
       have HRN := hid (HR0.out.del fk)
       generalize there l0 fk = tb at C3
       go_upto_region 11 with fail
       have k1 : wr.cell? ⟨b,off + j * 4 + 1,none⟩ = some (.int .i64 fk) := by simpa [Nat.add_assoc] using c1
       have k3 : wr.cell? ⟨b,off + j * 4 + 3,none⟩ = some (.string fv) := by simpa [Nat.add_assoc] using c3
       have hbne : b ≠ bb := ref_apart HX.out k1
       have hpne : p ≠ bb := HX.out.pne
       refine Go.wp_region_held_drew (S := fun w' => w'.cell? ⟨p,0,none⟩ = some (.slice (some ⟨bb,0,none⟩) TT.length TT.length) /\ w'.cell? ⟨b,off + j * 4 + 1,none⟩ = some (.int .i64 fk) /\ w'.cell? ⟨b,off + j * 4 + 3,none⟩ = some (.string fv)) (by kernel_rfl) ⟨d0,k1,k3⟩ (fun hHeld => ?_)
       refine wpAnyH_take (i := 0) (v := ?dv0) rfl (by kernel_rfl) (by kernel_rfl) (by kernel_rfl) (fun _ _ _ h => h) (Or.inl ⟨by rfl,?dy0⟩) (by assumption) ?dr0
       case dy0 => (intro w hSw; (try dsimp only at hSw); go_simp; try with_reducible rfl)
       try simp only [Act.put,Base.px]
       refine wpAnyH_take (i := 1) (v := ?dv1) rfl (by kernel_rfl) (by kernel_rfl) (by kernel_rfl) (fun _ _ _ h => h) (Or.inl ⟨by rfl,?dy1⟩) (by assumption) ?dr1
       case dy1 => (intro w hSw; (try dsimp only at hSw); go_simp; try with_reducible rfl)
       try simp only [Act.put,Base.px]
       refine wpAnyH_take (i := 2) (v := ?dv2) rfl (by kernel_rfl) (by kernel_rfl) (by kernel_rfl) (fun _ _ _ h => h) (Or.inl ⟨by rfl,?dy2⟩) (by assumption) ?dr2
       case dy2 => (intro w hSw; (try dsimp only at hSw); go_simp; try with_reducible rfl)
       try simp only [Act.put,Base.px]
       refine wpAnyH_take (i := 3) (v := ?dv3) rfl (by kernel_rfl) (by kernel_rfl) (by kernel_rfl) (fun _ _ _ h => h) (Or.inl ⟨by rfl,?dy3⟩) (by assumption) ?dr3
       case dy3 => (intro w hSw; (try dsimp only at hSw); go_simp; try with_reducible rfl)
       try simp only [Act.put,Base.px]
       refine wpAnyH_take (i := 4) (v := ?dv4) rfl (by kernel_rfl) (by kernel_rfl) (by kernel_rfl) (fun _ _ _ h => h) (Or.inl ⟨by rfl,?dy4⟩) (by assumption) ?dr4
       case dy4 => (intro w hSw; (try dsimp only at hSw); go_simp; try with_reducible rfl)
       try simp only [Act.put,Base.px]
       refine wpAnyH_take (i := 5) (v := ?dv5) rfl (by kernel_rfl) (by kernel_rfl) (by kernel_rfl) (fun _ _ _ h => h) (Or.inl ⟨by rfl,?dy5⟩) (by assumption) ?dr5
       case dy5 => (intro w hSw; (try dsimp only at hSw); go_simp; try with_reducible rfl)
       try simp only [Act.put,Base.px]
       refine wpAnyH_take (i := 6) (v := ?dv6) rfl (by kernel_rfl) (by kernel_rfl) (by kernel_rfl) (fun _ _ _ h => h) (Or.inl ⟨by rfl,?dy6⟩) (by assumption) ?dr6
       case dy6 => (intro w hSw; (try dsimp only at hSw); go_simp; try with_reducible rfl)
       try simp only [Act.put,Base.px]
       refine wpAnyH_take (i := 7) (v := ?dv7) rfl (by kernel_rfl) (by kernel_rfl) (by kernel_rfl) (fun _ _ _ h => h) (Or.inl ⟨by rfl,?dy7⟩) (by assumption) ?dr7
       case dy7 => (intro w hSw; (try dsimp only at hSw); go_simp; try with_reducible rfl)
       try simp only [Act.put,Base.px]
       refine wpAnyH_take (i := 8) (v := ?dv8) rfl (by kernel_rfl) (by kernel_rfl) (by kernel_rfl) (fun _ _ _ h => h) (Or.inl ⟨by rfl,?dy8⟩) (by assumption) ?dr8
       case dy8 => (intro w hSw; (try dsimp only at hSw); go_simp; try with_reducible rfl)
       try simp only [Act.put,Base.px]
       refine wpAnyH_take (i := 9) (v := ?dv9) rfl (by kernel_rfl) (by kernel_rfl) (by kernel_rfl) (fun _ _ _ h => h) (Or.inl ⟨by rfl,?dy9⟩) (by assumption) ?dr9
       case dy9 => (intro w hSw; (try dsimp only at hSw); go_simp; try with_reducible rfl)
       try simp only [Act.put,Base.px]
       refine wpAnyH_take (i := 10) (v := ?dv10) rfl (by kernel_rfl) (by kernel_rfl) (by kernel_rfl) (fun _ _ _ h => h) (Or.inl ⟨by rfl,?dy10⟩) (by assumption) ?dr10
       case dy10 => (intro w hSw; (try dsimp only at hSw); go_simp; try with_reducible rfl)
       try simp only [Act.put,Base.px]
       refine wpAnyH_take (i := 12) (v := ?dv12) rfl (by kernel_rfl) (by kernel_rfl) (by kernel_rfl) (fun _ _ _ h => h) (Or.inl ⟨by rfl,?dy12⟩) (by assumption) ?dr12
       case dy12 => (intro w hSw; (try dsimp only at hSw); go_simp; try with_reducible rfl)
       try simp only [Act.put,Base.px]
       refine wpAnyH_take (i := 13) (v := ?dv13) rfl (by kernel_rfl) (by kernel_rfl) (by kernel_rfl) (fun _ _ _ h => h) (Or.inl ⟨by rfl,?dy13⟩) (by assumption) ?dr13
       case dy13 => (intro w hSw; (try dsimp only at hSw); go_simp; try with_reducible rfl)
       try simp only [Act.put,Base.px]
       refine wpAnyH_take (i := 14) (v := ?dv14) rfl (by kernel_rfl) (by kernel_rfl) (by kernel_rfl) (fun _ _ _ h => h) (Or.inl ⟨by rfl,?dy14⟩) (by assumption) ?dr14
       case dy14 => (intro w hSw; (try dsimp only at hSw); go_simp; try with_reducible rfl)
       try simp only [Act.put,Base.px]
       refine wpAnyH_take (i := 15) (v := ?dv15) rfl (by kernel_rfl) (by kernel_rfl) (by kernel_rfl) (fun _ _ _ h => h) (Or.inl ⟨by rfl,?dy15⟩) (by assumption) ?dr15
       case dy15 => (intro w hSw; (try dsimp only at hSw); go_simp; try with_reducible rfl)
       try simp only [Act.put,Base.px]
       refine wpAnyH_take (i := 16) (v := ?dv16) rfl (by kernel_rfl) (by kernel_rfl) (by kernel_rfl) (fun _ _ _ h => h) (Or.inl ⟨by rfl,?dy16⟩) (by assumption) ?dr16
       case dy16 => (intro w hSw; (try dsimp only at hSw); go_simp; try with_reducible rfl)
       try simp only [Act.put,Base.px]
       refine wpAnyH_ready (rs := [11]) (by kernel_rfl) (by simp) ?_
       refine AllReadyH.cons rfl (fun K hK => ?_) AllReadyH.nil
       go_simp
       refine hK.out _ _ ⟨d0,k1,k3⟩ (fun hHeld => ?_)
       clear hK K
       try simp only [Act.put,Base.px]
       refine wpAnyH_ready (rs := [17]) (by kernel_rfl) (by simp) ?_
       refine AllReadyH.cons rfl (fun K hK => ?_) AllReadyH.nil
       go_simp
       go_at_call 125
       refine (C3.out _ (held_start wr)).mono ?_
       rintro e w4 ⟨A4,n4,c4,rfl,ho4,hg4,hb4⟩
       have e0 := held_cell hb4 d0
       have e4 := held_cell hb4 d2
       have g1 := held_cell hb4 k1
       have g3 := held_cell hb4 k3
       have f4 := (HX.out.row.below hb4 HX.out.row.lt).frozen i
       have HZ := hid (turn_lay HX.out hi2 HTU.out hb4 ho4 hg4 HRN.out)
       refine hK.out _ _ ⟨e0,g1,g3⟩ (fun hHeld => ?_)
       clear ho4 hg4 hb4 hK K
       try simp only [Act.put,Base.px]
       refine wpAnyH_take (i := 18) (v := ?dzv18) rfl (by kernel_rfl) (by kernel_rfl) (by kernel_rfl) (fun _ _ _ h => h) (Or.inl ⟨by rfl,?dzy18⟩) (by assumption) ?dzr18
       case dzy18 => (intro w hSw; (try dsimp only at hSw); go_simp; try with_reducible rfl)
       try simp only [Act.put,Base.px]
       refine wpAnyH_take (i := 19) (v := ?dzv19) rfl (by kernel_rfl) (by kernel_rfl) (by kernel_rfl) (fun _ _ _ h => h) (Or.inl ⟨by rfl,?dzy19⟩) (by assumption) ?dzr19
       case dzy19 => (intro w hSw; (try dsimp only at hSw); go_simp; try with_reducible rfl)
       try simp only [Act.put,Base.px]
       refine wpAnyH_take (i := 20) (v := ?dzv20) rfl (by kernel_rfl) (by kernel_rfl) (by kernel_rfl) (fun _ _ _ h => h) (Or.inl ⟨by rfl,?dzy20⟩) (by assumption) ?dzr20
       case dzy20 => (intro w hSw; (try dsimp only at hSw); go_simp; try with_reducible rfl)
       try simp only [Act.put,Base.px]
       refine wpAnyH_take (i := 21) (v := ?dzv21) rfl (by kernel_rfl) (by kernel_rfl) (by kernel_rfl) (fun _ _ _ h => h) (Or.inl ⟨by rfl,?dzy21⟩) (by assumption) ?dzr21
       case dzy21 => (intro w hSw; (try dsimp only at hSw); go_simp; try with_reducible rfl)
       try simp only [Act.put,Base.px]
       refine wpAnyH_ready (rs := [22]) (by kernel_rfl) (by simp) ?_
       refine AllReadyH.cons rfl (fun K hK => ?_) AllReadyH.nil
       go_simp
       refine hK.out _ _ ⟨(World.cell?_setCell_far w4 ⟨bb,i,none⟩ ⟨p,0,none⟩ _ (Ne.symm hpne)).trans e0,(World.cell?_setCell_far w4 ⟨bb,i,none⟩ ⟨b,off + j * 4 + 1,none⟩ _ (Ne.symm hbne)).trans g1,(World.cell?_setCell_far w4 ⟨bb,i,none⟩ ⟨b,off + j * 4 + 3,none⟩ _ (Ne.symm hbne)).trans g3⟩ (fun hHeld => ?_)
       clear hK K
       try simp only [Act.put,Base.px]
       refine wpAnyH_done (by kernel_rfl) ?_ _
       go_wp2
       go_roundw
       case rel => exact ⟨j + 1,by go_num,by omega,by rw [HTN.out]; exact HZ.out.1,by rw [HTN.out]; exact HMO.out,HZ.out.2⟩
       case measure => simp [RowKit.intOf]; omega
     | false =>
       have C3 : Hid (∀ wx,Below wr.heap.size wr wx -> Calls Tryz.prog 126 #[.slice A5 n5 c5,.int .i64 fk,.string fv] wx (Came (Out R w wr) wr (put l0 fk fv) (!there l0 fk))) := fun wx hb => came_put hb (Rz.of_own (own_keep HO0.out hb)) hs0
       have HRN := hid (HR0.out.put fk fv)
       generalize (!there l0 fk) = tb at C3
       go_upto_region 12 with fail
       have k1 : wr.cell? ⟨b,off + j * 4 + 1,none⟩ = some (.int .i64 fk) := by simpa [Nat.add_assoc] using c1
       have k3 : wr.cell? ⟨b,off + j * 4 + 3,none⟩ = some (.string fv) := by simpa [Nat.add_assoc] using c3
       have hbne : b ≠ bb := ref_apart HX.out k1
       have hpne : p ≠ bb := HX.out.pne
       refine Go.wp_region_held_drew (S := fun w' => w'.cell? ⟨p,0,none⟩ = some (.slice (some ⟨bb,0,none⟩) TT.length TT.length) /\ w'.cell? ⟨b,off + j * 4 + 1,none⟩ = some (.int .i64 fk) /\ w'.cell? ⟨b,off + j * 4 + 3,none⟩ = some (.string fv)) (by kernel_rfl) ⟨d0,k1,k3⟩ (fun hHeld => ?_)
       refine wpAnyH_take (i := 0) (v := ?ev0) rfl (by kernel_rfl) (by kernel_rfl) (by kernel_rfl) (fun _ _ _ h => h) (Or.inl ⟨by rfl,?ey0⟩) (by assumption) ?er0
       case ey0 => (intro w hSw; (try dsimp only at hSw); go_simp; try with_reducible rfl)
       try simp only [Act.put,Base.px]
       refine wpAnyH_take (i := 1) (v := ?ev1) rfl (by kernel_rfl) (by kernel_rfl) (by kernel_rfl) (fun _ _ _ h => h) (Or.inl ⟨by rfl,?ey1⟩) (by assumption) ?er1
       case ey1 => (intro w hSw; (try dsimp only at hSw); go_simp; try with_reducible rfl)
       try simp only [Act.put,Base.px]
       refine wpAnyH_take (i := 2) (v := ?ev2) rfl (by kernel_rfl) (by kernel_rfl) (by kernel_rfl) (fun _ _ _ h => h) (Or.inl ⟨by rfl,?ey2⟩) (by assumption) ?er2
       case ey2 => (intro w hSw; (try dsimp only at hSw); go_simp; try with_reducible rfl)
       try simp only [Act.put,Base.px]
       refine wpAnyH_take (i := 3) (v := ?ev3) rfl (by kernel_rfl) (by kernel_rfl) (by kernel_rfl) (fun _ _ _ h => h) (Or.inl ⟨by rfl,?ey3⟩) (by assumption) ?er3
       case ey3 => (intro w hSw; (try dsimp only at hSw); go_simp; try with_reducible rfl)
       try simp only [Act.put,Base.px]
       refine wpAnyH_take (i := 4) (v := ?ev4) rfl (by kernel_rfl) (by kernel_rfl) (by kernel_rfl) (fun _ _ _ h => h) (Or.inl ⟨by rfl,?ey4⟩) (by assumption) ?er4
       case ey4 => (intro w hSw; (try dsimp only at hSw); go_simp; try with_reducible rfl)
       try simp only [Act.put,Base.px]
       refine wpAnyH_take (i := 5) (v := ?ev5) rfl (by kernel_rfl) (by kernel_rfl) (by kernel_rfl) (fun _ _ _ h => h) (Or.inl ⟨by rfl,?ey5⟩) (by assumption) ?er5
       case ey5 => (intro w hSw; (try dsimp only at hSw); go_simp; try with_reducible rfl)
       try simp only [Act.put,Base.px]
       refine wpAnyH_take (i := 6) (v := ?ev6) rfl (by kernel_rfl) (by kernel_rfl) (by kernel_rfl) (fun _ _ _ h => h) (Or.inl ⟨by rfl,?ey6⟩) (by assumption) ?er6
       case ey6 => (intro w hSw; (try dsimp only at hSw); go_simp; try with_reducible rfl)
       try simp only [Act.put,Base.px]
       refine wpAnyH_take (i := 7) (v := ?ev7) rfl (by kernel_rfl) (by kernel_rfl) (by kernel_rfl) (fun _ _ _ h => h) (Or.inl ⟨by rfl,?ey7⟩) (by assumption) ?er7
       case ey7 => (intro w hSw; (try dsimp only at hSw); go_simp; try with_reducible rfl)
       try simp only [Act.put,Base.px]
       refine wpAnyH_take (i := 8) (v := ?ev8) rfl (by kernel_rfl) (by kernel_rfl) (by kernel_rfl) (fun _ _ _ h => h) (Or.inl ⟨by rfl,?ey8⟩) (by assumption) ?er8
       case ey8 => (intro w hSw; (try dsimp only at hSw); go_simp; try with_reducible rfl)
       try simp only [Act.put,Base.px]
       refine wpAnyH_take (i := 9) (v := ?ev9) rfl (by kernel_rfl) (by kernel_rfl) (by kernel_rfl) (fun _ _ _ h => h) (Or.inl ⟨by rfl,?ey9⟩) (by assumption) ?er9
       case ey9 => (intro w hSw; (try dsimp only at hSw); go_simp; try with_reducible rfl)
       try simp only [Act.put,Base.px]
       refine wpAnyH_take (i := 10) (v := ?ev10) rfl (by kernel_rfl) (by kernel_rfl) (by kernel_rfl) (fun _ _ _ h => h) (Or.inl ⟨by rfl,?ey10⟩) (by assumption) ?er10
       case ey10 => (intro w hSw; (try dsimp only at hSw); go_simp; try with_reducible rfl)
       try simp only [Act.put,Base.px]
       refine wpAnyH_take (i := 12) (v := ?ev12) rfl (by kernel_rfl) (by kernel_rfl) (by kernel_rfl) (fun _ _ _ h => h) (Or.inl ⟨by rfl,?ey12⟩) (by assumption) ?er12
       case ey12 => (intro w hSw; (try dsimp only at hSw); go_simp; try with_reducible rfl)
       try simp only [Act.put,Base.px]
       refine wpAnyH_take (i := 13) (v := ?ev13) rfl (by kernel_rfl) (by kernel_rfl) (by kernel_rfl) (fun _ _ _ h => h) (Or.inl ⟨by rfl,?ey13⟩) (by assumption) ?er13
       case ey13 => (intro w hSw; (try dsimp only at hSw); go_simp; try with_reducible rfl)
       try simp only [Act.put,Base.px]
       refine wpAnyH_take (i := 14) (v := ?ev14) rfl (by kernel_rfl) (by kernel_rfl) (by kernel_rfl) (fun _ _ _ h => h) (Or.inl ⟨by rfl,?ey14⟩) (by assumption) ?er14
       case ey14 => (intro w hSw; (try dsimp only at hSw); go_simp; try with_reducible rfl)
       try simp only [Act.put,Base.px]
       refine wpAnyH_take (i := 15) (v := ?ev15) rfl (by kernel_rfl) (by kernel_rfl) (by kernel_rfl) (fun _ _ _ h => h) (Or.inl ⟨by rfl,?ey15⟩) (by assumption) ?er15
       case ey15 => (intro w hSw; (try dsimp only at hSw); go_simp; try with_reducible rfl)
       try simp only [Act.put,Base.px]
       refine wpAnyH_take (i := 16) (v := ?ev16) rfl (by kernel_rfl) (by kernel_rfl) (by kernel_rfl) (fun _ _ _ h => h) (Or.inl ⟨by rfl,?ey16⟩) (by assumption) ?er16
       case ey16 => (intro w hSw; (try dsimp only at hSw); go_simp; try with_reducible rfl)
       try simp only [Act.put,Base.px]
       refine wpAnyH_take (i := 17) (v := ?ev17) rfl (by kernel_rfl) (by kernel_rfl) (by kernel_rfl) (fun _ _ _ h => h) (Or.inl ⟨by rfl,?ey17⟩) (by assumption) ?er17
       case ey17 => (intro w hSw; (try dsimp only at hSw); go_simp; try with_reducible rfl)
       try simp only [Act.put,Base.px]
       refine wpAnyH_take (i := 18) (v := ?ev18) rfl (by kernel_rfl) (by kernel_rfl) (by kernel_rfl) (fun _ _ _ h => h) (Or.inl ⟨by rfl,?ey18⟩) (by assumption) ?er18
       case ey18 => (intro w hSw; (try dsimp only at hSw); go_simp; try with_reducible rfl)
       try simp only [Act.put,Base.px]
       refine wpAnyH_take (i := 19) (v := ?ev19) rfl (by kernel_rfl) (by kernel_rfl) (by kernel_rfl) (fun _ _ _ h => h) (Or.inl ⟨by rfl,?ey19⟩) (by assumption) ?er19
       case ey19 => (intro w hSw; (try dsimp only at hSw); go_simp; try with_reducible rfl)
       try simp only [Act.put,Base.px]
       refine wpAnyH_take (i := 20) (v := ?ev20) rfl (by kernel_rfl) (by kernel_rfl) (by kernel_rfl) (fun _ _ _ h => h) (Or.inl ⟨by rfl,?ey20⟩) (by assumption) ?er20
       case ey20 => (intro w hSw; (try dsimp only at hSw); go_simp; try with_reducible rfl)
       try simp only [Act.put,Base.px]
       refine wpAnyH_take (i := 21) (v := ?ev21) rfl (by kernel_rfl) (by kernel_rfl) (by kernel_rfl) (fun _ _ _ h => h) (Or.inl ⟨by rfl,?ey21⟩) (by assumption) ?er21
       case ey21 => (intro w hSw; (try dsimp only at hSw); go_simp; try with_reducible rfl)
       try simp only [Act.put,Base.px]
       refine wpAnyH_ready (rs := [11]) (by kernel_rfl) (by simp) ?_
       refine AllReadyH.cons rfl (fun K hK => ?_) AllReadyH.nil
       go_simp
       refine hK.out _ _ ⟨d0,k1,k3⟩ (fun hHeld => ?_)
       clear hK K
       try simp only [Act.put,Base.px]
       refine wpAnyH_ready (rs := [22]) (by kernel_rfl) (by simp) ?_
       refine AllReadyH.cons rfl (fun K hK => ?_) AllReadyH.nil
       go_simp
       go_at_call 126
       refine (C3.out _ (held_start wr)).mono ?_
       rintro e w4 ⟨A4,n4,c4,rfl,ho4,hg4,hb4⟩
       have e0 := held_cell hb4 d0
       have e4 := held_cell hb4 d2
       have g1 := held_cell hb4 k1
       have g3 := held_cell hb4 k3
       have f4 := (HX.out.row.below hb4 HX.out.row.lt).frozen i
       have HZ := hid (turn_lay HX.out hi2 HTU.out hb4 ho4 hg4 HRN.out)
       refine hK.out _ _ ⟨e0,g1,g3⟩ (fun hHeld => ?_)
       clear ho4 hg4 hb4 hK K
       try simp only [Act.put,Base.px]
       refine wpAnyH_take (i := 23) (v := ?ezv23) rfl (by kernel_rfl) (by kernel_rfl) (by kernel_rfl) (fun _ _ _ h => h) (Or.inl ⟨by rfl,?ezy23⟩) (by assumption) ?ezr23
       case ezy23 => (intro w hSw; (try dsimp only at hSw); go_simp; try with_reducible rfl)
       try simp only [Act.put,Base.px]
       refine wpAnyH_take (i := 24) (v := ?ezv24) rfl (by kernel_rfl) (by kernel_rfl) (by kernel_rfl) (fun _ _ _ h => h) (Or.inl ⟨by rfl,?ezy24⟩) (by assumption) ?ezr24
       case ezy24 => (intro w hSw; (try dsimp only at hSw); go_simp; try with_reducible rfl)
       try simp only [Act.put,Base.px]
       refine wpAnyH_take (i := 25) (v := ?ezv25) rfl (by kernel_rfl) (by kernel_rfl) (by kernel_rfl) (fun _ _ _ h => h) (Or.inl ⟨by rfl,?ezy25⟩) (by assumption) ?ezr25
       case ezy25 => (intro w hSw; (try dsimp only at hSw); go_simp; try with_reducible rfl)
       try simp only [Act.put,Base.px]
       refine wpAnyH_take (i := 26) (v := ?ezv26) rfl (by kernel_rfl) (by kernel_rfl) (by kernel_rfl) (fun _ _ _ h => h) (Or.inl ⟨by rfl,?ezy26⟩) (by assumption) ?ezr26
       case ezy26 => (intro w hSw; (try dsimp only at hSw); go_simp; try with_reducible rfl)
       try simp only [Act.put,Base.px]
       refine wpAnyH_ready (rs := [27]) (by kernel_rfl) (by simp) ?_
       refine AllReadyH.cons rfl (fun K hK => ?_) AllReadyH.nil
       go_simp
       refine hK.out _ _ ⟨(World.cell?_setCell_far w4 ⟨bb,i,none⟩ ⟨p,0,none⟩ _ (Ne.symm hpne)).trans e0,(World.cell?_setCell_far w4 ⟨bb,i,none⟩ ⟨b,off + j * 4 + 1,none⟩ _ (Ne.symm hbne)).trans g1,(World.cell?_setCell_far w4 ⟨bb,i,none⟩ ⟨b,off + j * 4 + 3,none⟩ _ (Ne.symm hbne)).trans g3⟩ (fun hHeld => ?_)
       clear hK K
       try simp only [Act.put,Base.px]
       refine wpAnyH_done (by kernel_rfl) ?_ _
       go_wp2
       go_roundw
       case rel => exact ⟨j + 1,by go_num,by omega,by rw [HTN.out]; exact HZ.out.1,by rw [HTN.out]; exact HMO.out,HZ.out.2⟩
       case measure => simp [RowKit.intOf]; omega
    ·have HN : Hid (doAll T (l.take j) = doAll T l) := by show _ = _; rw [List.take_of_length_le (by rw [HLEN.out]; omega)]
     have HW := hid hset
     have HTU := hid hturn
     have l2 : ¬ (j : Int) < (n : Int) := by omega
     clear hset hturn hmost
     go_wp2
     go_ret
     rw [HT.out]
     refine ⟨rfl,?_,HTU.out⟩
     unfold appl
     rw [HT.out,if_pos rfl,<- HN.out]
     exact HW.out
end Tbl
namespace Fold
open Go.RowKit Base IdxMath FoldMath Foot
open TxnMath (Ch Tx)
open PChg (gval Cs)
open PTx
open Lsts (Lsts)
open Idx (Rs Rz rv)
open Tbl (RAt isT tab Most)
theorem tab_rowsL {m i : Nat} (hi : i < m) (cs : List Ch) : tab (rowsL m cs) (i : Int) = rows (i : Int) cs := Tbl.tab_get (by rw [rowsL_length]; exact hi) (rowsL_get hi cs)
theorem rowsL_nil (m : Nat) : rowsL m [] = List.replicate m [] := by
 apply List.ext_getElem?
 intro i
 rcases Nat.lt_or_ge i m with h | h
 ·rw [rowsL_get h,List.getElem?_replicate,if_pos h]
  rfl
 ·rw [List.getElem?_eq_none (by rw [rowsL_length]; exact h),List.getElem?_eq_none (by rw [List.length_replicate]; exact h)]
theorem rowsL_not {m : Nat} {cs : List Ch} {c : Ch} (h : isT (rowsL m cs) c.tbl = false) : rowsL m (cs ++ [c]) = rowsL m cs := by
 have h1 : ¬ (0 <= c.tbl /\ c.tbl < (m : Int)) := by
  have := of_decide_eq_false h
  rwa [rowsL_length] at this
 apply List.ext_getElem?
 intro i
 rcases Nat.lt_or_ge i m with hi | hi
 ·rw [rowsL_get hi,rowsL_get hi,rows_snoc]
  congr 1
  exact if_neg (by omega)
 ·rw [List.getElem?_eq_none (by rw [rowsL_length]; exact hi),List.getElem?_eq_none (by rw [rowsL_length]; exact hi)]
theorem rowsL_do {m : Nat} {cs : List Ch} {c : Ch} (h : isT (rowsL m cs) c.tbl = true) : Tbl.appl (rowsL m cs) [c] = rowsL m (cs ++ [c]) := by
 obtain ⟨i,hi,hil⟩ := Tbl.isT_nat h
 rw [rowsL_length] at hil
 unfold Tbl.appl
 rw [if_pos (by simp [Tbl.allT,h])]
 show Tbl.do1 (rowsL m cs) c = _
 unfold Tbl.do1
 rw [hi,Int.toNat_natCast,tab_rowsL hil]
 apply List.ext_getElem?
 intro j
 rcases Nat.lt_or_ge j m with hj | hj
 ·rw [rowsL_get hj,rows_snoc]
  by_cases hji : j = i
  ·subst hji
   rw [List.getElem?_set_self (by rw [rowsL_length]; exact hj)]
   congr 1
   exact (if_pos hi).symm
  ·rw [List.getElem?_set_ne (Ne.symm hji),rowsL_get hj]
   congr 1
   exact (if_neg (by omega)).symm
 ·rw [List.getElem?_eq_none (by rw [List.length_set,rowsL_length]; exact hj),List.getElem?_eq_none (by rw [rowsL_length]; exact hj)]
theorem most_rowsL (m : Nat) (cs : List Ch) : Most (rowsL m cs) cs.length := by
 intro t
 cases ht : isT (rowsL m cs) t with
 | false => rw [Tbl.tab_none ht]; exact Nat.zero_le _
 | true =>
   obtain ⟨i,rfl,hi⟩ := Tbl.isT_nat ht
   rw [rowsL_length] at hi
   rw [tab_rowsL hi]
   exact rows_length _ _
def RefI (w : World) (m q : Nat) (cs : List Ch) (wr : World) : Prop := RAt wr (fun x => w.heap.size <= x /\ x < wr.heap.size) q (rowsL m cs) /\ Below w.heap.size w wr
theorem rat_lsts {w : World} {R : Nat -> Prop} {q : Nat} {T : List (List Rw)} (h : RAt w R q T) : ∃ b,w.cell? ⟨q,0,none⟩ = some (.slice (some ⟨b,0,none⟩) T.length T.length) /\ Lsts Rz w w.heap.size (some ⟨b,0,none⟩) T.length T.length T := by
 obtain ⟨b,cs,h⟩ := h
 have hz := h.len
 have hm := h.most
 refine ⟨b,h.box.cell 0,Lsts.row (vs := cs.toList) ⟨by rw [Array.length_toList]; omega,Nat.le_refl _,by omega,fun _ => ⟨b,0,rfl,h.row.lt,fun j u hu => ?_⟩⟩ (by rw [Array.length_toList]; exact hz) fun i v l hv hl => ?_⟩
 ·rw [Nat.zero_add,h.row.cell,<- Array.getElem?_toList]
  exact hu
 ·rw [Array.getElem?_toList] at hv
  obtain ⟨A,n,c,e,ho,_⟩ := h.each i v l hv hl
  exact ⟨A,n,c,e,Idx.Rz.of_own ho⟩
theorem RefI.turn {w wr w1 w2 : World} {m q : Nat} {cs cs' : List Ch} (h : RefI w m q cs wr) (hb : Below wr.heap.size wr w1) (h2 : RAt w2 (Out (fun x => w.heap.size <= x /\ x < wr.heap.size) w1 w2) q (rowsL m cs')) (ht : Turn (fun x => w.heap.size <= x /\ x < wr.heap.size) w1 w2) : RefI w m q cs' w2 := by
 have e1 := hb.size
 have e2 := ht.size
 have e3 := h.2.size
 refine ⟨h2.mono fun i hi hx => ?_,(h.2.trans (hb.mono e3)).trans (ht.below (fun i hi => hi.1) (by omega))⟩
 rcases hx with hx | hx
 ·exact ⟨hx.1,hi⟩
 ·exact ⟨by omega,hi⟩
theorem RefI.new {w wr w1 : World} {m q : Nat} {cs : List Ch} (h : RefI w m q cs wr) (hb : Below wr.heap.size wr w1) : RefI w m q cs w1 :=
 ⟨(h.1.new hb).mono fun i hi hx => ⟨hx.1,hi⟩,h.2.trans (hb.mono h.2.size)⟩
theorem reffold_any (N : Int) (B : Nat) (A : Option Addr) (n c : Nat) (l : List Tx) (k : Int) (w : World) (hl : Txs w B A n c l) (hB : B <= w.heap.size) (hM : (chs l n).length < 1099511627774) :
 Calls Tryz.prog 21 #[.int .i64 N,.slice A n c,.int .i64 k] w (FoldR w (foldT N l k)) := by
 have hlen := hl.len
 have hle := hl.le
 have HL := hid (hl.more hB)
 have HM := hid hM
 clear hl hM
 by_cases h18 : 1 <= N /\ N <= 8
 ·obtain ⟨m,rfl⟩ := Int.eq_ofNat_of_zero_le (show 0 <= N by omega)
  have hm1 : 1 <= m := by omega
  have hm8 : m <= 8 := by omega
  rw [foldT_rows hm1 hm8,hlen]
  have hh := held_le k n
  obtain ⟨h,hh2⟩ : ∃ h,h = held k n := ⟨_,rfl⟩
  have HH := hid hh2
  rw [<- hh2] at hh ⊢
  clear hh2 h18
  go_enter Tryz.func21,Tryz.ntmps21
  go_wp2_with fail
  refine (Tbl.refnew2_any m hm1 hm8 w).mono ?_
  rintro e w1 ⟨q,rfl,hr1,hb1⟩
  have HR1 : Hid (RefI w m q (chs l 0) w1) := by rw [chs_zero]; exact ⟨by rw [rowsL_nil]; exact hr1,hb1⟩
  clear hr1 hb1
  go_wp2_with fail
  go_loopw [8] (fun vi wr => ∃ i : Nat,vi = .int .i64 i /\ i <= h /\ RefI w m q (chs l i) wr) (fun vi _ => h - (RowKit.intOf vi).toNat)
  case atStart => exact ⟨0,rfl,Nat.zero_le _,HR1.out⟩
  case round =>
   clear HR1
   obtain ⟨i,rfl,hi,hr⟩ := hrel
   have HR := hid hr
   clear hr
   go_wp2_with fail
   refine (refheld_any k n wr).mono ?_
   rintro e w3 ⟨rfl,rfl⟩
   rw [<- HH.out]
   by_cases hih : i < h
   ·have l1 : (i : Int) < (h : Int) := by omega
    obtain ⟨b,off,x,rfl,hbB,hx,A1,n1,c1,A2,n2,c2,x0,x1,x2,x3,x4,hcs,_⟩ := (HL.out.below HR.out.2).at_ (show i < n by omega)
    have HX := hid hx
    have HB := hid HR.out.2
    have HCS : Hid (∀ wx,Below w.heap.size w wx -> Cs wx w.heap.size A1 n1 c1 x.chs) := fun wx hbx => Row.keep hcs fun q hq => (hbx.cell hq).trans (HB.out.cell hq).symm
    have HX2 : Hid (∀ wx,Below w.heap.size w wx -> wx.cell? ⟨b,off + i * 5 + 2,none⟩ = some (.slice A1 n1 c1)) := fun wx hbx => ((hbx.cell hbB).trans (HB.out.cell hbB).symm).trans x2
    have hn1 := hcs.le
    have hl1 := hcs.len
    have l3 : (i : Int) < (n : Int) := by omega
    clear hx hcs x0 x1 x2 x3 x4
    go_wp2_with fail
    go_loopw [9] (fun vj wx => ∃ j : Nat,vj = .int .i64 j /\ j <= n1 /\ RefI w m q (chs l i ++ x.chs.take j) wx) (fun vj _ => n1 - (RowKit.intOf vj).toNat)
    case atStart => exact ⟨0,rfl,Nat.zero_le _,by rw [List.take_zero,List.append_nil]; exact HR.out⟩
    case round =>
     clear HR HB
     obtain ⟨j,rfl,hj,hr⟩ := hrel
     have HR := hid hr
     have y2 := HX2.out wr hr.2
     clear hr
     by_cases hjn : j < n1
     ·have l2 : (j : Int) < (n1 : Int) := by omega
      obtain ⟨b3,off3,f,rfl,hb3,c0,c1',c2',c3,hf,ht⟩ := (HCS.out wr HR.out.2).at_ hjn
      have HT : Hid (chs l i ++ x.chs.take (j + 1) = (chs l i ++ x.chs.take j) ++ [f]) := by show _ = _; rw [ht,<- List.append_assoc]
      have hroom : (chs l i ++ x.chs.take j).length < 1099511627774 := Nat.lt_trans (chs_room HX.out (show i < n by omega) (by omega)) HM.out
      generalize hCC : chs l i ++ x.chs.take j = cc at *
      clear hf ht hCC
      obtain ⟨ft,fk,fg,fv⟩ := f
      dsimp only at c0 c1' c2' c3
      have HB1 : Hid (Below wr.heap.size wr (wr.alloc (.cells #[.int .i64 ft,.int .i64 fk,.bool fg,.string fv] 64))) := (Below.refl _ _).alloc (Nat.le_refl _) _
      have HR1 := hid (HR.out.1.new HB1.out)
      have HI := hid (Tbl.refis_any _ q (rowsL m cc) ft _ HR1.out)
      cases hT : isT (rowsL m cc) ft with
      | true =>
        have HDO : Hid (Tbl.appl (rowsL m cc) [⟨ft,fk,fg,fv⟩] = rowsL m (cc ++ [⟨ft,fk,fg,fv⟩])) := rowsL_do hT
        have HALL : Hid (Tbl.allT (rowsL m cc) [⟨ft,fk,fg,fv⟩] = true) := by show _ = _; simp [Tbl.allT,hT]
        rw [hT] at HI
        clear hT
        go_wp2_with fail
        refine HI.out.mono ?_
        rintro e w4 ⟨rfl,rfl⟩
        have HB2 : Hid (Below wr.heap.size wr ((wr.alloc (.cells #[.int .i64 ft,.int .i64 fk,.bool fg,.string fv] 64)).alloc (.cells #[.int .i64 ft,.int .i64 fk,.bool fg,.string fv] 64))) := HB1.out.alloc HB1.out.size _
        have HBK : Hid (Blk ((wr.alloc (.cells #[.int .i64 ft,.int .i64 fk,.bool fg,.string fv] 64)).alloc (.cells #[.int .i64 ft,.int .i64 fk,.bool fg,.string fv] 64)) (wr.heap.size + 1) 64 #[.int .i64 ft,.int .i64 fk,.bool fg,.string fv]) := by
         have := Blk.new (wr.alloc (.cells #[.int .i64 ft,.int .i64 fk,.bool fg,.string fv] 64)) 64 #[.int .i64 ft,.int .i64 fk,.bool fg,.string fv]
         exact (by simpa using this : Blk _ (wr.heap.size + 1) _ _)
        go_wp2_with fail
        generalize ((wr.alloc (.cells #[.int .i64 ft,.int .i64 fk,.bool fg,.string fv] 64)).alloc (.cells #[.int .i64 ft,.int .i64 fk,.bool fg,.string fv] 64)) = W2 at HB2 HBK ⊢
        refine (Tbl.refapply_any (fun x => w.heap.size <= x /\ x < wr.heap.size) q (rowsL m cc) cc.length (some ⟨wr.heap.size + 1,0,none⟩) 1 1 [⟨ft,fk,fg,fv⟩] W2 (HR.out.1.new HB2.out) (fun wx hx => lit_one (x := ⟨ft,fk,fg,fv⟩) ((hx.block _ HBK.out.lt (fun hh => by omega)).trans HBK.out)) (most_rowsL _ _) (by omega)).mono ?_
        rintro e w4 ⟨rfl,hr4,ht4⟩
        rw [HDO.out] at hr4
        have HN := hid (HR.out.turn HB2.out hr4 ht4)
        rw [HALL.out]
        clear hr4 ht4
        go_wp2
        go_roundw
        case rel => exact ⟨j + 1,by go_num,by omega,by rw [HT.out]; exact HN.out⟩
        case measure => simp [RowKit.intOf]; omega
      | false =>
        have HNO : Hid (RefI w m q (cc ++ [⟨ft,fk,fg,fv⟩]) (wr.alloc (.cells #[.int .i64 ft,.int .i64 fk,.bool fg,.string fv] 64))) := by
         have := HR.out.new HB1.out
         unfold RefI at this ⊢
         rwa [rowsL_not hT]
        rw [hT] at HI
        clear hT
        go_wp2_with fail
        refine HI.out.mono ?_
        rintro e w4 ⟨rfl,rfl⟩
        go_wp2
        go_roundw
        case rel => exact ⟨j + 1,by go_num,by omega,by rw [HT.out]; exact HNO.out⟩
        case measure => simp [RowKit.intOf]; omega
     ·obtain rfl : j = n1 := by omega
      have l2 : ¬ (j : Int) < (j : Int) := by omega
      have HE : Hid (chs l i ++ x.chs.take j = chs l (i + 1)) := by show _ = _; rw [List.take_of_length_le (by omega),<- chs_succ HX.out]
      go_wp2
      go_roundw
      case rel => exact ⟨i + 1,by go_num,by omega,by rw [<- HE.out]; exact HR.out⟩
      case measure => simp [RowKit.intOf]; omega
   ·have l1 : ¬ (i : Int) < (h : Int) := by omega
    obtain rfl : i = h := by omega
    obtain ⟨b,d0,hls⟩ := rat_lsts HR.out.1
    rw [rowsL_length] at d0 hls
    have HLS := hid hls
    have HB := hid HR.out.2
    clear hls
    go_wp2
    go_ret
    exact ⟨_,_,_,rfl,HLS.out,HB.out⟩
 ·rw [foldT_not h18]
  have HR := hid ((Tbl.refnewset_any N w).mono (R' := fun e w' => e = .returned (.pointer none) /\ w' = w) fun e w' hh => by unfold Tbl.RefMade at hh; rwa [if_neg h18] at hh)
  go_enter Tryz.func21,Tryz.ntmps21
  go_wp2_with fail
  refine HR.out.mono ?_
  rintro e w1 ⟨rfl,rfl⟩
  go_wp2
  go_ret
  exact foldR_none _
end Fold
namespace Src
open Go.RowKit Base
open Foot (Turn Out)
open DiskMath (Fl Dk)
open WalMath (Cap rowsOf)
open SrcMath (Sc Lot tt Anew)
open TxnMath (Tx Ch)
open IdxMath (Rw Rise)
open Wal (New Win DiskT From)
open Disk (I64)
open Txn (Chs Sigs TxIn)
open PChg (Cs gv pchanges_any)
open PTx (Txs tcells)
open Lsts (Lsts)
open Idx (NewRows rv Rs Rz)
open Field (modZ modZ_lt mod_any)
def KpRel (w : World) (sz : Int) (s p g gd : Nat) (va vt vr vi : Value) (wr : World) : Prop := ∃ (i : Nat) (T : Nat -> Prop) (ts : List Tx) (S : Sc) (d : Dk) (A : Option Addr) (c x : Nat) (tr : Int),vi = .int .i64 i /\ va = .slice A i c /\ vt = .int .i64 i /\ vr = .int .i64 tr /\ i <= 30 /\ ts.length = i /\ Live T wr s p g gd 2 ts sz (46 * i) (1049240 * i) x S d /\ AllIn T wr w.heap.size A i c ts /\ New T wr /\ (∀ j,T j -> w.heap.size <= j) /\ 0 <= tr /\ tr <= 30 /\ (x : Int) <= tr + 1 /\ Below w.heap.size w wr
def KpEnd (w : World) (sz : Int) (gd : Nat) (va vt vr : Value) (wr : World) : Prop := ∃ (n k0 : Nat) (T : Nat -> Prop) (ts : List Tx) (d : Dk) (A : Option Addr) (c : Nat) (tr : Int),va = .slice A n c /\ vt = .int .i64 k0 /\ vr = .int .i64 tr /\ n <= 31 /\ ts.length = n /\ Lot 2 ts /\ DiskT T wr gd d /\ Cap 1426 32526440 d /\ AllIn T wr w.heap.size A n c ts /\ New T wr /\ (∀ j,T j -> w.heap.size <= j) /\ 0 <= tr /\ tr <= 30 /\ Remain ts sz k0 tr d /\ Below w.heap.size w wr
theorem keeps_walk (nn : Int) (A : Option Addr) (n c : Nat) (L : List (List Ch)) (at_ every : Int) (Ak : Option Addr) (nk ck : Nat) (ks : List Int) (w : World) (h : Lsts Cs w w.heap.size A n c L) (hin : ∀ l ∈ L,Tbl.In1 l) (hks : Row w w.heap.size 1 Ak nk ck (iv ks)) (hI : ∀ k,I64 (ks.getD k 0)) :
 Calls Tryz.prog 3 #[.int .i64 nn,.slice A n c,.int .i64 at_,.int .i64 every,.slice Ak nk ck] w fun e w' => e = .returned (.bool true) /\ Below w.heap.size w w' := by
 have HL := hid h
 have HI := hid hin
 have HK := hid hks
 have HKI := hid hI
 have hle := h.le
 have hsz := size4_bd nn
 have HSZ := hid hsz
 have HN := hid (fun w => size_any nn w)
 clear h hin hks hI
 generalize sizeOf4 nn = sz at *
 have HM := hid (fun w => mod_any at_ 90 w (by omega) (by omega))
 have hmd := modZ_lt at_ (n := 90) (by omega)
 generalize modZ at_ 90 = md at *
 have HE := hid (fun w => mod_any every 6 w (by omega) (by omega))
 have hme := modZ_lt every (n := 6) (by omega)
 generalize modZ every 6 = me at *
 obtain ⟨m1,hm1⟩ : ∃ m1,m1 = 1 + md := ⟨_,rfl⟩
 have em1 : (1 : Int) + (md : Int) = (m1 : Int) := by omega
 have hm1b : m1 <= 90 := by omega
 have HM1 := hid hm1b
 clear hsz hm1 hmd
 go_enter Tryz.func3,Tryz.ntmps3
 go_wp2_with fail
 refine (newdisk_any w).mono ?_
 rintro e w1 ⟨gd,rfl,hd1,hb1⟩
 have HD1 := hid hd1
 have HB1 := hid hb1
 clear hd1 hb1
 go_wp2_with fail
 refine (HN.out _).mono ?_
 rintro e w2 ⟨rfl,hb2⟩
 have HD2 : Hid (DiskT (From w.heap.size) w2 gd DiskMath.none_) := by
  obtain ⟨F,h1,h2⟩ := HD1.out
  exact ⟨F,h1.new hb2,fun i hi => ⟨(h2 i hi).1,Nat.lt_of_lt_of_le (h2 i hi).2 hb2.size⟩⟩
 have HB2 := hid (held_two HB1.out hb2)
 clear hb2 HD1 HB1
 go_wp2_with fail
 refine (open_live (From w.heap.size) gd 2 sz w2 HD2.out (new_from HB2.out.size) (by omega) (by omega) HSZ.out.1 HSZ.out.2).mono ?_
 rintro e w3 ⟨s,p,g,S,rfl,hl3,ht3⟩
 have HB3 := hid (HB2.out.trans (turn_from ht3 (fun i hi => hi) HB2.out.size))
 have HL3 := hid hl3
 clear hl3 ht3 HD2 HB2
 go_wp2_with fail
 refine (awake_any w3).mono ?_
 rintro e w4 ⟨rfl,hb4⟩
 have HB4 := hid (HB3.out.trans (hb4.mono HB3.out.size))
 have HL4 := hid (HL3.out.new hb4)
 clear hb4 HB3 HL3
 go_wp2_with fail
 refine (HM.out _).mono ?_
 rintro e w4' ⟨rfl,rfl⟩
 go_wp2_with fail
 refine (arm_live (From w.heap.size) s p g gd 2 [] sz 0 0 1 S _ m1 _ HL4.out (new_from HB4.out.size) (by have := HM1.out; omega)).mono ?_
 rintro e w5 ⟨rfl,hl5,ht5⟩
 have HB5 := hid (HB4.out.trans (turn_from ht5 (fun i hi => hi) HB4.out.size))
 have HL5 := hid hl5
 clear hl5 ht5 HB4 HL4 em1 hm1b
 go_upto_block 0 with fail
 go_cut [14,15,16,17,18,19,20] from 52 to 103 (fun va vt vr _ _ _ _ wx => KpEnd w sz gd va vt vr wx)
 case first =>
  go_wp2_with fail
  go_loopw [14,15,16,17] (fun va vt vr vi wr => KpRel w sz s p g gd va vt vr vi wr) (fun _ _ _ vi _ => 30 - (RowKit.intOf vi).toNat)
  case atStart => exact ⟨0,From w.heap.size,[],S,_,none,0,1,0,rfl,rfl,rfl,rfl,by omega,rfl,HL5.out,AllIn.nil_ _ _ _,new_from HB5.out.size,fun j hj => hj,by omega,by omega,by omega,HB5.out⟩
  case round =>
   obtain ⟨i,T,ts,S,d,Aa,ca,x,tr,rfl,rfl,rfl,rfl,hi30,htl,hlv,hall,hnew,hTB,htr0,htr1,hx,hbel⟩ := hrel
   have HLV := hid hlv
   have HAL := hid hall
   have HNW := hid hnew
   have HTB := hid hTB
   have HBE := hid hbel
   have HTL := hid htl
   have HX := hid hx
   have HX1 := hid hlv.x1
   have HTR := hid (And.intro htr0 htr1)
   have hz := hbel.size
   clear hlv hall hnew hTB hbel hx htr0 htr1 HL5 HB5
   by_cases hgo : i < n /\ i < 30
   ·obtain ⟨hlt,hlt2⟩ := hgo
    obtain ⟨b,off,A1,n1,c1,l1,rfl,hb,hcell,hcs,hget,_⟩ := (HL.out.below HBE.out fun _ _ _ _ hh => Row.below hh HBE.out).at_ hlt
    have HOK := hid (HI.out l1 (List.mem_of_getElem? hget))
    have HCS := hid hcs
    have q1 : (i : Int) < (n : Int) := by omega
    have q2 : (i : Int) < 30 := by omega
    clear hcs hget
    go_wp2_with fail
    refine (pchanges_any 2 4 (by omega) (by omega) (by omega) w.heap.size A1 n1 c1 l1 wr HCS.out hz (fun f hf => (HOK.out f hf).2)).mono ?_
    rintro e w4 ⟨cs,A4,n4,c4,rfl,hn4,ho4,hm4,hb4⟩
    have hcl4 : cs.length <= 8 := by have := ho4.1; rw [PChg.gv_length] at this; omega
    have HCL := hid hcl4
    have HO4 := hid (own_mono ho4 hz)
    have HM4 := hid hm4
    have HF4 : Hid (Off (Win T wr.heap.size w4.heap.size) (.slice A4 n4 c4)) := off_win ho4
    have HLW := hid (HLV.out.win hb4)
    have HNW4 := hid (new_win HNW.out hb4.size)
    have HB4 := hid (HBE.out.trans (hb4.mono hz))
    have HWB : Hid (∀ j,Win T wr.heap.size w4.heap.size j -> w.heap.size <= j) := fun j hj => HTB.out j hj.1
    have hz4 := HB4.out.size
    obtain ⟨vs,hvs,hvo,hvl,hvi⟩ := (HAL.out.new hb4).win (a := wr.heap.size) (b := w4.heap.size)
    have HVS := hid hvs
    have HVO := hid hvo
    have HVI := hid hvi
    have HL6 : Hid (Below w4.heap.size w4 (w4.alloc (.cells #[.int .i64 ((i : Int) + 1),.int .i64 1,.slice A4 n4 c4,.slice none 0 0,.int .i64 0] 39))) := (Below.refl _ _).alloc (Nat.le_refl _) _
    clear ho4 hm4 hb4 hcl4 hvs hvo hvi HLV HAL HNW HTB HCS HOK hcell
    go_wp2_with (first
     | (at_builtin
        refine wpList_append_row rfl (.tmp 67) (.tmp 72) rfl PTx.etx w.heap.size _ i vs rfl (own_keep HVS.out HL6.out) _ _ 1 1 (tcells ((i : Int) + 1) 1 0 A4 n4 c4 none 0 0) rfl (PTx.one_tx w4 ((i : Int) + 1) 1 0 A4 n4 c4 none 0 0 rfl) (PTx.tcells_one _ _ _ _ _ _ _ _ _) (by omega) (by omega) (Nat.le_trans hz4 HL6.out.size) ?_
        intro A6 c6 w6 hown6 hg6 hb6
        have HX6 : Hid (∃ T6,AllIn T6 w6 w.heap.size A6 (i + 1) c6 (ts ++ [⟨(i : Int) + 1,1,cs,[],0⟩]) /\ Live T6 w6 s p g gd 2 ts sz (46 * i) (1049240 * i) x S d /\ New T6 w6 /\ (∀ j,T6 j -> w.heap.size <= j) /\ w6.ownsRow w.heap.size 64 4 (.slice A4 n4 c4) n4 (gv cs) /\ Off T6 (.slice A4 n4 c4)) :=
         ⟨_,AllIn.push (x := ⟨(i : Int) + 1,1,cs,[],0⟩) (own_keep HVS.out HL6.out) HVO.out hvl (fun q y hq => (HVI.out q y hq).turn (.new HL6.out)) hown6 hg6 (own_keep HO4.out HL6.out) (World.ownsRow_nil _ _ _ _) HF4.out (fun g hg => by cases hg),
          (HLW.out.new HL6.out).beside hg6 HVO.out,new_win (HNW4.out.le HL6.out.size) hg6.1.size,fun j hj => HWB.out j hj.1,PTx.own_other (own_keep HO4.out HL6.out) (own_keep HVS.out HL6.out) PTx.chg_ne hg6.1,fun g hg hw => HF4.out g hg hw.1⟩
        have HB6 := hid ((HB4.out.trans (HL6.out.mono hz4)).trans hb6)
        clear hown6 hg6 hb6)
     | fail)
    clear HVS HVO HVI HL6 HO4 HF4 HLW HNW4 HB4 HWB
    obtain ⟨T6,g1,g2,g3,g4,g5,g6⟩ := HX6.out
    have HAL6 := hid g1
    have HN6 := hid g3
    have HT6 := hid g4
    have hll : ts.length <= 39 := by omega
    have HCM := hid (commit_live T6 s p g gd 2 ts sz (46 * i) (1049240 * i) x S d A4 n4 c4 cs none 0 0 [] w6 g2 g3 (by omega) (by omega) HSZ.out.1 HSZ.out.2 (by omega) (by omega) hll (Row.of_own g5) (off_lies g6) (Row.nil_ _ _ _) (fun hn => absurd hn (by omega)) HM4.out HCL.out (by simp) (fun f hf => by cases hf))
    have HLO : Hid (Lot 2 (ts ++ [⟨(i : Int) + 1,1,cs,[],0⟩])) := Lot.snoc g2.lot (by omega) hll HM4.out HCL.out (by rw [htl])
    clear g1 g2 g3 g4 g5 g6 HX6 hll
    rw [HTL.out] at HCM
    refine HCM.out.mono ?_
    rintro e w7 ⟨S7,d7,ht7,hsr7,hcap7,⟨rfl,hl7,hlf7⟩ | ⟨rfl,hhalf,_⟩⟩
    ·rw [HTL.out]
     have HL7 := hid hl7
     have HAL7 := hid (HAL6.out.turn ht7)
     have HB7 := hid (HB6.out.trans (turn_from ht7 HT6.out HB6.out.size))
     have HN7 := hid (HN6.out.le ht7.size)
     have HLN : Hid ((ts ++ [(⟨(i : Int) + 1,1,cs,[],0⟩ : Tx)]).length = i + 1) := by show _ = _; rw [List.length_append,HTL.out]; rfl
     obtain ⟨m2,hm2⟩ : ∃ m2,m2 = 1 + me := ⟨_,rfl⟩
     have em2 : (1 : Int) + (me : Int) = (m2 : Int) := by omega
     have hm2c : m2 <= 6 := by omega
     have hm2a : ¬ (m2 : Int) = 0 := by omega
     have hm2b : ((m2 : Int) == 0) = false := by simp; omega
     have htm : (i : Int).tmod (m2 : Int) = ((i % m2 : Nat) : Int) := by rw [Int.tmod_eq_emod_of_nonneg (by omega)]; rfl
     obtain ⟨r,hr⟩ : ∃ r,r = i % m2 := ⟨_,rfl⟩
     rw [<- hr] at htm
     clear hl7 ht7 hsr7 hcap7 hlf7 HCM HAL6 HN6 HB6 hm2 hr
     go_wp2_with fail
     refine (HE.out _).mono ?_
     rintro e w8 ⟨rfl,rfl⟩
     by_cases hr1 : r = 1
     ·subst hr1
      have HTM := hid (fun v (hv : v = (i : Int)) => trim_live T6 s p g gd 2 _ sz _ _ x S7 d7 v _ HL7.out HN7.out (by omega) (by omega) HSZ.out.1 HSZ.out.2 (by omega) (by omega) (by omega) (by rw [HLN.out]; omega))
      go_wp2_with fail
      refine (HTM.out _ (by omega)).mono ?_
      rintro e w9 ⟨S9,d9,x9,ht9,hsr9,hcap9,hxx9,hx9,⟨rfl,hl9,_,_⟩ | ⟨rfl,hends,_⟩⟩
      ·have HL9 : Hid (Live T6 w9 s p g gd 2 (ts ++ [⟨(i : Int) + 1,1,cs,[],0⟩]) sz (46 * (i + 1)) (1049240 * (i + 1)) x9 S9 d9) := hl9.caps (by omega) (by omega)
       have HAL9 := hid (HAL7.out.turn ht9)
       have HB9 := hid (HB7.out.trans (turn_from ht9 HT6.out HB7.out.size))
       have HN9 := hid (HN7.out.le ht9.size)
       have HX9 : Hid ((x9 : Int) <= (i : Int) + 1) := by have := HX1.out; have := HTL.out; show _ <= _; omega
       clear hl9 ht9 hsr9 hcap9 hx9 HTM HL7 HAL7 HB7 HN7
       go_wp2
       go_roundw
       case rel => exact ⟨i + 1,T6,_,S9,d9,A6,c6,x9,i,by go_num,rfl,by go_num,by go_num,by omega,HLN.out,HL9.out,HAL9.out,HN9.out,HT6.out,by omega,by omega,HX9.out,HB9.out⟩
       case measure => simp [RowKit.intOf]; omega
      ·have HAL9 := hid (HAL7.out.turn ht9)
       have HB9 := hid (HB7.out.trans (turn_from ht9 HT6.out HB7.out.size))
       have HN9 := hid (HN7.out.le ht9.size)
       have HLF : Hid (Remain (ts ++ [⟨(i : Int) + 1,1,cs,[],0⟩]) sz (i + 1) i d9) := by
        have h0 := Remain.ends (tr := i) hends (by have := HX1.out; omega) (by have := HX1.out; have := HTL.out; omega)
        rw [HLN.out] at h0
        exact h0
       have HDK := hid hsr9.onDisk
       have HCP : Hid (Cap 1426 32526440 d9) := hcap9.mono (by omega) (by omega)
       clear ht9 hsr9 hcap9 hx9 hends HTM HL7 HAL7 HB7 HN7
       go_wp2_with fail
       go_meet
       exact ⟨i + 1,i + 1,T6,_,d9,A6,c6,i,rfl,by go_num,by go_num,by omega,HLN.out,HLO.out,HDK.out,HCP.out,HAL9.out,HN9.out,HT6.out,by omega,by omega,HLF.out,HB9.out⟩
     ·have hr2 : ((r : Int) == 1) = false := by simp; omega
      have HL9 : Hid (Live T6 w7 s p g gd 2 (ts ++ [⟨(i : Int) + 1,1,cs,[],0⟩]) sz (46 * (i + 1)) (1049240 * (i + 1)) x S7 d7) := HL7.out.caps (by omega) (by omega)
      clear hr1
      go_wp2
      go_roundw
      case rel => exact ⟨i + 1,T6,_,S7,d7,A6,c6,x,tr,by go_num,rfl,by go_num,rfl,by omega,HLN.out,HL9.out,HAL7.out,HN7.out,HT6.out,HTR.out.1,HTR.out.2,HX.out,HB7.out⟩
      case measure => simp [RowKit.intOf]; omega
    ·have HAL7 := hid (HAL6.out.turn ht7)
     have HB7 := hid (HB6.out.trans (turn_from ht7 HT6.out HB6.out.size))
     have HN7 := hid (HN6.out.le ht7.size)
     have HLN : Hid ((ts ++ [(⟨(i : Int) + 1,1,cs,[],0⟩ : Tx)]).length = i + 1) := by show _ = _; rw [List.length_append,HTL.out]; rfl
     have HLF : Hid (Remain (ts ++ [⟨(i : Int) + 1,1,cs,[],0⟩]) sz i tr d7) := by
      have h0 := Remain.half (tr := tr) hhalf HX1.out.1 HX.out
      rw [HTL.out] at h0
      exact h0
     have HDK := hid hsr7.onDisk
     have HCP : Hid (Cap 1426 32526440 d7) := hcap7.mono (by omega) (by omega)
     clear ht7 hsr7 hcap7 hhalf HCM HAL6 HN6 HB6
     go_wp2_with fail
     go_meet
     exact ⟨i + 1,i,T6,_,d7,A6,c6,tr,rfl,rfl,rfl,by omega,HLN.out,HLO.out,HDK.out,HCP.out,HAL7.out,HN7.out,HT6.out,HTR.out.1,HTR.out.2,HLF.out,HB7.out⟩
   ·have HLF : Hid (Remain ts sz i tr d) := by
     have h0 := HLV.out.left HSZ.out.1 HSZ.out.2 HX.out
     rw [HTL.out] at h0
     exact h0
    have HDK := hid HLV.out.at_.onDisk
    have HCP : Hid (Cap 1426 32526440 d) := HLV.out.cap.mono (by omega) (by omega)
    have HLO := hid HLV.out.lot
    rcases (show (i < n /\ ¬ i < 30) \/ (¬ i < n /\ True) from if h : i < n then .inl ⟨h,fun h2 => hgo ⟨h,h2⟩⟩ else .inr ⟨h,trivial⟩) with ⟨hq1,hq2⟩ | ⟨hq1,hq2⟩
    all_goals (
     clear hgo
     go_wp2_with fail
     go_meet
     exact ⟨i,i,T,ts,d,Aa,ca,tr,rfl,rfl,rfl,by omega,HTL.out,HLO.out,HDK.out,HCP.out,HAL.out,HNW.out,HTB.out,HTR.out.1,HTR.out.2,HLF.out,HBE.out⟩)
 case rest =>
 obtain ⟨n',k0,T,ts,d,Aa,ca,tr,rfl,rfl,rfl,hn31,htl,hlot,hdt,hcap,hall,hnew,hTB,htr0,htr1,hleft,hbel⟩ := hcut
 rename_i wc
 have HLO := hid hlot
 have HCP := hid hcap
 have HAL := hid hall
 have HNW := hid hnew
 have HTB := hid hTB
 have HBE := hid hbel
 have HTL := hid htl
 have HDT := hid hdt
 obtain ⟨k,x,hk0,hk1,hkl,hx1,hx2,han⟩ := hleft ks
 have HAN := hid han
 clear hlot hcap hall hnew hTB hbel hdt hleft han HL5 HB5
 rw [htl] at hkl
 go_wp2_with fail
 refine (crash_t T w.heap.size gd d Ak nk ck ks 1426 32526440 _ HDT.out HNW.out HTB.out HBE.out.size (HK.out.below HBE.out) HKI.out HCP.out (by omega)).mono ?_
 rintro e w6 ⟨rfl,hdt6,ht6⟩
 have HDT6 := hid hdt6
 have HAL6 := hid (HAL.out.turn ht6)
 have HN6 := hid (HNW.out.le ht6.size)
 have HB6 := hid (HBE.out.trans (turn_from ht6 HTB.out HBE.out.size))
 clear hdt6 ht6 HDT HAL HNW HBE
 go_wp2_with fail
 refine (HN.out _).mono ?_
 rintro e w7 ⟨rfl,hb7⟩
 have HDT7 : Hid (DiskT T w7 gd (DiskMath.crash d ks)) := by
  obtain ⟨F,h1,h2⟩ := HDT6.out
  exact ⟨F,h1.new hb7,fun i hi => ⟨(h2 i hi).1,Nat.lt_of_lt_of_le (h2 i hi).2 hb7.size⟩⟩
 have HAL7 := hid (HAL6.out.new hb7)
 have HN7 := hid (HN6.out.le hb7.size)
 have HB7 := hid (held_two HB6.out hb7)
 clear hb7 HDT6 HAL6 HN6 HB6
 go_wp2_with fail
 refine (reopen T gd _ 1426 32526440 ts sz x k w7 HDT7.out HN7.out (HCP.out.crash ks) (by omega) (by omega) HLO.out HAN.out hx1 (by omega) HSZ.out.1 HSZ.out.2).mono ?_
 rintro e w8 ⟨s2,p2,g2,S2,d2,rfl,hag,ht8⟩
 have HAG := hid hag
 have HB8 := hid (HB7.out.trans (turn_from ht8 HTB.out HB7.out.size))
 have HTX := hid (HAL7.out.turn ht8).txs
 have HHD := hid (fun wx (hx : Below w8.heap.size w8 wx) => head_any T s2 p2 g2 gd S2 d2 wx (hag.at_.new hx) hag.lok)
 rw [hag.hd] at HHD
 have HLW := hid (fun wx (hx : Below w8.heap.size w8 wx) => low_any T s2 p2 g2 gd S2 d2 wx (hag.at_.new hx))
 rw [hag.low] at HLW
 have HRD := hid (fun (q : Nat) wx (hx : Below w8.heap.size w8 wx) => read_any T s2 p2 g2 gd S2 d2 (q : Int) wx (hag.at_.new hx) hag.lok)
 have hTl : S2.T.length = 2 := by rw [hag.T]; exact SrcMath.tt_length 2 _ _
 have hmo : ∀ t,(Tbl.tab S2.T t).length <= 320 := by
  have : Tbl.Most S2.T 320 := by rw [hag.T]; exact SrcMath.tab_small (SrcMath.tt_most HLO.out _)
  exact this
 obtain ⟨K,hset,_⟩ := hag.at_.set
 have HRO := hid (fun wx t (hx : Below w8.heap.size w8 wx) => Tbl.rows_any K p2 S2.T t wx (hset.new hx) (by have := hmo t; omega))
 have HC0 := hid (fun wx (hx : Below w8.heap.size w8 wx) => (hag.at_.new hx).cells.1)
 have hq1 : decide (k < k0) = false := by simp; omega
 have hq2 : decide ((k0 : Int) + 1 < (k : Int)) = false := by simp; omega
 have hq3 : decide (n' < k) = false := by simp; omega
 have hq4 : decide (x = 0) = false := by simp; omega
 have hq4' : ¬ x = 0 := by omega
 have hq5 : decide (tr + 1 < (x : Int)) = false := by simp; omega
 clear hag ht8 hset hmo HDT7 HAL7 HN7 HB7 HAN hk1
 go_wp2_with fail
 refine (HHD.out _ (Below.refl _ _)).mono ?_
 rintro e w9 ⟨rfl,hb9⟩
 have HB9 := hid hb9
 clear hb9
 go_wp2_with fail
 refine (HHD.out _ HB9.out).mono ?_
 rintro e w10 ⟨rfl,hb10⟩
 have HB10 := hid (held_two HB9.out hb10)
 clear hb10
 go_wp2_with fail
 refine (HHD.out _ HB10.out).mono ?_
 rintro e w11 ⟨rfl,hb11⟩
 have HB11 := hid (held_two HB10.out hb11)
 clear hb11
 go_wp2_with fail
 refine (HLW.out _ HB11.out).mono ?_
 rintro e w12 ⟨rfl,rfl⟩
 go_wp2_with fail
 refine (HLW.out _ HB11.out).mono ?_
 rintro e w12 ⟨rfl,rfl⟩
 go_wp2_with fail
 refine (HLW.out _ HB11.out).mono ?_
 rintro e w12 ⟨rfl,rfl⟩
 go_wp2
 go_loopw [21] (fun v wr => ∃ q : Nat,v = .int .i64 q /\ x <= q /\ q <= max x (k + 1) /\ Below w8.heap.size w8 wr) (fun v _ => k + 1 - (RowKit.intOf v).toNat)
 case atStart => exact ⟨x,rfl,Nat.le_refl _,by omega,HB11.out⟩
 case round =>
  clear HB9 HB10 HB11
  obtain ⟨q,rfl,hxq,hqk,hbr⟩ := hrel
  have HBR := hid hbr
  clear hbr
  go_wp2_with fail
  refine (HHD.out _ HBR.out).mono ?_
  rintro e w9 ⟨rfl,hb9⟩
  have HB9 := hid (held_two HBR.out hb9)
  clear hb9 HBR
  by_cases hgo : q <= k
  ·have l1 : (q : Int) <= (k : Int) := by omega
   obtain ⟨q1,hq⟩ : ∃ q1,q = q1 + 1 := ⟨q - 1,by omega⟩
   have eq1 : (q : Int) - 1 = (q1 : Int) := by omega
   have hiw : IntKind.i64.wrap ((q : Int) - 1) = (q1 : Int) := by rw [IntWalk.i64_in _ (by omega)]; omega
   have hqn : q1 < n' := by omega
   have hqi : (q1 : Int) < (n' : Int) := by omega
   have hqw : IntKind.i64.wrap (q1 : Int) = (q1 : Int) := IntWalk.i64_in _ (by omega)
   obtain ⟨b,off,t,hAa,hbB,hget,hta⟩ := HTX.out.at_ hqn
   have HEN := hid (HAG.out.entry hx1 hxq hgo (by omega) (t := t) (by rw [show q - 1 = q1 by omega]; exact hget))
   have HDE := hid (TxnMath.decT_enc (HLO.out.fine.may t (List.mem_of_getElem? hget)))
   have HR1 := HRD.out q _ HB9.out
   rw [HEN.out] at HR1
   have HR2 := hid HR1
   have HTA := hid hta
   clear hget hta HR1 hq
   subst hAa
   go_wp2_with fail
   refine HR2.out.mono ?_
   intro e w10 hr
   replace hr : Txn.DecO w9 _ e w10 := hr
   unfold Txn.DecO SrcMath.ent at hr
   rw [HDE.out] at hr
   obtain ⟨A5,n5,c5,A6,n6,c6,rfl,h1,h2,hb10⟩ := hr
   simp only [Txn.gotX,FieldMath.err] at h1 h2 ⊢
   have HH1 := hid (Row.of_own h1)
   have HH2 := hid (Row.of_own h2)
   have HB10 := hid (held_two HB9.out hb10)
   clear h1 h2 hb10 HR2
   unfold Txn.txv
   obtain ⟨B1,m1,d1,B2,m2,dd2,x0,x1,x2,x3,x4,hcs,hss⟩ := HTA.out
   have HW : Hid (Below w8.heap.size w8 (w10.alloc (.cells #[.int .i64 t.lsn,.int .i64 t.kind,.slice A5 n5 c5,.slice A6 n6 c6,.int .i64 t.mark] 39))) := HB10.out.alloc HB10.out.size _
   have HY : Hid (Blk (w10.alloc (.cells #[.int .i64 t.lsn,.int .i64 t.kind,.slice A5 n5 c5,.slice A6 n6 c6,.int .i64 t.mark] 39)) w10.heap.size 39 #[.int .i64 t.lsn,.int .i64 t.kind,.slice A5 n5 c5,.slice A6 n6 c6,.int .i64 t.mark]) := Blk.new _ _ _
   have HIN : Hid (TxIn (w10.alloc (.cells #[.int .i64 t.lsn,.int .i64 t.kind,.slice A5 n5 c5,.slice A6 n6 c6,.int .i64 t.mark] 39)) w10.heap.size t (.agg #[.int .i64 t.lsn,.int .i64 t.kind,.slice A5 n5 c5,.slice A6 n6 c6,.int .i64 t.mark])) := ⟨A5,n5,c5,A6,n6,c6,rfl,Row.alloc HH1.out (Nat.le_refl _) _,Row.alloc HH2.out (Nat.le_refl _) _⟩
   have HIM : Hid (TxIn w8 w8.heap.size t (.agg #[.int .i64 t.lsn,.int .i64 t.kind,.slice B1 m1 d1,.slice B2 m2 dd2,.int .i64 t.mark])) := ⟨B1,m1,d1,B2,m2,dd2,rfl,hcs,hss⟩
   go_upto_region 29 with fail
   have hWs : w10.heap.size <= (w10.alloc (.cells #[.int .i64 t.lsn,.int .i64 t.kind,.slice A5 n5 c5,.slice A6 n6 c6,.int .i64 t.mark] 39)).heap.size := by simp
   generalize (w10.alloc (.cells #[.int .i64 t.lsn,.int .i64 t.kind,.slice A5 n5 c5,.slice A6 n6 c6,.int .i64 t.mark] 39)) = W at HW HY HIN hWs ⊢
   have HSM := hid (fun wx (hx : Below W.heap.size W wx) => Txn.txnsame_any w10.heap.size w8.heap.size t _ _ wx (HIN.out.below (hx.mono hWs)) (HIM.out.below (HW.out.trans (hx.mono HW.out.size))) (Nat.le_trans hWs hx.size) (Nat.le_trans HW.out.size hx.size))
   have HCC : Hid (∀ wx,Below W.heap.size W wx -> (wx.cell? ⟨w10.heap.size,0,none⟩ = some (.int .i64 t.lsn) /\ wx.cell? ⟨w10.heap.size,1,none⟩ = some (.int .i64 t.kind) /\ wx.cell? ⟨w10.heap.size,2,none⟩ = some (.slice A5 n5 c5) /\ wx.cell? ⟨w10.heap.size,3,none⟩ = some (.slice A6 n6 c6) /\ wx.cell? ⟨w10.heap.size,4,none⟩ = some (.int .i64 t.mark)) /\ (wx.cell? ⟨b,off + q1 * 5,none⟩ = some (.int .i64 t.lsn) /\ wx.cell? ⟨b,off + q1 * 5 + 1,none⟩ = some (.int .i64 t.kind) /\ wx.cell? ⟨b,off + q1 * 5 + 2,none⟩ = some (.slice B1 m1 d1) /\ wx.cell? ⟨b,off + q1 * 5 + 3,none⟩ = some (.slice B2 m2 dd2) /\ wx.cell? ⟨b,off + q1 * 5 + 4,none⟩ = some (.int .i64 t.mark)) /\ Below W.heap.size W wx) := fun wx hx => by
    have hy := HY.out.below hx HY.out.lt
    have hc : ∀ o,wx.cell? ⟨b,o,none⟩ = w8.cell? ⟨b,o,none⟩ := fun o => (HW.out.trans (hx.mono HW.out.size)).cell (p := ⟨b,o,none⟩) hbB
    exact ⟨⟨hy.cell 0,hy.cell 1,hy.cell 2,hy.cell 3,hy.cell 4⟩,⟨(hc _).trans x0,(hc _).trans x1,(hc _).trans x2,(hc _).trans x3,(hc _).trans x4⟩,hx⟩
   clear x0 x1 x2 x3 x4 hcs hss hWs
   go_cut [177] (fun v wx => v = .bool false /\ Below W.heap.size W wx)
   case first =>
    go_region_held3 (fun wx => (wx.cell? ⟨w10.heap.size,0,none⟩ = some (.int .i64 t.lsn) /\ wx.cell? ⟨w10.heap.size,1,none⟩ = some (.int .i64 t.kind) /\ wx.cell? ⟨w10.heap.size,2,none⟩ = some (.slice A5 n5 c5) /\ wx.cell? ⟨w10.heap.size,3,none⟩ = some (.slice A6 n6 c6) /\ wx.cell? ⟨w10.heap.size,4,none⟩ = some (.int .i64 t.mark)) /\ (wx.cell? ⟨b,off + q1 * 5,none⟩ = some (.int .i64 t.lsn) /\ wx.cell? ⟨b,off + q1 * 5 + 1,none⟩ = some (.int .i64 t.kind) /\ wx.cell? ⟨b,off + q1 * 5 + 2,none⟩ = some (.slice B1 m1 d1) /\ wx.cell? ⟨b,off + q1 * 5 + 3,none⟩ = some (.slice B2 m2 dd2) /\ wx.cell? ⟨b,off + q1 * 5 + 4,none⟩ = some (.int .i64 t.mark)) /\ Below W.heap.size W wx)
     (first | exact HCC.out _ (held_start W) | assumption | (go_split_ands; exact HCC.out _ (held_call (by assumption) hbc)) | fail)
     (first
       | (go_at_call 20; go_split_ands; refine (HSM.out _ (by assumption)).mono ?_; rintro e wc ⟨rfl,hbc⟩)
       | fail)
    all_goals (
     go_wp2_with fail
     go_meet
     exact ⟨rfl,by first | assumption | exact held_call (by assumption) hbc⟩)
   case rest =>
   obtain ⟨rfl,hbc⟩ := hcut
   have HBC : Hid (Below w8.heap.size w8 _) := HW.out.trans (hbc.mono HW.out.size)
   clear hbc HSM HCC HIN HIM
   go_wp2
   go_roundw
   case rel => exact ⟨q + 1,by go_num,by omega,by omega,HBC.out⟩
   case measure => simp [RowKit.intOf]; omega
  ·have l1 : ¬ (q : Int) <= (k : Int) := by omega
   have hcs := HLO.out.chs
   have hTT : FoldMath.foldT 2 ts (k : Int) = S2.T := by
    rw [HAG.out.T]
    unfold FoldMath.foldT tt
    rw [if_pos (by omega),FoldMath.held_nat (by omega)]
    rfl
   go_wp2_with fail
   refine (HHD.out _ HB9.out).mono ?_
   rintro e w10 ⟨rfl,hb10⟩
   have HB10 := hid (held_two HB9.out hb10)
   clear hb10 HB9
   have HFO := hid (Fold.reffold_any 2 w8.heap.size Aa n' ca ts (k : Int) w10 (HTX.out.below HB10.out) HB10.out.size (by have := hcs n'; omega))
   rw [hTT] at HFO
   clear hTT hcs
   go_wp2_with fail
   refine HFO.out.mono ?_
   rintro e w11 ⟨A4,n4,c4,rfl,hls,hb4⟩
   obtain rfl : 2 = n4 := by rw [<- hls.len,hTl]
   obtain ⟨b0,o0,B0,m0,k9,r0,rfl,hb0,y0,hr0,hg0,_⟩ := hls.at_ (k := 0) (by omega)
   obtain ⟨b1,o1,B1,m1,k1,r1,e1,hb1,y1,hr1,hg1,_⟩ := hls.at_ (k := 1) (by omega)
   injection e1 with e1
   injection e1 with e1 e2
   subst e1 e2
   have ht0 : Tbl.tab S2.T 0 = r0 := Tbl.tab_get (i := 0) (by omega) hg0
   have ht1 : Tbl.tab S2.T 1 = r1 := Tbl.tab_get (i := 1) (by omega) hg1
   have HZ0 := hid hr0.1
   have HZ1 := hid hr1.1
   rw [<- ht0] at HZ0
   rw [<- ht1] at HZ1
   have HPL : Hid (∀ (wx : World) (base : Nat) (D : Option Addr) (dn dc : Nat) (l : List Rw) (B : Option Addr) (m k : Nat),Below w11.heap.size w11 wx -> wx.ownsRow base 52 2 (.slice D dn dc) dn (rv l) -> ((B = B0 /\ m = m0 /\ k = k9 /\ l = Tbl.tab S2.T 0) \/ (B = B1 /\ m = m1 /\ k = k1 /\ l = Tbl.tab S2.T 1)) ->
    Calls Tryz.prog 22 #[.slice D dn dc,.slice B m k] wx fun e w' => e = .returned (.bool true) /\ Below wx.heap.size wx w') := fun wx base D dn dc l B m k hx hd hor => by
    rcases hor with ⟨rfl,rfl,rfl,rfl⟩ | ⟨rfl,rfl,rfl,rfl⟩
    ·exact Idx.rplain_same _ _ _ _ _ _ _ _ _ wx (Rs.of_own hd) (HZ0.out.below hx) (Nat.le_refl _) hx.size
    ·exact Idx.rplain_same _ _ _ _ _ _ _ _ _ wx (Rs.of_own hd) (HZ1.out.below hx) (Nat.le_refl _) hx.size
   have HB11 := hid (held_two HB10.out hb4)
   have HCC : Hid (∀ wx,Below w11.heap.size w11 wx -> wx.cell? ⟨s2,0,none⟩ = some (.pointer (some ⟨p2,0,none⟩)) /\ wx.cell? ⟨b0,o0,none⟩ = some (.slice B0 m0 k9) /\ wx.cell? ⟨b0,o0 + 1,none⟩ = some (.slice B1 m1 k1) /\ Below w11.heap.size w11 wx) := fun wx hx => ⟨(HC0.out wx (held_two HB11.out hx)),(hx.cell (p := ⟨b0,o0,none⟩) hb0).trans y0,(hx.cell (p := ⟨b0,o0 + 1,none⟩) hb0).trans y1,hx⟩
   clear hls hb4 hr0 hr1 hg0 hg1 ht0 ht1
   go_upto_region 32 with fail
   go_region_held3 (fun wx => wx.cell? ⟨s2,0,none⟩ = some (.pointer (some ⟨p2,0,none⟩)) /\ wx.cell? ⟨b0,o0,none⟩ = some (.slice B0 m0 k9) /\ wx.cell? ⟨b0,o0 + 1,none⟩ = some (.slice B1 m1 k1) /\ Below w11.heap.size w11 wx)
    (first | exact HCC.out _ (held_start w11) | assumption | (go_split_ands; exact HCC.out _ (held_call (by assumption) hbc)) | fail)
    (first
      | (go_at_call 23; go_split_ands; refine (HRO.out _ _ (held_two HB11.out (by assumption))).mono ?_; rintro e wc ⟨D0,d0c,rfl,hd,hbc⟩)
      | (go_at_call 22; go_split_ands; refine (HPL.out _ _ _ _ _ _ _ _ _ (by assumption) hd (by first | exact .inl ⟨rfl,rfl,rfl,rfl⟩ | exact .inr ⟨rfl,rfl,rfl,rfl⟩)).mono ?_; rintro e wc ⟨rfl,hbc⟩)
      | fail)
   all_goals (
    go_wp2
    go_ret
    exact ⟨rfl,held_two HB8.out (held_two HB11.out (by first | assumption | exact held_call (by assumption) hbc))⟩)
end Src
end Go.Proofs.YtefnmnpfecfdaaaGreat
namespace Go.Proofs.YtefnmnpfecfdaaaGreat.sourceKeeps
open Go.ChangeShapes Go.WideShapes Go.ChangeAt Go.RowKit
open Go.ChangeMaps (open_string shut_string)
set_option linter.unusedVariables false
theorem own : ownKnob Tryz.prog.godebug = none := by kernel_rfl
theorem laidOut : laidOutB Tryz.prog = true := by kernel_rfl
set_option maxRecDepth 100000 in
theorem lifted (os : Os) (started : os.Started) (H : Type) (enc : TypeId × Value → H) :
 ReturnsInHanded {} Tryz.checked os 3 .any (Rows.sourceKeepsSpec.pre6 enc Tryz.prog Tryz.f3 Rows.sourceKeepsRow.domain false) (Rows.sourceKeepsSpec.post enc Tryz.prog Tryz.f3 false true false false) := by
 refine returnsInHanded_of_change (C := Tryz.checked) own started (by kernel_rfl) Tryz.func3
  (ChangeSpec.witness6 (enc := enc) (C := Tryz.checked) false ⟨#[], #[.int .i64 0, .slice none 0 0, .int .i64 0, .int .i64 0, .slice none 0 0], []⟩ 8 (by kernel_rfl) (by kernel_rfl) (by kernel_rfl) (by kernel_rfl)) ?_
 intro W base args ds gs before hval0 hW hcnd _
 have hval : ∀ (j : Nat) t v, Tryz.f3.params[j]? = some t → args[j]? = some v → Value.okWide Tryz.prog W .any base t v := hval0
 have hW' := hW
 obtain ⟨p, q, hA0, hV, rfl, hfz, hnd⟩ := hW
 have hA : DataW.TrodAll enc Tryz.prog W 0 (fun _ => true) true Tryz.f3.params.toList args.toList ds p := hA0
 rw [Tryz.params3] at hA hval
 obtain ⟨v0, vs0, d0, ds0, p0, q0, hargs, rfl, rfl, h0, r0⟩ := trodAll_cons hA
 obtain ⟨v1, vs1, d1, ds1, p1, q1, rfl, rfl, rfl, h1, r1⟩ := trodAll_cons r0
 obtain ⟨v2, vs2, d2, ds2, p2, q2, rfl, rfl, rfl, h2, r2⟩ := trodAll_cons r1
 obtain ⟨v3, vs3, d3, ds3, p3, q3, rfl, rfl, rfl, h3, r3⟩ := trodAll_cons r2
 obtain ⟨v4, vs4, d4, ds4, p4, q4, rfl, rfl, rfl, h4, r4⟩ := trodAll_cons r3
 obtain ⟨rfl, rfl, rfl⟩ := trodAll_nil r4
 obtain rfl : args = #[v0, v1, v2, v3, v4] := by cases args; simp_all
 obtain ⟨rfl, rfl⟩ := trodVars_none hV
 obtain ⟨a0, rfl, rfl, rfl, w0⟩ := open_int Tryz.underlying3 (hval 0 3 v0 rfl rfl) h0
 obtain ⟨a1, len1, cap1, rfl⟩ := okWide_slice Tryz.underlying22 (hval 1 22 v1 rfl rfl)
 have k1 := h1
 have lt1 : ∀ x ∈ p1, x.block < W.heap.size := by obtain ⟨m, hm⟩ := k1; exact DataW.trod_lt m _ _ _ hm
 obtain ⟨l1, w1⟩ := Tbl.open_lists h1
 obtain ⟨a2, rfl, rfl, rfl, w2⟩ := open_int Tryz.underlying3 (hval 2 3 v2 rfl rfl) h2
 obtain ⟨a3, rfl, rfl, rfl, w3⟩ := open_int Tryz.underlying3 (hval 3 3 v3 rfl rfl) h3
 obtain ⟨a4, len4, cap4, rfl⟩ := okWide_slice Tryz.underlying23 (hval 4 23 v4 rfl rfl)
 have k4 := h4
 have lt4 : ∀ x ∈ p4, x.block < W.heap.size := by obtain ⟨m, hm⟩ := k4; exact DataW.trod_lt m _ _ _ hm
 obtain ⟨l4, w4⟩ := Disk.open_ints_row h4
 clear hA0 hval0
 refine (Src.keeps_walk a0 a1 len1 cap1 l1 a2 a3 a4 len4 cap4 l4 W w1.1 w1.2 w4.1 w4.2).mono fun e W' ⟨he, bel⟩ => ?_
 subst he
 exact ⟨_, rfl, _, _, _, [], _, [], hW', trodAll_mk1 (shut_bool Tryz.underlying4 _), (trodAll_cons_mk (shut_int Tryz.underlying3 w0) (trodAll_cons_mk (Below.trod laidOut (by kernel_rfl) (of_decide_eq_true (by kernel_rfl)) k1 bel lt1) (trodAll_cons_mk (shut_int Tryz.underlying3 w2) (trodAll_cons_mk (shut_int Tryz.underlying3 w3) (trodAll_cons_mk (Below.trod laidOut (by kernel_rfl) (of_decide_eq_true (by kernel_rfl)) k4 bel lt4) trodAll_mk0))))), rfl, bel.frame _, fun h => by cases h⟩
theorem over : Rows.sourceKeepsRow.holds Tryz.pinned (OpenSpec.ofChange Rows.sourceKeepsSpec) :=
 OpenClaim.holds_of_wide 3 Tryz.f3 rfl rfl rfl rfl rfl rfl rfl ⟨rfl, rfl, rfl, rfl, rfl⟩ rfl rfl rfl rfl rfl (by kernel_rfl) Tryz.func3 (by kernel_rfl)
  (of_decide_eq_true (by kernel_rfl)) (by unfold Func.isWrapper; first | (rw [if_pos (by decide +kernel)]; kernel_rfl) | (rw [if_neg (by decide +kernel)]; exact ⟨rfl, rfl⟩))
  (fun os started H enc _ => lifted os started H enc)
end Go.Proofs.YtefnmnpfecfdaaaGreat.sourceKeeps
namespace Go.Proofs.YtefnmnpfecfdaaaGreat
theorem sourceKeeps_holds : Rows.SourceKeepsSaid := sourceKeeps.over
end Go.Proofs.YtefnmnpfecfdaaaGreat
#print axioms Go.Proofs.YtefnmnpfecfdaaaGreat.sourceKeeps_holds
