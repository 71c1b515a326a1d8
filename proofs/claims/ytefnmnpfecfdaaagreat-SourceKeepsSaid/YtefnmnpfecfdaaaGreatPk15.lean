/-
  Texts of one proof: IdxCode, IdxNew, TblCode, TblLoad.
-/
import Derived.Test.YtefnmnpfecfdaaaGreatPk14
import Derived.Test.YtefnmnpfecfdaaaGreatPk04
set_option linter.all false
set_option maxRecDepth 100000
set_option maxHeartbeats 1600000
open Go.Lib (hid)
namespace Go.Proofs.YtefnmnpfecfdaaaGreat
namespace Idx
open Go.RowKit Base IdxMath Foot
open Go.Sort (grow)
def IdxAt (w : World) (F : Nat -> Prop) (p : Nat) (l : List Rw) : Prop :=
 ∃ A c,Blk w p 197 #[.slice A l.length c] /\ F p /\ w.ownsRow 0 52 2 (.slice A l.length c) l.length (rv l) /\ (∀ g,(Value.slice A l.length c).ownBlock = some g -> F g) /\ Rise l
section
variable {w w' : World} {F F' : Nat -> Prop} {p : Nat} {l : List Rw}
theorem IdxAt.keep (h : IdxAt w F p l) (hk : ∀ i,i < w.heap.size -> F i -> w'.heap[i]? = w.heap[i]?) : IdxAt w' F p l := by
 obtain ⟨A,c,h1,h2,h3,h4,h5⟩ := h
 exact ⟨A,c,(hk p h1.lt h2).trans h1,h2,own_same h3 fun g hg => hk g (own_lt h3 hg) (h4 g hg),h4,h5⟩
theorem IdxAt.mono (h : IdxAt w F p l) (hF : ∀ i,i < w.heap.size -> F i -> F' i) : IdxAt w F' p l := by
 obtain ⟨A,c,h1,h2,h3,h4,h5⟩ := h
 exact ⟨A,c,h1,hF _ h1.lt h2,h3,fun g hg => hF g (own_lt h3 hg) (h4 g hg),h5⟩
theorem IdxAt.below {B : Nat} (h : IdxAt w F p l) (hb : Below B w w') (hB : w.heap.size <= B) : IdxAt w' F p l := h.keep fun i hi _ => hb.block i (by omega)
theorem IdxAt.new (h : IdxAt w F p l) (hb : Below w.heap.size w w') : IdxAt w' F p l := h.below hb (Nat.le_refl _)
theorem IdxAt.rise (h : IdxAt w F p l) : Rise l := by obtain ⟨A,c,h1,h2,h3,h4,h5⟩ := h; exact h5
end
theorem place_any (F : Nat -> Prop) (p : Nat) (l : List Rw) (k : Int) (w : World) (h : IdxAt w F p l) (hsz : l.length <= 1099511627775) :
 Calls Tryz.prog 194 #[.pointer (some ⟨p,0,none⟩),.int .i64 k] w (Sought w l k) := by
 obtain ⟨A,c,h1,h2,h3,h4,h5⟩ := h
 have HR := hid (Rs.of_own h3)
 have c0 : w.cell? ⟨p,0,none⟩ = some (.slice A l.length c) := h1.cell 0
 have HS := hid h5
 clear h1 h2 h3 h4 h5
 go_enter Tryz.func194,Tryz.ntmps194
 go_wp2_with fail
 refine (search_any w.heap.size A l.length c l ⟨k,⟨#[]⟩⟩ _ HR.out (Nat.le_refl _) HS.out (by omega)).mono ?_
 rintro e w1 ⟨rfl,hb⟩
 have HB := hid hb
 clear hb
 dsimp only
 go_wp2
 go_ret2
 exact ⟨rfl,HB.out⟩
theorem len_any (F : Nat -> Prop) (p : Nat) (l : List Rw) (w : World) (h : IdxAt w F p l) :
 Calls Tryz.prog 168 #[.pointer (some ⟨p,0,none⟩)] w fun e w' => e = .returned (.int .i64 l.length) /\ w = w' := by
 obtain ⟨A,c,h1,h2,h3,h4,h5⟩ := h
 have c0 : w.cell? ⟨p,0,none⟩ = some (.slice A l.length c) := h1.cell 0
 clear h1 h2 h3 h4 h5
 go_enter Tryz.func168,Tryz.ntmps168
 go_wp2
 go_ret
 exact ⟨rfl,rfl⟩
theorem all_any (F : Nat -> Prop) (p : Nat) (l : List Rw) (w : World) (h : IdxAt w F p l) (hsz : l.length <= 1099511627775) :
 Calls Tryz.prog 61 #[.pointer (some ⟨p,0,none⟩)] w (NewRows w l) := by
 obtain ⟨A,c,h1,h2,h3,h4,h5⟩ := h
 have HR := hid (Rs.of_own h3)
 have c0 : w.cell? ⟨p,0,none⟩ = some (.slice A l.length c) := h1.cell 0
 clear h1 h2 h3 h4 h5
 go_enter Tryz.func61,Tryz.ntmps61
 go_wp2_with fail
 refine (clone_any w.heap.size A l.length c l _ HR.out (Nat.le_refl _) (by omega)).mono ?_
 rintro e w1 ⟨A1,c1,rfl,h1,h2⟩
 have H1 := hid (And.intro h1 h2)
 clear h1 h2
 go_wp2
 go_ret
 exact ⟨A1,c1,rfl,H1.out.1,H1.out.2⟩
def getV (l : List Rw) (k : Int) : ByteArray := (get l k).getD ⟨#[]⟩
theorem get_any (F : Nat -> Prop) (p : Nat) (l : List Rw) (k : Int) (w : World) (h : IdxAt w F p l) (hsz : l.length <= 1099511627775) :
 Calls Tryz.prog 213 #[.pointer (some ⟨p,0,none⟩),.int .i64 k] w fun e w' => e = .returned (.tuple #[.string (getV l k),.bool (get l k).isSome]) /\ Below w.heap.size w w' := by
 have HP := hid (place_any F p l k w h hsz)
 have hrise := h.rise
 have HI := hid h
 have HG := hid (IdxMath.get_at hrise k)
 clear h
 cases ht : there l k with
 | false =>
   have HT := hid ht
   clear ht
   go_enter Tryz.func213,Tryz.ntmps213
   go_wp2_with fail
   refine HP.out.mono ?_
   rintro e w1 ⟨rfl,hb⟩
   rw [HT.out]
   have HB := hid hb
   clear hb
   go_wp2
   go_ret2
   exact ⟨by unfold getV; rw [HG.out,HT.out]; rfl,HB.out⟩
 | true =>
   obtain ⟨x,hx,hxk⟩ := pos_split l k ht
   have hlt := pos_lt ht
   have HT := hid ht
   have HX := hid hx
   clear ht hx
   generalize hpos : pos l k = i at *
   have HPOS := hid hpos
   clear hpos
   go_enter Tryz.func213,Tryz.ntmps213
   go_wp2_with fail
   refine HP.out.mono ?_
   rintro e w1 ⟨rfl,hb⟩
   rw [HT.out,HPOS.out]
   obtain ⟨A,c,h1,h2,h3,h4,h5⟩ := HI.out.new hb
   obtain ⟨b,rfl,ha⟩ := own_arr h3 rfl (by omega)
   obtain ⟨c1,c2⟩ := ha.get HX.out
   have c0 : w1.cell? ⟨p,0,none⟩ = some (.slice (some ⟨b,0,none⟩) l.length c) := h1.cell 0
   have HB := hid hb
   have l1 : (i : Int) < (l.length : Int) := by omega
   clear hb h1 h2 h3 h4 h5 ha
   go_wp2
   go_ret2
   have HGV := HG.out
   rw [HT.out,HX.out] at HGV
   exact ⟨by unfold getV; rw [HGV]; rfl,HB.out⟩
def Turned (w : World) (F : Nat -> Prop) (p : Nat) (b : Bool) (l : List Rw) (e : Ending) (w' : World) : Prop :=
 e = .returned (.bool b) /\ IdxAt w' (Out F w w') p l /\ Turn F w w'
theorem put_any (F : Nat -> Prop) (p : Nat) (l : List Rw) (k : Int) (v : ByteArray) (w : World) (h : IdxAt w F p l) (hsz : l.length <= 1099511627774) :
 Calls Tryz.prog 227 #[.pointer (some ⟨p,0,none⟩),.int .i64 k,.string v] w (Turned w F p (!there l k) (put l k v)) := by
 have HP := hid (place_any F p l k w h (by omega))
 have hrise := h.rise
 have HI := hid h
 have HRI := hid (hrise.put k v)
 cases ht : there l k with
 | true =>
   have hlt := pos_lt ht
   have HPUT := hid (put_there (v := v) ht)
   have HT := hid ht
   clear h hrise ht
   generalize hpos : pos l k = i at *
   have HPOS := hid hpos
   clear hpos
   go_enter Tryz.func227,Tryz.ntmps227
   go_wp2_with fail
   refine HP.out.mono ?_
   rintro e w1 ⟨rfl,hb⟩
   rw [HT.out,HPOS.out]
   obtain ⟨A,c,h1,h2,h3,h4,h5⟩ := HI.out.new hb
   obtain ⟨b,rfl,ha⟩ := own_arr h3 rfl (by omega)
   have hFb : F b := h4 b rfl
   obtain ⟨x,hx⟩ : ∃ x,l[i]? = some x := ⟨_,List.getElem?_eq_getElem hlt⟩
   obtain ⟨c1,c2⟩ := ha.get hx
   have c0 : w1.cell? ⟨p,0,none⟩ = some (.slice (some ⟨b,0,none⟩) l.length c) := h1.cell 0
   have f1 := ha.frozen (i * 2 + 1)
   have l1 : (i : Int) < (l.length : Int) := by omega
   have hset : Arr (w1.setCell ⟨b,i * 2 + 1,none⟩ (.string v)) b c (put l k v) := by
    rw [HPUT.out]
    obtain ⟨cur,k1,k2,k3,k4,k5⟩ := ha
    refine ⟨_,k1.set_ _ _,by rw [List.length_set]; exact k2,k3,by simp [k4],?_⟩
    rw [Array.toList_setIfInBounds,List.length_set,List.take_set,k5]
    obtain ⟨y,hy,hyk⟩ := pos_split l k HT.out
    rw [HPOS.out] at hy
    rw [rv_set]
    have e1 := (rv_get l i y hy).1
    rw [hyk] at e1
    have e2 : (rv l).set (i * 2) (.int .i64 k) = rv l := by
     apply List.ext_getElem?
     intro j
     rw [List.getElem?_set]
     split
     ·next hj =>
      subst hj
      split
      ·exact e1.symm
      ·next hn => rw [List.getElem?_eq_none (by omega)]
     ·rfl
    rw [e2]
   have hlen : (put l k v).length = l.length := by rw [HPUT.out,List.length_set]
   have hne : p ≠ b := by
    rintro rfl
    obtain ⟨cur,k1,_⟩ := ha
    have := h1.symm.trans k1
    simp at this
   have hp2 : Blk (w1.setCell ⟨b,i * 2 + 1,none⟩ (.string v)) p 197 #[.slice (some ⟨b,0,none⟩) l.length c] := h1.far hne _
   have HFIN : Hid (IdxAt (w1.setCell ⟨b,i * 2 + 1,none⟩ (.string v)) (Out F w (w1.setCell ⟨b,i * 2 + 1,none⟩ (.string v))) p (put l k v) /\ Turn F w (w1.setCell ⟨b,i * 2 + 1,none⟩ (.string v))) :=
    ⟨⟨some ⟨b,0,none⟩,c,by rw [hlen]; exact hp2,.inl h2,by have := hset.own (base := 0) (Nat.zero_le _); exact this,fun g hg => by injection hg with hg; subst hg; exact .inl hFb,HRI.out⟩,(Turn.new hb).setCell (.inl hFb) _⟩
   clear hb h1 h2 h3 h4 h5 ha hFb hx hset hne hp2
   go_wp2
   go_ret
   exact ⟨rfl,HFIN.out.1,HFIN.out.2⟩
 | false =>
   have hple := pos_le l k
   have HPUT := hid (put_new (v := v) ht)
   have HLEN := hid (show (put l k v).length = l.length + 1 by rw [put_length,ht]; rfl)
   have HT := hid ht
   clear h hrise ht
   generalize hpos : pos l k = i at *
   have HPOS := hid hpos
   clear hpos
   go_enter Tryz.func227,Tryz.ntmps227
   go_wp2_with fail
   refine HP.out.mono ?_
   rintro e w1 ⟨rfl,hb⟩
   rw [HT.out,HPOS.out]
   obtain ⟨A,c,h1,h2,h3,h4,h5⟩ := HI.out.new hb
   have c0 : w1.cell? ⟨p,0,none⟩ = some (.slice A l.length c) := h1.cell 0
   have HX := hid (Blk.new w1 52 #[.int .i64 k,.string v])
   have hbx : Below w1.heap.size w1 (w1.alloc (.cells #[.int .i64 k,.string v] 52)) := (Below.refl _ _).alloc (Nat.le_refl _) _
   have HO := hid (own_keep h3 hbx)
   have HNE := hid (show (Value.slice A l.length c).ownBlock ≠ some w1.heap.size from fun e => by have := own_lt h3 e; omega)
   have HB := hid hb
   have H1 := hid (h1.alloc (.cells #[.int .i64 k,.string v] 52))
   have H2 := hid (And.intro h2 h4)
   have hpw := h1.lt
   have HBX := hid hbx
   clear hb h1 h2 h3 h4 h5 hbx
   go_wp2_with fail
   refine (insert_any A l.length c l i ⟨k,v⟩ w1.heap.size _ HO.out rfl hple HX.out HNE.out (by omega)).mono ?_
   rintro e w2 ⟨A2,c2,rfl,ho2,hg2⟩
   have hp2 : Blk w2 p 197 #[.slice A l.length c] := H1.out.grown hg2.1 (fun e => by
    obtain ⟨cur,hc⟩ := own_type HO.out e.symm
    have := H1.out.symm.trans hc
    simp at this)
   have d0 := hp2.cell 0
   have df := hp2.frozen 0
   have hpne : (Value.slice A2 (l.length + 1) c2).ownBlock ≠ some p := fun e => by
    obtain ⟨cur,hc⟩ := own_type ho2 e
    have := hp2.symm.trans hc
    simp at this
   have ho3 : (w2.setCell ⟨p,0,none⟩ (.slice A2 (l.length + 1) c2)).ownsRow 0 52 2 (.slice A2 (l.length + 1) c2) (l.length + 1) (rv (put l k v)) := by
    rw [HPUT.out]
    exact own_same ho2 fun g hg => Below.heap_setCell w2 ⟨p,0,none⟩ _ g (fun e => hpne (by rw [hg,e]))
   have ht1 : Turn F w w2 := by
    have t1 : Turn F w (w1.alloc (.cells #[.int .i64 k,.string v] 52)) := (Turn.new HB.out).alloc _
    exact t1.trans (Turn.grown (F := F) hg2.1 fun g hg => H2.out.2 g hg) fun i hi => .inl hi
   have ht2 := ht1.setCell (p := ⟨p,0,none⟩) (.inl H2.out.1) (.slice A2 (l.length + 1) c2)
   have HFIN : Hid (IdxAt (w2.setCell ⟨p,0,none⟩ (.slice A2 (l.length + 1) c2)) (Out F w (w2.setCell ⟨p,0,none⟩ (.slice A2 (l.length + 1) c2))) p (put l k v) /\ Turn F w (w2.setCell ⟨p,0,none⟩ (.slice A2 (l.length + 1) c2))) :=
    ⟨⟨A2,c2,by rw [HLEN.out]; exact hp2.set_ 0 _,.inl H2.out.1,by rw [HLEN.out]; exact ho3,fun g hg => by
      rw [HLEN.out] at hg
      rcases hg2.2 with e | e
      ·rw [hg] at e
       exact .inl (H2.out.2 g e.symm)
      ·refine .inr ⟨?_,own_lt ho3 hg⟩
       have := e g hg
       have h5 := HB.out.size
       simp at this
       omega,HRI.out⟩,ht2⟩
   clear ho2 hg2 hp2 hpne ho3 ht1 ht2
   go_wp2
   go_ret
   exact ⟨rfl,HFIN.out.1,HFIN.out.2⟩
theorem del_any (F : Nat -> Prop) (p : Nat) (l : List Rw) (k : Int) (w : World) (h : IdxAt w F p l) (hsz : l.length <= 1099511627774) :
 Calls Tryz.prog 226 #[.pointer (some ⟨p,0,none⟩),.int .i64 k] w (Turned w F p (there l k) (del l k)) := by
 have HP := hid (place_any F p l k w h (by omega))
 have hrise := h.rise
 have HI := hid h
 have HRI := hid (hrise.del k)
 cases ht : there l k with
 | false =>
   have HD := hid (show del l k = l by rw [del,if_neg (by rw [ht]; simp)])
   have HT := hid ht
   clear h hrise ht
   go_enter Tryz.func226,Tryz.ntmps226
   go_wp2_with fail
   refine HP.out.mono ?_
   rintro e w1 ⟨rfl,hb⟩
   rw [HT.out]
   have HB := hid hb
   clear hb
   go_wp2
   go_ret
   exact ⟨rfl,by rw [HD.out]; exact (HI.out.new HB.out).mono fun i _ hi => .inl hi,Turn.new HB.out⟩
 | true =>
   have hlt := pos_lt ht
   have HD := hid (show del l k = l.eraseIdx (pos l k) by rw [del,if_pos ht])
   have HT := hid ht
   clear h hrise ht
   generalize hpos : pos l k = i at *
   have HPOS := hid hpos
   clear hpos
   obtain ⟨n,hn⟩ : ∃ n,l.length = n + 1 := ⟨l.length - 1,by omega⟩
   have HN := hid hn
   have HLEN := hid (show (del l k).length = n by rw [HD.out,List.length_eraseIdx,if_pos hlt,hn]; omega)
   have l1 : i <= n := by omega
   have l2 : n <= 1099511627774 := by omega
   clear hn hsz hlt
   go_enter Tryz.func226,Tryz.ntmps226
   go_wp2_with fail
   refine HP.out.mono ?_
   rintro e w1 ⟨rfl,hb⟩
   rw [HT.out,HPOS.out]
   obtain ⟨A,c,h1,h2,h3,h4,h5⟩ := HI.out.new hb
   obtain ⟨b,rfl,ha⟩ := own_arr h3 rfl (by rw [HN.out]; omega)
   have hFb : F b := h4 b rfl
   rw [HN.out] at h1
   have c0 : w1.cell? ⟨p,0,none⟩ = some (.slice (some ⟨b,0,none⟩) (n + 1) c) := h1.cell 0
   have HB := hid hb
   have H1 := hid h1
   have HA := hid ha
   have H2 := hid (And.intro h2 hFb)
   clear hb h1 h2 h3 h4 h5 ha hFb
   go_wp2_with fail
   refine (delete_any b c l i n _ HA.out HN.out l1).mono ?_
   rintro e w2 ⟨rfl,ha2,hg2⟩
   have hne : b ≠ p := by
    rintro rfl
    obtain ⟨cur,k1,_⟩ := HA.out
    have := H1.out.symm.trans k1
    simp at this
   have hp2 : Blk w2 p 197 #[.slice (some ⟨b,0,none⟩) (n + 1) c] := H1.out.grown hg2 (by simpa using fun e => hne e.symm)
   have d0 := hp2.cell 0
   have df := hp2.frozen 0
   have ha3 : Arr (w2.setCell ⟨p,0,none⟩ (.slice (some ⟨b,0,none⟩) n c)) b c (del l k) := by
    rw [HD.out]
    exact ha2.same (Below.heap_setCell w2 ⟨p,0,none⟩ _ b hne)
   have ht1 : Turn F w w2 := (Turn.new HB.out).trans (Turn.grown (F := F) hg2 fun g hg => by injection hg with hg; subst hg; exact H2.out.2) fun i hi => .inl hi
   have ht2 := ht1.setCell (p := ⟨p,0,none⟩) (.inl H2.out.1) (.slice (some ⟨b,0,none⟩) n c)
   have HFIN : Hid (IdxAt (w2.setCell ⟨p,0,none⟩ (.slice (some ⟨b,0,none⟩) n c)) (Out F w (w2.setCell ⟨p,0,none⟩ (.slice (some ⟨b,0,none⟩) n c))) p (del l k) /\ Turn F w (w2.setCell ⟨p,0,none⟩ (.slice (some ⟨b,0,none⟩) n c))) :=
    ⟨⟨some ⟨b,0,none⟩,c,by rw [HLEN.out]; exact hp2.set_ 0 _,.inl H2.out.1,by have := ha3.own (base := 0) (Nat.zero_le _); exact this,fun g hg => by injection hg with hg; subst hg; exact .inl H2.out.2,HRI.out⟩,ht2⟩
   clear ha2 hg2 hne hp2 ha3 ht1 ht2
   go_wp2
   go_ret
   exact ⟨rfl,HFIN.out.1,HFIN.out.2⟩
def Begun (w : World) (l : List Rw) (e : Ending) (w' : World) : Prop :=
 ∃ p,e = .returned (.pointer (some ⟨p,0,none⟩)) /\ IdxAt w' (fun i => w.heap.size <= i /\ i < w'.heap.size) p l /\ Below w.heap.size w w'
end Idx
namespace Idx
open Go.RowKit Base IdxMath Foot
open Go.Sort (grow)
theorem reverse_nil (w : World) : Calls Tryz.prog 151 #[.slice none 0 0] w fun e w' => e = .returned (.tuple #[]) /\ w = w' := by
 go_enter Tryz.func151,Tryz.ntmps151
 go_wp2
 refine wp_loop_rounds 1 ?_
 rw [rounds_succ]
 go_wp2
 go_end0
 exact ⟨rfl,rfl⟩
theorem insertion_nil (v : Value) (w : World) : Calls Tryz.prog 246 #[.slice none 0 0,.int .i64 0,.int .i64 0,v] w fun e w' => e = .returned (.tuple #[]) /\ w = w' := by
 go_enter Tryz.func246,Tryz.ntmps246
 go_wp2
 refine wp_loop_rounds 1 ?_
 rw [rounds_succ]
 go_wp2
 go_end0
 exact ⟨rfl,rfl⟩
theorem stableCmp_nil (v : Value) (w : World) : Calls Tryz.prog 207 #[.slice none 0 0,.int .i64 0,v] w fun e w' => e = .returned (.tuple #[]) /\ w = w' := by
 go_enter Tryz.func207,Tryz.ntmps207
 go_wp2
 refine wp_loop_rounds 1 ?_
 rw [rounds_succ]
 go_wp2_with fail
 refine (insertion_nil _ _).mono ?_
 rintro e w1 ⟨rfl,rfl⟩
 go_wp2
 refine wp_loop_rounds 1 ?_
 rw [rounds_succ]
 go_wp2
 go_end0
 exact ⟨rfl,rfl⟩
theorem stable_nil (v : Value) (w : World) : Calls Tryz.prog 152 #[.slice none 0 0,v] w fun e w' => e = .returned (.tuple #[]) /\ w = w' := by
 go_enter Tryz.func152,Tryz.ntmps152
 go_wp2_with fail
 refine (stableCmp_nil _ _).mono ?_
 rintro e w1 ⟨rfl,rfl⟩
 go_wp2
 go_end0
 exact ⟨rfl,rfl⟩
theorem compact_nil (v : Value) (w : World) : Calls Tryz.prog 154 #[.slice none 0 0,v] w fun e w' => e = .returned (.slice none 0 0) /\ w = w' := by
 go_enter Tryz.func154,Tryz.ntmps154
 go_wp2
 go_ret
 exact ⟨rfl,rfl⟩
theorem below_of_only' {B : Nat} {a w : World} {g : Nat} (h : a.grownBy w (some g)) (hg : B <= g) (hB : B <= a.heap.size) : Below B a w :=
 ⟨h.os,h.tape,h.output,h.size,fun i hi => h.block i (by omega) (fun e => by injection e; omega)⟩
theorem begun_of {w w1 : World} {A : Option Addr} {c : Nat} {l : List Rw} (hb : Below w.heap.size w w1) (ho : w1.ownsRow w.heap.size 52 2 (.slice A l.length c) l.length (rv l)) (hr : Rise l) :
 Begun w l (.returned (.pointer (some ⟨w1.heap.size,0,none⟩))) (w1.alloc (.cells #[.slice A l.length c] 197)) := by
 have hbx : Below w1.heap.size w1 (w1.alloc (.cells #[.slice A l.length c] 197)) := (Below.refl _ _).alloc (Nat.le_refl _) _
 refine ⟨w1.heap.size,rfl,⟨A,c,Blk.new _ _ _,⟨hb.size,by simp⟩,own_mono (own_keep ho hbx) (Nat.zero_le _),fun g hg => ⟨(ho.lt g hg).1,by have := own_lt ho hg; simp; omega⟩,hr⟩,hb.alloc hb.size _⟩
theorem new_any (B : Nat) (A : Option Addr) (n c : Nat) (rows : List Rw) (w : World) (hr : Rs w B A n c rows) (hB : B <= w.heap.size) (hsz : n <= 1099511627774) :
 Calls Tryz.prog 93 #[.slice A n c] w (Begun w (make rows)) := by
 have HC := hid (clone_any B A n c rows w hr hB (by omega))
 have HL := hid hr.len
 clear hr
 go_enter Tryz.func93,Tryz.ntmps93
 go_wp2_with fail
 refine HC.out.mono ?_
 rintro e w1 ⟨A1,c1,rfl,ho1,hb1⟩
 have HB1 := hid hb1
 clear hb1
 rcases ho1.2 with ⟨hv,h0⟩ | ⟨b,cap,cur,hv,hbase,hg,h1,h2,h3,h4⟩
 ·simp only [Value.slice.injEq] at hv
  obtain ⟨rfl,h0,rfl⟩ := hv
  obtain rfl : rows = [] := List.eq_nil_of_length_eq_zero h0
  clear ho1
  go_wp2_with fail
  refine (reverse_nil _).mono ?_
  rintro e w2 ⟨rfl,rfl⟩
  go_wp2_with fail
  refine (stable_nil _ _).mono ?_
  rintro e w2 ⟨rfl,rfl⟩
  go_wp2_with fail
  refine (compact_nil _ _).mono ?_
  rintro e w2 ⟨rfl,rfl⟩
  have HF := hid (begun_of (A := none) (c := 0) (l := []) HB1.out (World.ownsRow_nil _ _ _ _) Rise.nil)
  go_wp2
  go_ret
  exact HF.out
 ·simp only [Value.slice.injEq] at hv
  obtain ⟨rfl,_,rfl⟩ := hv
  have ha : Arr w1 b c1 rows := ⟨cur,hg,h1,h2,h3,h4⟩
  have HA := hid ha
  have HBS := hid hbase
  clear ho1 hg h1 h2 h3 h4 ha hbase
  generalize hn : rows.length = N at *
  have HN := hid hn
  have hN : N <= 1099511627774 := by have := HL.out; omega
  clear hn
  go_wp2_with fail
  refine (by have := reverse_any b c1 rows w1 HA.out; rw [HN.out] at this; exact this : Calls Tryz.prog 151 #[.slice (some ⟨b,0,none⟩) N c1] w1 _).mono ?_
  rintro e w2 ⟨rfl,ha2,hg2⟩
  have HA2 := hid ha2
  have HG2 := hid hg2
  clear ha2 hg2
  go_wp2_with fail
  refine (stable_any b c1 rows.reverse N w2 HA2.out (by rw [List.length_reverse,HN.out]) (by omega)).mono ?_
  rintro e w3 ⟨rfl,hg3,S,hs1,hs2,hs3,ha3⟩
  have HG3 := hid (only_trans HG2.out hg3 (.inl rfl))
  have HA3 := hid ha3
  have HS := hid (And.intro (cpt_make hs1 hs2) hs3)
  clear hg3 hs1 hs2 hs3 ha3
  go_wp2_with fail
  refine (compact_any b c1 N S w3 HA3.out (by rw [HS.out.2,List.length_reverse,HN.out]) (by omega)).mono ?_
  rintro e w4 ⟨rfl,ha4,hg4⟩
  rw [HS.out.1] at ha4 ⊢
  have hb4 : Below w.heap.size w w4 := HB1.out.trans (below_of_only' (only_trans HG3.out hg4 (.inl rfl)) HBS.out HB1.out.size)
  have HF := hid (begun_of hb4 (ha4.own HBS.out) (Rise.make rows))
  clear ha4 hg4 hb4
  go_wp2
  go_ret
  exact HF.out
end Idx
namespace Tbl
open Go.RowKit Base IdxMath Foot Idx
def ptr (q : Nat) : Value := .pointer (some ⟨q,0,none⟩)
structure Lie (w : World) (F : Nat -> Prop) (p b : Nat) (ps : List Nat) (G : Nat -> Nat -> Prop) (T : List (List Rw)) : Prop where
 box : Blk w p 125 #[.slice (some ⟨b,0,none⟩) T.length T.length]
 row : Blk w b 122 (ps.map ptr).toArray
 len : ps.length = T.length
 most : T.length <= 8
 some_ : 1 <= T.length
 inp : F p
 inb : F b
 ne : p ≠ b
 each : ∀ i q l,ps[i]? = some q -> T[i]? = some l -> IdxAt w (G i) q l
 ing : ∀ i g,i < T.length -> g < w.heap.size -> G i g -> F g /\ g ≠ p /\ g ≠ b
 apart : ∀ i j g,i < T.length -> j < T.length -> i ≠ j -> g < w.heap.size -> G i g -> ¬ G j g
def SetAt (w : World) (F : Nat -> Prop) (p : Nat) (T : List (List Rw)) : Prop := ∃ b ps G,Lie w F p b ps G T
section
variable {w w' : World} {F F' : Nat -> Prop} {p b : Nat} {ps : List Nat} {G : Nat -> Nat -> Prop} {T : List (List Rw)}
theorem Lie.get (h : Lie w F p b ps G T) {i : Nat} (hi : i < T.length) : ∃ q l,ps[i]? = some q /\ T[i]? = some l /\ w.cell? ⟨b,i,none⟩ = some (ptr q) /\ IdxAt w (G i) q l := by
 have h1 : i < ps.length := by rw [h.len]; exact hi
 refine ⟨ps[i],T[i],List.getElem?_eq_getElem h1,List.getElem?_eq_getElem hi,?_,h.each i _ _ (List.getElem?_eq_getElem h1) (List.getElem?_eq_getElem hi)⟩
 rw [h.row.cell i]
 simp [h1]
theorem Lie.keep (h : Lie w F p b ps G T) (hs : w.heap.size <= w'.heap.size) (hk : ∀ i,i < w.heap.size -> F i -> w'.heap[i]? = w.heap[i]?) : Lie w' F p b ps (fun i g => G i g /\ g < w.heap.size) T where
 box := (hk p h.box.lt h.inp).trans h.box
 row := (hk b h.row.lt h.inb).trans h.row
 len := h.len
 most := h.most
 some_ := h.some_
 inp := h.inp
 inb := h.inb
 ne := h.ne
 each := fun i q l h1 h2 => ((h.each i q l h1 h2).mono fun g hg hG => ⟨hG,hg⟩).keep fun g hg hG => hk g hg (h.ing i g (by
  have := (List.getElem?_eq_some_iff.1 h2).1; exact this) hg hG.1).1
 ing := fun i g hi _ hG => h.ing i g hi hG.2 hG.1
 apart := fun i j g hi hj hij _ h1 h2 => h.apart i j g hi hj hij h1.2 h1.1 h2.1
theorem SetAt.keep (h : SetAt w F p T) (hs : w.heap.size <= w'.heap.size) (hk : ∀ i,i < w.heap.size -> F i -> w'.heap[i]? = w.heap[i]?) : SetAt w' F p T := by
 obtain ⟨b,ps,G,h⟩ := h
 exact ⟨b,ps,_,h.keep hs hk⟩
theorem SetAt.mono (h : SetAt w F p T) (hF : ∀ i,i < w.heap.size -> F i -> F' i) : SetAt w F' p T := by
 obtain ⟨b,ps,G,h⟩ := h
 exact ⟨b,ps,G,{ h with inp := hF _ h.box.lt h.inp,inb := hF _ h.row.lt h.inb,ing := fun i g hi hg hG => ⟨hF _ hg (h.ing i g hi hg hG).1,(h.ing i g hi hg hG).2⟩ }⟩
theorem SetAt.new (h : SetAt w F p T) (hb : Below w.heap.size w w') : SetAt w' F p T := h.keep hb.size fun i hi _ => hb.block i hi
end
theorem tables_any (F : Nat -> Prop) (p : Nat) (T : List (List Rw)) (w : World) (h : SetAt w F p T) :
 Calls Tryz.prog 40 #[.pointer (some ⟨p,0,none⟩)] w fun e w' => e = .returned (.int .i64 T.length) /\ w = w' := by
 obtain ⟨b,ps,G,h⟩ := h
 have c0 : w.cell? ⟨p,0,none⟩ = some (.slice (some ⟨b,0,none⟩) T.length T.length) := h.box.cell 0
 clear h
 go_enter Tryz.func40,Tryz.ntmps40
 go_wp2
 go_ret
 exact ⟨rfl,rfl⟩
theorem has_any (F : Nat -> Prop) (p : Nat) (T : List (List Rw)) (t : Int) (w : World) (h : SetAt w F p T) :
 Calls Tryz.prog 60 #[.pointer (some ⟨p,0,none⟩),.int .i64 t] w fun e w' => e = .returned (.bool (isT T t)) /\ w = w' := by
 obtain ⟨b,ps,G,h⟩ := h
 have c0 : w.cell? ⟨p,0,none⟩ = some (.slice (some ⟨b,0,none⟩) T.length T.length) := h.box.cell 0
 clear h
 rcases Int.lt_or_le t 0 with h1 | h1
 ·go_enter Tryz.func60,Tryz.ntmps60
  go_wp2
  go_ret
  exact ⟨by rw [show isT T t = false from decide_eq_false (by omega)]; rfl,rfl⟩
 ·by_cases h2 : t < (T.length : Int)
  ·go_enter Tryz.func60,Tryz.ntmps60
   go_wp2
   go_ret
   exact ⟨by rw [show isT T t = true from decide_eq_true (by omega)]; rfl,rfl⟩
  ·go_enter Tryz.func60,Tryz.ntmps60
   go_wp2
   go_ret
   exact ⟨by rw [show isT T t = false from decide_eq_false (by omega)]; rfl,rfl⟩
theorem newRows_nil (w : World) : NewRows w [] (.returned (.slice none 0 0)) w := ⟨none,0,rfl,⟨rfl,.inl ⟨rfl,rfl⟩⟩,.refl _ _⟩
theorem rows_any (F : Nat -> Prop) (p : Nat) (T : List (List Rw)) (t : Int) (w : World) (h : SetAt w F p T) (hsz : (tab T t).length <= 1099511627774) :
 Calls Tryz.prog 23 #[.pointer (some ⟨p,0,none⟩),.int .i64 t] w (NewRows w (tab T t)) := by
 have HH := hid (has_any F p T t w h)
 obtain ⟨b,ps,G,h⟩ := h
 have c0 : w.cell? ⟨p,0,none⟩ = some (.slice (some ⟨b,0,none⟩) T.length T.length) := h.box.cell 0
 cases ht : isT T t with
 | false =>
   have HT := hid ht
   clear h ht
   go_enter Tryz.func23,Tryz.ntmps23
   go_wp2_with fail
   refine HH.out.mono ?_
   rintro e w1 ⟨rfl,rfl⟩
   rw [HT.out]
   go_wp2
   go_ret
   rw [tab_none HT.out]
   exact newRows_nil _
 | true =>
   obtain ⟨i,rfl,hi⟩ := isT_nat ht
   obtain ⟨q,l,e1,e2,c1,hq⟩ := h.get hi
   have c2 : w.cell? ⟨b,i,none⟩ = some (.pointer (some ⟨q,0,none⟩)) := c1
   have hi2 : (i : Int) < (T.length : Int) := by omega
   rw [tab_get hi e2] at hsz ⊢
   have HQ := hid (Idx.all_any (G i) q l w hq (by omega))
   have HT := hid ht
   clear h ht e1 e2 c1 hq
   go_enter Tryz.func23,Tryz.ntmps23
   go_wp2_with fail
   refine HH.out.mono ?_
   rintro e w1 ⟨rfl,rfl⟩
   rw [HT.out]
   go_wp2_with fail
   refine HQ.out.mono ?_
   rintro e w1 ⟨A1,c1,rfl,h1,h2⟩
   have H1 := hid (And.intro h1 h2)
   clear h1 h2
   go_wp2
   go_ret
   exact ⟨A1,c1,rfl,H1.out.1,H1.out.2⟩
end Tbl
namespace Tbl
open Go.RowKit Base IdxMath Foot Idx
section
variable {w w2 : World} {F : Nat -> Prop} {p b : Nat} {ps : List Nat} {G : Nat -> Nat -> Prop} {T : List (List Rw)}
theorem size_setCell (w : World) (a : Addr) (u : Value) : (w.setCell a u).heap.size = w.heap.size := by simp [World.setCell]
theorem Lie.lay (h : Lie w F p b ps G T) {i : Nat} (hi : i < T.length) {q : Nat} {l : List Rw} (hq : IdxAt w2 (fun g => w.heap.size <= g /\ g < w2.heap.size) q l) (hb : Below w.heap.size w w2) :
 SetAt (w2.setCell ⟨b,i,none⟩ (ptr q)) (Out F w (w2.setCell ⟨b,i,none⟩ (ptr q))) p (T.set i l) /\ Turn F w (w2.setCell ⟨b,i,none⟩ (ptr q)) := by
 have hip : i < ps.length := by rw [h.len]; exact hi
 have hfar : ∀ g,g ≠ b -> (w2.setCell ⟨b,i,none⟩ (ptr q)).heap[g]? = w2.heap[g]? := fun g hg => Below.heap_setCell w2 _ _ g hg
 have hplt := h.box.lt
 have hblt := h.row.lt
 have hsz := size_setCell w2 ⟨b,i,none⟩ (ptr q)
 have hle := hb.size
 refine ⟨⟨b,ps.set i q,fun j g => if j = i then w.heap.size <= g /\ g < w2.heap.size else G j g /\ g < w.heap.size,?_⟩,(Turn.new hb).setCell (.inl h.inb) _⟩
 refine ⟨?_,?_,by rw [List.length_set,List.length_set,h.len],by rw [List.length_set]; exact h.most,by rw [List.length_set]; exact h.some_,.inl h.inp,.inl h.inb,h.ne,?_,?_,?_⟩
 ·rw [List.length_set]
  exact (hfar p h.ne).trans (h.box.below hb hplt)
 ·have h1 := (h.row.below hb hblt).set_ i (ptr q)
  rw [List.map_set]
  simpa using h1
 ·intro j q' l' h1 h2
  by_cases hj : j = i
  ·subst hj
   rw [List.getElem?_set_self hip] at h1
   rw [List.getElem?_set_self hi] at h2
   obtain rfl := Option.some.inj h1
   obtain rfl := Option.some.inj h2
   refine (hq.mono fun g hg hG => ?_).keep fun g hg hG => hfar g ?_
   ·rw [if_pos rfl]; exact hG
   ·rw [if_pos rfl] at hG; omega
  ·rw [List.getElem?_set_ne (fun e => hj e.symm)] at h1 h2
   have hjl : j < T.length := (List.getElem?_eq_some_iff.1 h2).1
   have h3 := h.each j q' l' h1 h2
   have h4 : IdxAt w2 (fun g => G j g /\ g < w.heap.size) q' l' := (h3.mono (F' := fun g => G j g /\ g < w.heap.size) fun g hg hG => ⟨hG,hg⟩).new hb
   refine (h4.mono fun g hg hG => ?_).keep fun g hg hG => hfar g ?_
   ·rw [if_neg hj]; exact hG
   ·rw [if_neg hj] at hG
    exact (h.ing j g hjl hG.2 hG.1).2.2
 ·intro j g hj hg hG
  rw [List.length_set] at hj
  by_cases hji : j = i
  ·rw [if_pos hji] at hG
   exact ⟨.inr ⟨hG.1,hg⟩,by omega,by omega⟩
  ·rw [if_neg hji] at hG
   have := h.ing j g hj hG.2 hG.1
   exact ⟨.inl this.1,this.2⟩
 ·intro j k g hj hk hjk hg h1 h2
  rw [List.length_set] at hj hk
  by_cases hji : j = i
  ·rw [if_pos hji] at h1
   rw [if_neg (fun e => hjk (hji.trans e.symm))] at h2
   omega
  ·rw [if_neg hji] at h1
   by_cases hki : k = i
   ·rw [if_pos hki] at h2
    omega
   ·rw [if_neg hki] at h2
    exact h.apart j k g hj hk hjk h1.2 h1.1 h2.1
end
def SetTurned (w : World) (F : Nat -> Prop) (p : Nat) (b : Bool) (T : List (List Rw)) (e : Ending) (w' : World) : Prop :=
 e = .returned (.bool b) /\ SetAt w' (Out F w w') p T /\ Turn F w w'
def load (T : List (List Rw)) (t : Int) (rows : List Rw) : List (List Rw) := if isT T t then T.set t.toNat (make rows) else T
theorem load_any (F : Nat -> Prop) (p : Nat) (T : List (List Rw)) (t : Int) (A : Option Addr) (n c : Nat) (rows : List Rw) (w : World) (h : SetAt w F p T) (hr : Rs w w.heap.size A n c rows) (hsz : n <= 1099511627774) :
 Calls Tryz.prog 98 #[.pointer (some ⟨p,0,none⟩),.int .i64 t,.slice A n c] w (SetTurned w F p (isT T t) (load T t rows)) := by
 have HH := hid (has_any F p T t w h)
 have HS := hid h
 obtain ⟨b,ps,G,h⟩ := h
 have c0 : w.cell? ⟨p,0,none⟩ = some (.slice (some ⟨b,0,none⟩) T.length T.length) := h.box.cell 0
 cases ht : isT T t with
 | false =>
   have HT := hid ht
   clear h ht
   go_enter Tryz.func98,Tryz.ntmps98
   go_wp2_with fail
   refine HH.out.mono ?_
   rintro e w1 ⟨rfl,rfl⟩
   rw [HT.out]
   go_wp2
   go_ret
   refine ⟨rfl,?_,.refl _ _⟩
   unfold load
   rw [HT.out]
   exact HS.out.mono fun i _ hi => .inl hi
 | true =>
   obtain ⟨i,rfl,hi⟩ := isT_nat ht
   obtain ⟨q0,l0,e1,e2,c1,hq0⟩ := h.get hi
   have hz : w.frozen? ⟨b,i,none⟩ = false := h.row.frozen i
   have hi2 : (i : Int) < (T.length : Int) := by omega
   have HL := hid (show load T (i : Int) rows = T.set i (make rows) by unfold load; rw [ht,if_pos rfl,Int.toNat_natCast])
   have HT := hid ht
   have HI := hid h
   have HR := hid hr
   have hblt : b < w.heap.size := h.row.lt
   have hpb : p ≠ b := h.ne
   have hsome : (w.cell? ⟨b,i,none⟩).isSome = true := by rw [c1]; rfl
   clear h ht e1 e2 hq0 hr
   rw [HL.out]
   go_enter Tryz.func98,Tryz.ntmps98
   go_wp2_with fail
   refine HH.out.mono ?_
   rintro e w1 ⟨rfl,rfl⟩
   rw [HT.out]
   go_wp2_with fail
   go_region_with (first
    | (go_at_call 93; refine (new_any w.heap.size A n c rows w.drew (HR.out.below (held_start w)) (Nat.le_refl _) hsz).mono ?_; rintro e w2 ⟨q,rfl,hq,hb2⟩; have hb2' : Below w.heap.size w w2 := held_two (held_start w) hb2; have d0 := held_cell hb2' c0; have d1 := held_cell hb2' c1; have dz := (HI.out.row.below hb2' hblt).frozen i; have HQ := hid (And.intro hq hb2'); clear hb2 hb2' hq)
    | fail)
   all_goals (go_wp2; go_ret; exact ⟨rfl,HI.out.lay hi HQ.out.1 HQ.out.2⟩)
end Tbl
end Go.Proofs.YtefnmnpfecfdaaaGreat
