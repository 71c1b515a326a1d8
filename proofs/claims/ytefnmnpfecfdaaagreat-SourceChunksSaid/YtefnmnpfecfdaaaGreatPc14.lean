/-
  Texts of one proof: IdxCode, IdxNew.
-/
import Derived.Test.YtefnmnpfecfdaaaGreatPc13
set_option linter.all false
set_option maxRecDepth 100000
set_option maxHeartbeats 3200000
open Go.Lib (hid)
namespace Go.Proofs.YtefnmnpfecfdaaaGreat
namespace Idx
open Go.RowKit Base IdxMath Foot
open Go.Sort (grow)
def IdxAt (w : World) (F : Nat -> Prop) (p : Nat) (l : List Rw) : Prop :=
 ∃ A c,Blk w p 197 #[.slice A l.length c] /\ F p /\ w.ownsRow 0 52 2 (.slice A l.length c) l.length (rv l) /\ (∀ g,(Value.slice A l.length c).ownBlock = some g -> F g) /\ Rise l
section
variable {w w' : World} {F F' : Nat -> Prop} {p : Nat} {l : List Rw}
theorem IdxAt.keep (h : IdxAt w F p l) (hk : ∀ i,i < w.heap.size -> F i -> w'.heap[i]? = w.heap[i]?) : IdxAt w' F p l := by
 obtain ⟨A,c,h1,h2,h3,h4,h5⟩ := h
 exact ⟨A,c,(hk p h1.lt h2).trans h1,h2,own_same h3 fun g hg => hk g (own_lt h3 hg) (h4 g hg),h4,h5⟩
theorem IdxAt.mono (h : IdxAt w F p l) (hF : ∀ i,i < w.heap.size -> F i -> F' i) : IdxAt w F' p l := by
 obtain ⟨A,c,h1,h2,h3,h4,h5⟩ := h
 exact ⟨A,c,h1,hF _ h1.lt h2,h3,fun g hg => hF g (own_lt h3 hg) (h4 g hg),h5⟩
theorem IdxAt.below {B : Nat} (h : IdxAt w F p l) (hb : Below B w w') (hB : w.heap.size <= B) : IdxAt w' F p l := h.keep fun i hi _ => hb.block i (by omega)
theorem IdxAt.new (h : IdxAt w F p l) (hb : Below w.heap.size w w') : IdxAt w' F p l := h.below hb (Nat.le_refl _)
theorem IdxAt.rise (h : IdxAt w F p l) : Rise l := by obtain ⟨A,c,h1,h2,h3,h4,h5⟩ := h; exact h5
end
theorem place_any (F : Nat -> Prop) (p : Nat) (l : List Rw) (k : Int) (w : World) (h : IdxAt w F p l) (hsz : l.length <= 1099511627775) :
 Calls Tryz.prog 194 #[.pointer (some ⟨p,0,none⟩),.int .i64 k] w (Sought w l k) := by
 obtain ⟨A,c,h1,h2,h3,h4,h5⟩ := h
 have HR := hid (Rs.of_own h3)
 have c0 : w.cell? ⟨p,0,none⟩ = some (.slice A l.length c) := h1.cell 0
 have HS := hid h5
 clear h1 h2 h3 h4 h5
 go_enter Tryz.func194,Tryz.ntmps194
 go_wp2_with fail
 refine (search_any w.heap.size A l.length c l ⟨k,⟨#[]⟩⟩ _ HR.out (Nat.le_refl _) HS.out (by omega)).mono ?_
 rintro e w1 ⟨rfl,hb⟩
 have HB := hid hb
 clear hb
 dsimp only
 go_wp2
 go_ret2
 exact ⟨rfl,HB.out⟩
theorem len_any (F : Nat -> Prop) (p : Nat) (l : List Rw) (w : World) (h : IdxAt w F p l) :
 Calls Tryz.prog 168 #[.pointer (some ⟨p,0,none⟩)] w fun e w' => e = .returned (.int .i64 l.length) /\ w = w' := by
 obtain ⟨A,c,h1,h2,h3,h4,h5⟩ := h
 have c0 : w.cell? ⟨p,0,none⟩ = some (.slice A l.length c) := h1.cell 0
 clear h1 h2 h3 h4 h5
 go_enter Tryz.func168,Tryz.ntmps168
 go_wp2
 go_ret
 exact ⟨rfl,rfl⟩
theorem all_any (F : Nat -> Prop) (p : Nat) (l : List Rw) (w : World) (h : IdxAt w F p l) (hsz : l.length <= 1099511627775) :
 Calls Tryz.prog 61 #[.pointer (some ⟨p,0,none⟩)] w (NewRows w l) := by
 obtain ⟨A,c,h1,h2,h3,h4,h5⟩ := h
 have HR := hid (Rs.of_own h3)
 have c0 : w.cell? ⟨p,0,none⟩ = some (.slice A l.length c) := h1.cell 0
 clear h1 h2 h3 h4 h5
 go_enter Tryz.func61,Tryz.ntmps61
 go_wp2_with fail
 refine (clone_any w.heap.size A l.length c l _ HR.out (Nat.le_refl _) (by omega)).mono ?_
 rintro e w1 ⟨A1,c1,rfl,h1,h2⟩
 have H1 := hid (And.intro h1 h2)
 clear h1 h2
 go_wp2
 go_ret
 exact ⟨A1,c1,rfl,H1.out.1,H1.out.2⟩
def getV (l : List Rw) (k : Int) : ByteArray := (get l k).getD ⟨#[]⟩
theorem get_any (F : Nat -> Prop) (p : Nat) (l : List Rw) (k : Int) (w : World) (h : IdxAt w F p l) (hsz : l.length <= 1099511627775) :
 Calls Tryz.prog 213 #[.pointer (some ⟨p,0,none⟩),.int .i64 k] w fun e w' => e = .returned (.tuple #[.string (getV l k),.bool (get l k).isSome]) /\ Below w.heap.size w w' := by
 have HP := hid (place_any F p l k w h hsz)
 have hrise := h.rise
 have HI := hid h
 have HG := hid (IdxMath.get_at hrise k)
 clear h
 cases ht : there l k with
 | false =>
   have HT := hid ht
   clear ht
   go_enter Tryz.func213,Tryz.ntmps213
   go_wp2_with fail
   refine HP.out.mono ?_
   rintro e w1 ⟨rfl,hb⟩
   rw [HT.out]
   have HB := hid hb
   clear hb
   go_wp2
   go_ret2
   exact ⟨by unfold getV; rw [HG.out,HT.out]; rfl,HB.out⟩
 | true =>
   obtain ⟨x,hx,hxk⟩ := pos_split l k ht
   have hlt := pos_lt ht
   have HT := hid ht
   have HX := hid hx
   clear ht hx
   generalize hpos : pos l k = i at *
   have HPOS := hid hpos
   clear hpos
   go_enter Tryz.func213,Tryz.ntmps213
   go_wp2_with fail
   refine HP.out.mono ?_
   rintro e w1 ⟨rfl,hb⟩
   rw [HT.out,HPOS.out]
   obtain ⟨A,c,h1,h2,h3,h4,h5⟩ := HI.out.new hb
   obtain ⟨b,rfl,ha⟩ := own_arr h3 rfl (by omega)
   obtain ⟨c1,c2⟩ := ha.get HX.out
   have c0 : w1.cell? ⟨p,0,none⟩ = some (.slice (some ⟨b,0,none⟩) l.length c) := h1.cell 0
   have HB := hid hb
   have l1 : (i : Int) < (l.length : Int) := by omega
   clear hb h1 h2 h3 h4 h5 ha
   go_wp2
   go_ret2
   have HGV := HG.out
   rw [HT.out,HX.out] at HGV
   exact ⟨by unfold getV; rw [HGV]; rfl,HB.out⟩
theorem after_part (l : List Rw) (k n : Int) (h : Rise l) : after l k n = (l.drop (aft l k)).take (min n.toNat (l.length - aft l k)) := by
 rw [after_eq h]
 rcases Nat.lt_or_ge n.toNat (l.length - aft l k) with h1 | h1
 ·rw [Nat.min_eq_left (by omega)]
 ·rw [Nat.min_eq_right h1,List.take_of_length_le (by rw [List.length_drop]; exact h1),List.take_of_length_le (by rw [List.length_drop]; omega)]
theorem idx_cut {w : World} {F : Nat -> Prop} {p : Nat} {l : List Rw} (h : IdxAt w F p l) {a : Nat} (ha : a <= l.length) :
 ∃ A c,w.cell? ⟨p,0,none⟩ = some (.slice A l.length c) /\ l.length <= c /\ c <= 9223372036854775807 /\ ((c = a /\ Rs w w.heap.size A 0 0 (l.drop a)) \/ (¬ c = a /\ ∃ b,A = some ⟨b,0,none⟩ /\ Rs w w.heap.size (some ⟨b,a * 2,none⟩) (l.length - a) (c - a) (l.drop a))) := by
 obtain ⟨A,c,h1,h2,h3,h4,h5⟩ := h
 have hr := Rs.of_own h3
 have hle := hr.le
 have hc := hr.cut ha
 refine ⟨A,c,h1.cell 0,hle.1,hle.2,?_⟩
 by_cases hca : c = a
 ·refine .inl ⟨hca,?_⟩
  rw [if_pos hca,show l.length - a = 0 by omega,show c - a = 0 by omega] at hc
  exact hc
 ·refine .inr ⟨hca,?_⟩
  rcases h3.2 with ⟨hv,h6⟩ | ⟨g,cap,cur,hv,hb,hg,h6,h7,h8,h9⟩
  ·simp only [Value.slice.injEq] at hv
   omega
  ·simp only [Value.slice.injEq] at hv
   obtain ⟨rfl,_,rfl⟩ := hv
   rw [if_neg hca,Option.map_some,add_none,Nat.zero_add] at hc
   exact ⟨g,rfl,hc⟩
theorem after_few (F : Nat -> Prop) (p : Nat) (l : List Rw) (k : Int) (nn : Nat) (w : World) (h : IdxAt w F p l) (hsz : l.length <= 1099511627775) (hm : ¬ l.length - aft l k < nn) :
 Calls Tryz.prog 132 #[.pointer (some ⟨p,0,none⟩),.int .i64 k,.int .i64 (nn : Int)] w (NewRows w (after l k (nn : Int))) := by
 have HP := hid (place_any F p l k w h hsz)
 have hap := after_part l k (nn : Int) h.rise
 have HI := hid h
 have haft := aft_le l k
 have hab : aft l k = if there l k then pos l k + 1 else pos l k := rfl
 obtain ⟨L,hL⟩ : ∃ L,l.length = L := ⟨_,rfl⟩
 rw [hL] at haft hsz hap
 try rw [hL] at hm
 obtain ⟨a,ha⟩ : ∃ a,a = aft l k := ⟨_,rfl⟩
 rw [<- ha] at haft hab hap
 try rw [<- ha] at hm
 have hmm : min ((nn : Int) : Int).toNat (L - a) = nn := by omega
 rw [hmm] at hap
 have HRI := hid (show ∀ (w1 : World) A c,Rs w1 w1.heap.size A (L - a) c (l.drop a) -> Rs w1 w1.heap.size A (nn) c (after l k (nn : Int)) from fun w1 A c hr => by rw [hap]; exact hr.front (by omega))
 have HL := hid hL
 clear h hap hmm hL ha
 generalize hr : after l k (nn : Int) = r at *
 clear hr
 generalize hpp : pos l k = i at *
 have HPP := hid hpp
 clear hpp
 generalize htt : there l k = bt at *
 have HTT := hid htt
 clear htt
 cases bt with
 | true =>
   have hab2 : a = (i + 1) := hab
   clear hab
   subst a
   have hbase : ∀ w1 : World,Below w.heap.size w w1 -> ∃ A c,w1.cell? ⟨p,0,none⟩ = some (.slice A L c) /\ L <= c /\ c <= 9223372036854775807 /\ ((c = (i + 1) /\ L = (i + 1) /\ Rs w1 w1.heap.size A 0 0 (l.drop (i + 1))) \/ (¬ c = (i + 1) /\ ∃ b,A = some ⟨b,0,none⟩ /\ Rs w1 w1.heap.size (some ⟨b,(i + 1) * 2,none⟩) (L - (i + 1)) (c - (i + 1)) (l.drop (i + 1)))) := fun w1 hb => by
    obtain ⟨A,c,h1,h2,h3,h4⟩ := idx_cut (HI.out.new hb) (a := (i + 1)) (by rw [HL.out]; exact haft)
    rw [HL.out] at h1 h2 h4
    exact ⟨A,c,h1,h2,h3,h4.imp (fun h => ⟨h.1,by omega,h.2⟩) id⟩
   have HBASE := hid hbase
   clear hbase
   go_enter Tryz.func132,Tryz.ntmps132
   go_wp2_with fail
   refine HP.out.mono ?_
   rintro e w1 ⟨rfl,hb⟩
   rw [HTT.out,HPP.out]
   obtain ⟨A,c,c0,q1,q2,hcut⟩ := HBASE.out w1 hb
   have HB := hid hb
   clear hb HBASE
   rcases hcut with ⟨hca,hla,hrs⟩ | ⟨hca,b,rfl,hrs⟩
   ·have HRS := hid (HRI.out _ A 0 (by rw [hla,Nat.sub_self]; exact hrs))
    clear hrs HRI
    subst hca hla
    obtain rfl : nn = 0 := by omega
    clear hm
    clear q1 haft
    go_wp2_with fail
    refine (clone_any w1.heap.size A 0 0 r _ HRS.out (Nat.le_refl _) (by omega)).mono ?_
    rintro e w2 ⟨A1,c1,rfl,h1,h2⟩
    have H1 := hid (And.intro h1 (HB.out.trans (h2.mono HB.out.size)))
    clear h1 h2
    go_wp2
    go_ret
    exact ⟨A1,c1,rfl,own_mono H1.out.1 HB.out.size,H1.out.2⟩
   ·have HRS := hid (HRI.out _ _ _ hrs)
    clear hrs HRI
    go_wp2_with fail
    refine (clone_any w1.heap.size (some ⟨b,(i + 1) * 2,none⟩) _ _ r _ HRS.out (Nat.le_refl _) (by omega)).mono ?_
    rintro e w2 ⟨A1,c1,rfl,h1,h2⟩
    have H1 := hid (And.intro h1 (HB.out.trans (h2.mono HB.out.size)))
    clear h1 h2
    go_wp2
    go_ret
    exact ⟨A1,c1,rfl,own_mono H1.out.1 HB.out.size,H1.out.2⟩
 | false =>
   have hab2 : a = i := hab
   clear hab
   subst a
   have hbase : ∀ w1 : World,Below w.heap.size w w1 -> ∃ A c,w1.cell? ⟨p,0,none⟩ = some (.slice A L c) /\ L <= c /\ c <= 9223372036854775807 /\ ((c = i /\ L = i /\ Rs w1 w1.heap.size A 0 0 (l.drop i)) \/ (¬ c = i /\ ∃ b,A = some ⟨b,0,none⟩ /\ Rs w1 w1.heap.size (some ⟨b,i * 2,none⟩) (L - i) (c - i) (l.drop i))) := fun w1 hb => by
    obtain ⟨A,c,h1,h2,h3,h4⟩ := idx_cut (HI.out.new hb) (a := i) (by rw [HL.out]; exact haft)
    rw [HL.out] at h1 h2 h4
    exact ⟨A,c,h1,h2,h3,h4.imp (fun h => ⟨h.1,by omega,h.2⟩) id⟩
   have HBASE := hid hbase
   clear hbase
   go_enter Tryz.func132,Tryz.ntmps132
   go_wp2_with fail
   refine HP.out.mono ?_
   rintro e w1 ⟨rfl,hb⟩
   rw [HTT.out,HPP.out]
   obtain ⟨A,c,c0,q1,q2,hcut⟩ := HBASE.out w1 hb
   have HB := hid hb
   clear hb HBASE
   rcases hcut with ⟨hca,hla,hrs⟩ | ⟨hca,b,rfl,hrs⟩
   ·have HRS := hid (HRI.out _ A 0 (by rw [hla,Nat.sub_self]; exact hrs))
    clear hrs HRI
    subst hca hla
    obtain rfl : nn = 0 := by omega
    clear hm
    clear q1 haft
    go_wp2_with fail
    refine (clone_any w1.heap.size A 0 0 r _ HRS.out (Nat.le_refl _) (by omega)).mono ?_
    rintro e w2 ⟨A1,c1,rfl,h1,h2⟩
    have H1 := hid (And.intro h1 (HB.out.trans (h2.mono HB.out.size)))
    clear h1 h2
    go_wp2
    go_ret
    exact ⟨A1,c1,rfl,own_mono H1.out.1 HB.out.size,H1.out.2⟩
   ·have HRS := hid (HRI.out _ _ _ hrs)
    clear hrs HRI
    go_wp2_with fail
    refine (clone_any w1.heap.size (some ⟨b,i * 2,none⟩) _ _ r _ HRS.out (Nat.le_refl _) (by omega)).mono ?_
    rintro e w2 ⟨A1,c1,rfl,h1,h2⟩
    have H1 := hid (And.intro h1 (HB.out.trans (h2.mono HB.out.size)))
    clear h1 h2
    go_wp2
    go_ret
    exact ⟨A1,c1,rfl,own_mono H1.out.1 HB.out.size,H1.out.2⟩
theorem after_rest (F : Nat -> Prop) (p : Nat) (l : List Rw) (k : Int) (nn : Nat) (w : World) (h : IdxAt w F p l) (hsz : l.length <= 1099511627775) (hm : l.length - aft l k < nn) :
 Calls Tryz.prog 132 #[.pointer (some ⟨p,0,none⟩),.int .i64 k,.int .i64 (nn : Int)] w (NewRows w (after l k (nn : Int))) := by
 have HP := hid (place_any F p l k w h hsz)
 have hap := after_part l k (nn : Int) h.rise
 have HI := hid h
 have haft := aft_le l k
 have hab : aft l k = if there l k then pos l k + 1 else pos l k := rfl
 obtain ⟨L,hL⟩ : ∃ L,l.length = L := ⟨_,rfl⟩
 rw [hL] at haft hsz hap
 try rw [hL] at hm
 obtain ⟨a,ha⟩ : ∃ a,a = aft l k := ⟨_,rfl⟩
 rw [<- ha] at haft hab hap
 try rw [<- ha] at hm
 have hmm : min ((nn : Int) : Int).toNat (L - a) = (L - a) := by omega
 rw [hmm] at hap
 have HRI := hid (show ∀ (w1 : World) A c,Rs w1 w1.heap.size A (L - a) c (l.drop a) -> Rs w1 w1.heap.size A ((L - a)) c (after l k (nn : Int)) from fun w1 A c hr => by rw [hap]; exact hr.front (by omega))
 have HL := hid hL
 clear h hap hmm hL ha
 generalize hr : after l k (nn : Int) = r at *
 clear hr
 generalize hpp : pos l k = i at *
 have HPP := hid hpp
 clear hpp
 generalize htt : there l k = bt at *
 have HTT := hid htt
 clear htt
 cases bt with
 | true =>
   have hab2 : a = (i + 1) := hab
   clear hab
   subst a
   have hbase : ∀ w1 : World,Below w.heap.size w w1 -> ∃ A c,w1.cell? ⟨p,0,none⟩ = some (.slice A L c) /\ L <= c /\ c <= 9223372036854775807 /\ ((c = (i + 1) /\ L = (i + 1) /\ Rs w1 w1.heap.size A 0 0 (l.drop (i + 1))) \/ (¬ c = (i + 1) /\ ∃ b,A = some ⟨b,0,none⟩ /\ Rs w1 w1.heap.size (some ⟨b,(i + 1) * 2,none⟩) (L - (i + 1)) (c - (i + 1)) (l.drop (i + 1)))) := fun w1 hb => by
    obtain ⟨A,c,h1,h2,h3,h4⟩ := idx_cut (HI.out.new hb) (a := (i + 1)) (by rw [HL.out]; exact haft)
    rw [HL.out] at h1 h2 h4
    exact ⟨A,c,h1,h2,h3,h4.imp (fun h => ⟨h.1,by omega,h.2⟩) id⟩
   have HBASE := hid hbase
   clear hbase
   go_enter Tryz.func132,Tryz.ntmps132
   go_wp2_with fail
   refine HP.out.mono ?_
   rintro e w1 ⟨rfl,hb⟩
   rw [HTT.out,HPP.out]
   obtain ⟨A,c,c0,q1,q2,hcut⟩ := HBASE.out w1 hb
   have HB := hid hb
   clear hb HBASE
   rcases hcut with ⟨hca,hla,hrs⟩ | ⟨hca,b,rfl,hrs⟩
   ·have HRS := hid (HRI.out _ A 0 (by rw [hla,Nat.sub_self]; exact hrs))
    clear hrs HRI
    subst hca hla
    have hp : 0 < nn := by omega
    rw [Nat.sub_self] at HRS
    clear hm
    clear q1 haft
    go_wp2_with fail
    refine (clone_any w1.heap.size A 0 0 r _ HRS.out (Nat.le_refl _) (by omega)).mono ?_
    rintro e w2 ⟨A1,c1,rfl,h1,h2⟩
    have H1 := hid (And.intro h1 (HB.out.trans (h2.mono HB.out.size)))
    clear h1 h2
    go_wp2
    go_ret
    exact ⟨A1,c1,rfl,own_mono H1.out.1 HB.out.size,H1.out.2⟩
   ·have HRS := hid (HRI.out _ _ _ hrs)
    clear hrs HRI
    go_wp2_with fail
    refine (clone_any w1.heap.size (some ⟨b,(i + 1) * 2,none⟩) _ _ r _ HRS.out (Nat.le_refl _) (by omega)).mono ?_
    rintro e w2 ⟨A1,c1,rfl,h1,h2⟩
    have H1 := hid (And.intro h1 (HB.out.trans (h2.mono HB.out.size)))
    clear h1 h2
    go_wp2
    go_ret
    exact ⟨A1,c1,rfl,own_mono H1.out.1 HB.out.size,H1.out.2⟩
 | false =>
   have hab2 : a = i := hab
   clear hab
   subst a
   have hbase : ∀ w1 : World,Below w.heap.size w w1 -> ∃ A c,w1.cell? ⟨p,0,none⟩ = some (.slice A L c) /\ L <= c /\ c <= 9223372036854775807 /\ ((c = i /\ L = i /\ Rs w1 w1.heap.size A 0 0 (l.drop i)) \/ (¬ c = i /\ ∃ b,A = some ⟨b,0,none⟩ /\ Rs w1 w1.heap.size (some ⟨b,i * 2,none⟩) (L - i) (c - i) (l.drop i))) := fun w1 hb => by
    obtain ⟨A,c,h1,h2,h3,h4⟩ := idx_cut (HI.out.new hb) (a := i) (by rw [HL.out]; exact haft)
    rw [HL.out] at h1 h2 h4
    exact ⟨A,c,h1,h2,h3,h4.imp (fun h => ⟨h.1,by omega,h.2⟩) id⟩
   have HBASE := hid hbase
   clear hbase
   go_enter Tryz.func132,Tryz.ntmps132
   go_wp2_with fail
   refine HP.out.mono ?_
   rintro e w1 ⟨rfl,hb⟩
   rw [HTT.out,HPP.out]
   obtain ⟨A,c,c0,q1,q2,hcut⟩ := HBASE.out w1 hb
   have HB := hid hb
   clear hb HBASE
   rcases hcut with ⟨hca,hla,hrs⟩ | ⟨hca,b,rfl,hrs⟩
   ·have HRS := hid (HRI.out _ A 0 (by rw [hla,Nat.sub_self]; exact hrs))
    clear hrs HRI
    subst hca hla
    have hp : 0 < nn := by omega
    rw [Nat.sub_self] at HRS
    clear hm
    clear q1 haft
    go_wp2_with fail
    refine (clone_any w1.heap.size A 0 0 r _ HRS.out (Nat.le_refl _) (by omega)).mono ?_
    rintro e w2 ⟨A1,c1,rfl,h1,h2⟩
    have H1 := hid (And.intro h1 (HB.out.trans (h2.mono HB.out.size)))
    clear h1 h2
    go_wp2
    go_ret
    exact ⟨A1,c1,rfl,own_mono H1.out.1 HB.out.size,H1.out.2⟩
   ·have HRS := hid (HRI.out _ _ _ hrs)
    clear hrs HRI
    go_wp2_with fail
    refine (clone_any w1.heap.size (some ⟨b,i * 2,none⟩) _ _ r _ HRS.out (Nat.le_refl _) (by omega)).mono ?_
    rintro e w2 ⟨A1,c1,rfl,h1,h2⟩
    have H1 := hid (And.intro h1 (HB.out.trans (h2.mono HB.out.size)))
    clear h1 h2
    go_wp2
    go_ret
    exact ⟨A1,c1,rfl,own_mono H1.out.1 HB.out.size,H1.out.2⟩
theorem after_none (F : Nat -> Prop) (p : Nat) (l : List Rw) (k : Int) (n : Int) (w : World) (h : IdxAt w F p l) (hsz : l.length <= 1099511627775) (hm : n < 0) :
 Calls Tryz.prog 132 #[.pointer (some ⟨p,0,none⟩),.int .i64 k,.int .i64 n] w (NewRows w (after l k n)) := by
 have HP := hid (place_any F p l k w h hsz)
 have hap := after_part l k n h.rise
 have HI := hid h
 have haft := aft_le l k
 have hab : aft l k = if there l k then pos l k + 1 else pos l k := rfl
 obtain ⟨L,hL⟩ : ∃ L,l.length = L := ⟨_,rfl⟩
 rw [hL] at haft hsz hap
 try rw [hL] at hm
 obtain ⟨a,ha⟩ : ∃ a,a = aft l k := ⟨_,rfl⟩
 rw [<- ha] at haft hab hap
 try rw [<- ha] at hm
 have hmm : min (n : Int).toNat (L - a) = 0 := by omega
 rw [hmm] at hap
 have HRI := hid (show ∀ (w1 : World) A c,Rs w1 w1.heap.size A (L - a) c (l.drop a) -> Rs w1 w1.heap.size A (0) c (after l k n) from fun w1 A c hr => by rw [hap]; exact hr.front (by omega))
 have HL := hid hL
 clear h hap hmm hL ha
 generalize hr : after l k n = r at *
 clear hr
 generalize hpp : pos l k = i at *
 have HPP := hid hpp
 clear hpp
 generalize htt : there l k = bt at *
 have HTT := hid htt
 clear htt
 cases bt with
 | true =>
   have hab2 : a = (i + 1) := hab
   clear hab
   subst a
   have hbase : ∀ w1 : World,Below w.heap.size w w1 -> ∃ A c,w1.cell? ⟨p,0,none⟩ = some (.slice A L c) /\ L <= c /\ c <= 9223372036854775807 /\ ((c = (i + 1) /\ L = (i + 1) /\ Rs w1 w1.heap.size A 0 0 (l.drop (i + 1))) \/ (¬ c = (i + 1) /\ ∃ b,A = some ⟨b,0,none⟩ /\ Rs w1 w1.heap.size (some ⟨b,(i + 1) * 2,none⟩) (L - (i + 1)) (c - (i + 1)) (l.drop (i + 1)))) := fun w1 hb => by
    obtain ⟨A,c,h1,h2,h3,h4⟩ := idx_cut (HI.out.new hb) (a := (i + 1)) (by rw [HL.out]; exact haft)
    rw [HL.out] at h1 h2 h4
    exact ⟨A,c,h1,h2,h3,h4.imp (fun h => ⟨h.1,by omega,h.2⟩) id⟩
   have HBASE := hid hbase
   clear hbase
   go_enter Tryz.func132,Tryz.ntmps132
   go_wp2_with fail
   refine HP.out.mono ?_
   rintro e w1 ⟨rfl,hb⟩
   rw [HTT.out,HPP.out]
   obtain ⟨A,c,c0,q1,q2,hcut⟩ := HBASE.out w1 hb
   have HB := hid hb
   clear hb HBASE
   rcases hcut with ⟨hca,hla,hrs⟩ | ⟨hca,b,rfl,hrs⟩
   ·have HRS := hid (HRI.out _ A 0 (by rw [hla,Nat.sub_self]; exact hrs))
    clear hrs HRI
    subst hca hla
    clear q1 haft
    go_wp2_with fail
    refine (clone_any w1.heap.size A 0 0 r _ HRS.out (Nat.le_refl _) (by omega)).mono ?_
    rintro e w2 ⟨A1,c1,rfl,h1,h2⟩
    have H1 := hid (And.intro h1 (HB.out.trans (h2.mono HB.out.size)))
    clear h1 h2
    go_wp2
    go_ret
    exact ⟨A1,c1,rfl,own_mono H1.out.1 HB.out.size,H1.out.2⟩
   ·have HRS := hid (HRI.out _ _ _ hrs)
    clear hrs HRI
    go_wp2_with fail
    refine (clone_any w1.heap.size (some ⟨b,(i + 1) * 2,none⟩) _ _ r _ HRS.out (Nat.le_refl _) (by omega)).mono ?_
    rintro e w2 ⟨A1,c1,rfl,h1,h2⟩
    have H1 := hid (And.intro h1 (HB.out.trans (h2.mono HB.out.size)))
    clear h1 h2
    go_wp2
    go_ret
    exact ⟨A1,c1,rfl,own_mono H1.out.1 HB.out.size,H1.out.2⟩
 | false =>
   have hab2 : a = i := hab
   clear hab
   subst a
   have hbase : ∀ w1 : World,Below w.heap.size w w1 -> ∃ A c,w1.cell? ⟨p,0,none⟩ = some (.slice A L c) /\ L <= c /\ c <= 9223372036854775807 /\ ((c = i /\ L = i /\ Rs w1 w1.heap.size A 0 0 (l.drop i)) \/ (¬ c = i /\ ∃ b,A = some ⟨b,0,none⟩ /\ Rs w1 w1.heap.size (some ⟨b,i * 2,none⟩) (L - i) (c - i) (l.drop i))) := fun w1 hb => by
    obtain ⟨A,c,h1,h2,h3,h4⟩ := idx_cut (HI.out.new hb) (a := i) (by rw [HL.out]; exact haft)
    rw [HL.out] at h1 h2 h4
    exact ⟨A,c,h1,h2,h3,h4.imp (fun h => ⟨h.1,by omega,h.2⟩) id⟩
   have HBASE := hid hbase
   clear hbase
   go_enter Tryz.func132,Tryz.ntmps132
   go_wp2_with fail
   refine HP.out.mono ?_
   rintro e w1 ⟨rfl,hb⟩
   rw [HTT.out,HPP.out]
   obtain ⟨A,c,c0,q1,q2,hcut⟩ := HBASE.out w1 hb
   have HB := hid hb
   clear hb HBASE
   rcases hcut with ⟨hca,hla,hrs⟩ | ⟨hca,b,rfl,hrs⟩
   ·have HRS := hid (HRI.out _ A 0 (by rw [hla,Nat.sub_self]; exact hrs))
    clear hrs HRI
    subst hca hla
    clear q1 haft
    go_wp2_with fail
    refine (clone_any w1.heap.size A 0 0 r _ HRS.out (Nat.le_refl _) (by omega)).mono ?_
    rintro e w2 ⟨A1,c1,rfl,h1,h2⟩
    have H1 := hid (And.intro h1 (HB.out.trans (h2.mono HB.out.size)))
    clear h1 h2
    go_wp2
    go_ret
    exact ⟨A1,c1,rfl,own_mono H1.out.1 HB.out.size,H1.out.2⟩
   ·have HRS := hid (HRI.out _ _ _ hrs)
    clear hrs HRI
    go_wp2_with fail
    refine (clone_any w1.heap.size (some ⟨b,i * 2,none⟩) _ _ r _ HRS.out (Nat.le_refl _) (by omega)).mono ?_
    rintro e w2 ⟨A1,c1,rfl,h1,h2⟩
    have H1 := hid (And.intro h1 (HB.out.trans (h2.mono HB.out.size)))
    clear h1 h2
    go_wp2
    go_ret
    exact ⟨A1,c1,rfl,own_mono H1.out.1 HB.out.size,H1.out.2⟩
theorem after_any (F : Nat -> Prop) (p : Nat) (l : List Rw) (k n : Int) (w : World) (h : IdxAt w F p l) (hsz : l.length <= 1099511627775) :
 Calls Tryz.prog 132 #[.pointer (some ⟨p,0,none⟩),.int .i64 k,.int .i64 n] w (NewRows w (after l k n)) := by
 by_cases h0 : n < 0
 ·exact after_none F p l k n w h hsz h0
 ·obtain ⟨nn,rfl⟩ := Int.eq_ofNat_of_zero_le (show 0 <= n by omega)
  by_cases h1 : l.length - aft l k < nn
  ·exact after_rest F p l k nn w h hsz h1
  ·exact after_few F p l k nn w h hsz h1
def Turned (w : World) (F : Nat -> Prop) (p : Nat) (b : Bool) (l : List Rw) (e : Ending) (w' : World) : Prop :=
 e = .returned (.bool b) /\ IdxAt w' (Out F w w') p l /\ Turn F w w'
theorem put_any (F : Nat -> Prop) (p : Nat) (l : List Rw) (k : Int) (v : ByteArray) (w : World) (h : IdxAt w F p l) (hsz : l.length <= 1099511627774) :
 Calls Tryz.prog 227 #[.pointer (some ⟨p,0,none⟩),.int .i64 k,.string v] w (Turned w F p (!there l k) (put l k v)) := by
 have HP := hid (place_any F p l k w h (by omega))
 have hrise := h.rise
 have HI := hid h
 have HRI := hid (hrise.put k v)
 cases ht : there l k with
 | true =>
   have hlt := pos_lt ht
   have HPUT := hid (put_there (v := v) ht)
   have HT := hid ht
   clear h hrise ht
   generalize hpos : pos l k = i at *
   have HPOS := hid hpos
   clear hpos
   go_enter Tryz.func227,Tryz.ntmps227
   go_wp2_with fail
   refine HP.out.mono ?_
   rintro e w1 ⟨rfl,hb⟩
   rw [HT.out,HPOS.out]
   obtain ⟨A,c,h1,h2,h3,h4,h5⟩ := HI.out.new hb
   obtain ⟨b,rfl,ha⟩ := own_arr h3 rfl (by omega)
   have hFb : F b := h4 b rfl
   obtain ⟨x,hx⟩ : ∃ x,l[i]? = some x := ⟨_,List.getElem?_eq_getElem hlt⟩
   obtain ⟨c1,c2⟩ := ha.get hx
   have c0 : w1.cell? ⟨p,0,none⟩ = some (.slice (some ⟨b,0,none⟩) l.length c) := h1.cell 0
   have f1 := ha.frozen (i * 2 + 1)
   have l1 : (i : Int) < (l.length : Int) := by omega
   have hset : Arr (w1.setCell ⟨b,i * 2 + 1,none⟩ (.string v)) b c (put l k v) := by
    rw [HPUT.out]
    obtain ⟨cur,k1,k2,k3,k4,k5⟩ := ha
    refine ⟨_,k1.set_ _ _,by rw [List.length_set]; exact k2,k3,by simp [k4],?_⟩
    rw [Array.toList_setIfInBounds,List.length_set,List.take_set,k5]
    obtain ⟨y,hy,hyk⟩ := pos_split l k HT.out
    rw [HPOS.out] at hy
    rw [rv_set]
    have e1 := (rv_get l i y hy).1
    rw [hyk] at e1
    have e2 : (rv l).set (i * 2) (.int .i64 k) = rv l := by
     apply List.ext_getElem?
     intro j
     rw [List.getElem?_set]
     split
     ·next hj =>
      subst hj
      split
      ·exact e1.symm
      ·next hn => rw [List.getElem?_eq_none (by omega)]
     ·rfl
    rw [e2]
   have hlen : (put l k v).length = l.length := by rw [HPUT.out,List.length_set]
   have hne : p ≠ b := by
    rintro rfl
    obtain ⟨cur,k1,_⟩ := ha
    have := h1.symm.trans k1
    simp at this
   have hp2 : Blk (w1.setCell ⟨b,i * 2 + 1,none⟩ (.string v)) p 197 #[.slice (some ⟨b,0,none⟩) l.length c] := h1.far hne _
   have HFIN : Hid (IdxAt (w1.setCell ⟨b,i * 2 + 1,none⟩ (.string v)) (Out F w (w1.setCell ⟨b,i * 2 + 1,none⟩ (.string v))) p (put l k v) /\ Turn F w (w1.setCell ⟨b,i * 2 + 1,none⟩ (.string v))) :=
    ⟨⟨some ⟨b,0,none⟩,c,by rw [hlen]; exact hp2,.inl h2,by have := hset.own (base := 0) (Nat.zero_le _); exact this,fun g hg => by injection hg with hg; subst hg; exact .inl hFb,HRI.out⟩,(Turn.new hb).setCell (.inl hFb) _⟩
   clear hb h1 h2 h3 h4 h5 ha hFb hx hset hne hp2
   go_wp2
   go_ret
   exact ⟨rfl,HFIN.out.1,HFIN.out.2⟩
 | false =>
   have hple := pos_le l k
   have HPUT := hid (put_new (v := v) ht)
   have HLEN := hid (show (put l k v).length = l.length + 1 by rw [put_length,ht]; rfl)
   have HT := hid ht
   clear h hrise ht
   generalize hpos : pos l k = i at *
   have HPOS := hid hpos
   clear hpos
   go_enter Tryz.func227,Tryz.ntmps227
   go_wp2_with fail
   refine HP.out.mono ?_
   rintro e w1 ⟨rfl,hb⟩
   rw [HT.out,HPOS.out]
   obtain ⟨A,c,h1,h2,h3,h4,h5⟩ := HI.out.new hb
   have c0 : w1.cell? ⟨p,0,none⟩ = some (.slice A l.length c) := h1.cell 0
   have HX := hid (Blk.new w1 52 #[.int .i64 k,.string v])
   have hbx : Below w1.heap.size w1 (w1.alloc (.cells #[.int .i64 k,.string v] 52)) := (Below.refl _ _).alloc (Nat.le_refl _) _
   have HO := hid (own_keep h3 hbx)
   have HNE := hid (show (Value.slice A l.length c).ownBlock ≠ some w1.heap.size from fun e => by have := own_lt h3 e; omega)
   have HB := hid hb
   have H1 := hid (h1.alloc (.cells #[.int .i64 k,.string v] 52))
   have H2 := hid (And.intro h2 h4)
   have hpw := h1.lt
   have HBX := hid hbx
   clear hb h1 h2 h3 h4 h5 hbx
   go_wp2_with fail
   refine (insert_any A l.length c l i ⟨k,v⟩ w1.heap.size _ HO.out rfl hple HX.out HNE.out (by omega)).mono ?_
   rintro e w2 ⟨A2,c2,rfl,ho2,hg2⟩
   have hp2 : Blk w2 p 197 #[.slice A l.length c] := H1.out.grown hg2.1 (fun e => by
    obtain ⟨cur,hc⟩ := own_type HO.out e.symm
    have := H1.out.symm.trans hc
    simp at this)
   have d0 := hp2.cell 0
   have df := hp2.frozen 0
   have hpne : (Value.slice A2 (l.length + 1) c2).ownBlock ≠ some p := fun e => by
    obtain ⟨cur,hc⟩ := own_type ho2 e
    have := hp2.symm.trans hc
    simp at this
   have ho3 : (w2.setCell ⟨p,0,none⟩ (.slice A2 (l.length + 1) c2)).ownsRow 0 52 2 (.slice A2 (l.length + 1) c2) (l.length + 1) (rv (put l k v)) := by
    rw [HPUT.out]
    exact own_same ho2 fun g hg => Below.heap_setCell w2 ⟨p,0,none⟩ _ g (fun e => hpne (by rw [hg,e]))
   have ht1 : Turn F w w2 := by
    have t1 : Turn F w (w1.alloc (.cells #[.int .i64 k,.string v] 52)) := (Turn.new HB.out).alloc _
    exact t1.trans (Turn.grown (F := F) hg2.1 fun g hg => H2.out.2 g hg) fun i hi => .inl hi
   have ht2 := ht1.setCell (p := ⟨p,0,none⟩) (.inl H2.out.1) (.slice A2 (l.length + 1) c2)
   have HFIN : Hid (IdxAt (w2.setCell ⟨p,0,none⟩ (.slice A2 (l.length + 1) c2)) (Out F w (w2.setCell ⟨p,0,none⟩ (.slice A2 (l.length + 1) c2))) p (put l k v) /\ Turn F w (w2.setCell ⟨p,0,none⟩ (.slice A2 (l.length + 1) c2))) :=
    ⟨⟨A2,c2,by rw [HLEN.out]; exact hp2.set_ 0 _,.inl H2.out.1,by rw [HLEN.out]; exact ho3,fun g hg => by
      rw [HLEN.out] at hg
      rcases hg2.2 with e | e
      ·rw [hg] at e
       exact .inl (H2.out.2 g e.symm)
      ·refine .inr ⟨?_,own_lt ho3 hg⟩
       have := e g hg
       have h5 := HB.out.size
       simp at this
       omega,HRI.out⟩,ht2⟩
   clear ho2 hg2 hp2 hpne ho3 ht1 ht2
   go_wp2
   go_ret
   exact ⟨rfl,HFIN.out.1,HFIN.out.2⟩
theorem del_any (F : Nat -> Prop) (p : Nat) (l : List Rw) (k : Int) (w : World) (h : IdxAt w F p l) (hsz : l.length <= 1099511627774) :
 Calls Tryz.prog 226 #[.pointer (some ⟨p,0,none⟩),.int .i64 k] w (Turned w F p (there l k) (del l k)) := by
 have HP := hid (place_any F p l k w h (by omega))
 have hrise := h.rise
 have HI := hid h
 have HRI := hid (hrise.del k)
 cases ht : there l k with
 | false =>
   have HD := hid (show del l k = l by rw [del,if_neg (by rw [ht]; simp)])
   have HT := hid ht
   clear h hrise ht
   go_enter Tryz.func226,Tryz.ntmps226
   go_wp2_with fail
   refine HP.out.mono ?_
   rintro e w1 ⟨rfl,hb⟩
   rw [HT.out]
   have HB := hid hb
   clear hb
   go_wp2
   go_ret
   exact ⟨rfl,by rw [HD.out]; exact (HI.out.new HB.out).mono fun i _ hi => .inl hi,Turn.new HB.out⟩
 | true =>
   have hlt := pos_lt ht
   have HD := hid (show del l k = l.eraseIdx (pos l k) by rw [del,if_pos ht])
   have HT := hid ht
   clear h hrise ht
   generalize hpos : pos l k = i at *
   have HPOS := hid hpos
   clear hpos
   obtain ⟨n,hn⟩ : ∃ n,l.length = n + 1 := ⟨l.length - 1,by omega⟩
   have HN := hid hn
   have HLEN := hid (show (del l k).length = n by rw [HD.out,List.length_eraseIdx,if_pos hlt,hn]; omega)
   have l1 : i <= n := by omega
   have l2 : n <= 1099511627774 := by omega
   clear hn hsz hlt
   go_enter Tryz.func226,Tryz.ntmps226
   go_wp2_with fail
   refine HP.out.mono ?_
   rintro e w1 ⟨rfl,hb⟩
   rw [HT.out,HPOS.out]
   obtain ⟨A,c,h1,h2,h3,h4,h5⟩ := HI.out.new hb
   obtain ⟨b,rfl,ha⟩ := own_arr h3 rfl (by rw [HN.out]; omega)
   have hFb : F b := h4 b rfl
   rw [HN.out] at h1
   have c0 : w1.cell? ⟨p,0,none⟩ = some (.slice (some ⟨b,0,none⟩) (n + 1) c) := h1.cell 0
   have HB := hid hb
   have H1 := hid h1
   have HA := hid ha
   have H2 := hid (And.intro h2 hFb)
   clear hb h1 h2 h3 h4 h5 ha hFb
   go_wp2_with fail
   refine (delete_any b c l i n _ HA.out HN.out l1).mono ?_
   rintro e w2 ⟨rfl,ha2,hg2⟩
   have hne : b ≠ p := by
    rintro rfl
    obtain ⟨cur,k1,_⟩ := HA.out
    have := H1.out.symm.trans k1
    simp at this
   have hp2 : Blk w2 p 197 #[.slice (some ⟨b,0,none⟩) (n + 1) c] := H1.out.grown hg2 (by simpa using fun e => hne e.symm)
   have d0 := hp2.cell 0
   have df := hp2.frozen 0
   have ha3 : Arr (w2.setCell ⟨p,0,none⟩ (.slice (some ⟨b,0,none⟩) n c)) b c (del l k) := by
    rw [HD.out]
    exact ha2.same (Below.heap_setCell w2 ⟨p,0,none⟩ _ b hne)
   have ht1 : Turn F w w2 := (Turn.new HB.out).trans (Turn.grown (F := F) hg2 fun g hg => by injection hg with hg; subst hg; exact H2.out.2) fun i hi => .inl hi
   have ht2 := ht1.setCell (p := ⟨p,0,none⟩) (.inl H2.out.1) (.slice (some ⟨b,0,none⟩) n c)
   have HFIN : Hid (IdxAt (w2.setCell ⟨p,0,none⟩ (.slice (some ⟨b,0,none⟩) n c)) (Out F w (w2.setCell ⟨p,0,none⟩ (.slice (some ⟨b,0,none⟩) n c))) p (del l k) /\ Turn F w (w2.setCell ⟨p,0,none⟩ (.slice (some ⟨b,0,none⟩) n c))) :=
    ⟨⟨some ⟨b,0,none⟩,c,by rw [HLEN.out]; exact hp2.set_ 0 _,.inl H2.out.1,by have := ha3.own (base := 0) (Nat.zero_le _); exact this,fun g hg => by injection hg with hg; subst hg; exact .inl H2.out.2,HRI.out⟩,ht2⟩
   clear ha2 hg2 hne hp2 ha3 ht1 ht2
   go_wp2
   go_ret
   exact ⟨rfl,HFIN.out.1,HFIN.out.2⟩
def Begun (w : World) (l : List Rw) (e : Ending) (w' : World) : Prop :=
 ∃ p,e = .returned (.pointer (some ⟨p,0,none⟩)) /\ IdxAt w' (fun i => w.heap.size <= i /\ i < w'.heap.size) p l /\ Below w.heap.size w w'
end Idx
namespace Idx
open Go.RowKit Base IdxMath Foot
open Go.Sort (grow)
theorem reverse_nil (w : World) : Calls Tryz.prog 151 #[.slice none 0 0] w fun e w' => e = .returned (.tuple #[]) /\ w = w' := by
 go_enter Tryz.func151,Tryz.ntmps151
 go_wp2
 refine wp_loop_rounds 1 ?_
 rw [rounds_succ]
 go_wp2
 go_end0
 exact ⟨rfl,rfl⟩
theorem insertion_nil (v : Value) (w : World) : Calls Tryz.prog 246 #[.slice none 0 0,.int .i64 0,.int .i64 0,v] w fun e w' => e = .returned (.tuple #[]) /\ w = w' := by
 go_enter Tryz.func246,Tryz.ntmps246
 go_wp2
 refine wp_loop_rounds 1 ?_
 rw [rounds_succ]
 go_wp2
 go_end0
 exact ⟨rfl,rfl⟩
theorem stableCmp_nil (v : Value) (w : World) : Calls Tryz.prog 207 #[.slice none 0 0,.int .i64 0,v] w fun e w' => e = .returned (.tuple #[]) /\ w = w' := by
 go_enter Tryz.func207,Tryz.ntmps207
 go_wp2
 refine wp_loop_rounds 1 ?_
 rw [rounds_succ]
 go_wp2_with fail
 refine (insertion_nil _ _).mono ?_
 rintro e w1 ⟨rfl,rfl⟩
 go_wp2
 refine wp_loop_rounds 1 ?_
 rw [rounds_succ]
 go_wp2
 go_end0
 exact ⟨rfl,rfl⟩
theorem stable_nil (v : Value) (w : World) : Calls Tryz.prog 152 #[.slice none 0 0,v] w fun e w' => e = .returned (.tuple #[]) /\ w = w' := by
 go_enter Tryz.func152,Tryz.ntmps152
 go_wp2_with fail
 refine (stableCmp_nil _ _).mono ?_
 rintro e w1 ⟨rfl,rfl⟩
 go_wp2
 go_end0
 exact ⟨rfl,rfl⟩
theorem compact_nil (v : Value) (w : World) : Calls Tryz.prog 154 #[.slice none 0 0,v] w fun e w' => e = .returned (.slice none 0 0) /\ w = w' := by
 go_enter Tryz.func154,Tryz.ntmps154
 go_wp2
 go_ret
 exact ⟨rfl,rfl⟩
theorem below_of_only' {B : Nat} {a w : World} {g : Nat} (h : a.grownBy w (some g)) (hg : B <= g) (hB : B <= a.heap.size) : Below B a w :=
 ⟨h.os,h.tape,h.output,h.size,fun i hi => h.block i (by omega) (fun e => by injection e; omega)⟩
theorem begun_of {w w1 : World} {A : Option Addr} {c : Nat} {l : List Rw} (hb : Below w.heap.size w w1) (ho : w1.ownsRow w.heap.size 52 2 (.slice A l.length c) l.length (rv l)) (hr : Rise l) :
 Begun w l (.returned (.pointer (some ⟨w1.heap.size,0,none⟩))) (w1.alloc (.cells #[.slice A l.length c] 197)) := by
 have hbx : Below w1.heap.size w1 (w1.alloc (.cells #[.slice A l.length c] 197)) := (Below.refl _ _).alloc (Nat.le_refl _) _
 refine ⟨w1.heap.size,rfl,⟨A,c,Blk.new _ _ _,⟨hb.size,by simp⟩,own_mono (own_keep ho hbx) (Nat.zero_le _),fun g hg => ⟨(ho.lt g hg).1,by have := own_lt ho hg; simp; omega⟩,hr⟩,hb.alloc hb.size _⟩
theorem new_any (B : Nat) (A : Option Addr) (n c : Nat) (rows : List Rw) (w : World) (hr : Rs w B A n c rows) (hB : B <= w.heap.size) (hsz : n <= 1099511627774) :
 Calls Tryz.prog 93 #[.slice A n c] w (Begun w (make rows)) := by
 have HC := hid (clone_any B A n c rows w hr hB (by omega))
 have HL := hid hr.len
 clear hr
 go_enter Tryz.func93,Tryz.ntmps93
 go_wp2_with fail
 refine HC.out.mono ?_
 rintro e w1 ⟨A1,c1,rfl,ho1,hb1⟩
 have HB1 := hid hb1
 clear hb1
 rcases ho1.2 with ⟨hv,h0⟩ | ⟨b,cap,cur,hv,hbase,hg,h1,h2,h3,h4⟩
 ·simp only [Value.slice.injEq] at hv
  obtain ⟨rfl,h0,rfl⟩ := hv
  obtain rfl : rows = [] := List.eq_nil_of_length_eq_zero h0
  clear ho1
  go_wp2_with fail
  refine (reverse_nil _).mono ?_
  rintro e w2 ⟨rfl,rfl⟩
  go_wp2_with fail
  refine (stable_nil _ _).mono ?_
  rintro e w2 ⟨rfl,rfl⟩
  go_wp2_with fail
  refine (compact_nil _ _).mono ?_
  rintro e w2 ⟨rfl,rfl⟩
  have HF := hid (begun_of (A := none) (c := 0) (l := []) HB1.out (World.ownsRow_nil _ _ _ _) Rise.nil)
  go_wp2
  go_ret
  exact HF.out
 ·simp only [Value.slice.injEq] at hv
  obtain ⟨rfl,_,rfl⟩ := hv
  have ha : Arr w1 b c1 rows := ⟨cur,hg,h1,h2,h3,h4⟩
  have HA := hid ha
  have HBS := hid hbase
  clear ho1 hg h1 h2 h3 h4 ha hbase
  generalize hn : rows.length = N at *
  have HN := hid hn
  have hN : N <= 1099511627774 := by have := HL.out; omega
  clear hn
  go_wp2_with fail
  refine (by have := reverse_any b c1 rows w1 HA.out; rw [HN.out] at this; exact this : Calls Tryz.prog 151 #[.slice (some ⟨b,0,none⟩) N c1] w1 _).mono ?_
  rintro e w2 ⟨rfl,ha2,hg2⟩
  have HA2 := hid ha2
  have HG2 := hid hg2
  clear ha2 hg2
  go_wp2_with fail
  refine (stable_any b c1 rows.reverse N w2 HA2.out (by rw [List.length_reverse,HN.out]) (by omega)).mono ?_
  rintro e w3 ⟨rfl,hg3,S,hs1,hs2,hs3,ha3⟩
  have HG3 := hid (only_trans HG2.out hg3 (.inl rfl))
  have HA3 := hid ha3
  have HS := hid (And.intro (cpt_make hs1 hs2) hs3)
  clear hg3 hs1 hs2 hs3 ha3
  go_wp2_with fail
  refine (compact_any b c1 N S w3 HA3.out (by rw [HS.out.2,List.length_reverse,HN.out]) (by omega)).mono ?_
  rintro e w4 ⟨rfl,ha4,hg4⟩
  rw [HS.out.1] at ha4 ⊢
  have hb4 : Below w.heap.size w w4 := HB1.out.trans (below_of_only' (only_trans HG3.out hg4 (.inl rfl)) HBS.out HB1.out.size)
  have HF := hid (begun_of hb4 (ha4.own HBS.out) (Rise.make rows))
  clear ha4 hg4 hb4
  go_wp2
  go_ret
  exact HF.out
end Idx
end Go.Proofs.YtefnmnpfecfdaaaGreat
