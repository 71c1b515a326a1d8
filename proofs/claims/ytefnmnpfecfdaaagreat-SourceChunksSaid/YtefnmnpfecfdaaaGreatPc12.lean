/-
  Texts of one proof: IdxMerge2, IdxStable.
-/
import Derived.Test.YtefnmnpfecfdaaaGreatPc11
import Derived.Deep.DeepCutAuto
set_option linter.all false
set_option maxRecDepth 100000
set_option maxHeartbeats 12800000
open Go.Lib (hid)
namespace Go.Proofs.YtefnmnpfecfdaaaGreat
namespace Idx
open Go.RowKit Base IdxMath
open Go.Sort (grow)
def SplitRel (w : World) (b c : Nat) (L U V : List Rw) (a m n lo hi : Nat) (vs vr : Value) (wr : World) : Prop :=
 ∃ s r : Nat,vs = .int .i64 s /\ vr = .int .i64 r /\ lo <= s /\ s <= r /\ r <= hi /\
   (s = lo \/ ∃ x y,U[s - 1 - a]? = some x /\ V[n - s - m]? = some y /\ x.key <= y.key /\ a < s) /\
   (r = hi \/ ∃ x y,U[r - a]? = some x /\ V[n - 1 - r - m]? = some y /\ y.key < x.key /\ r + m < n) /\ Arr wr b c L /\ w.grownBy wr (some b)
theorem split_apart {U V : List Rw} {a m n e lo hi mid s : Nat} (hs : Srt U) (ht : Srt V) (hU : a + U.length = m) (hV : m + V.length = e) (hn : n = mid + m) (hmid : mid = (a + e) / 2) (hlo : (mid < m /\ lo = n - e /\ hi = mid) \/ (m <= mid /\ lo = a /\ hi = m))
 (h1 : lo <= s) (h2 : s <= hi) (h3 : s = lo \/ ∃ x y,U[s - 1 - a]? = some x /\ V[n - s - m]? = some y /\ x.key <= y.key /\ a < s) (h4 : s = hi \/ ∃ x y,U[s - a]? = some x /\ V[n - 1 - s - m]? = some y /\ y.key < x.key /\ s + m < n) :
 (∀ x ∈ U.take (s - a),∀ y ∈ V.drop (n - s - m),x.key <= y.key) /\ ∀ x ∈ U.drop (s - a),∀ y ∈ V.take (n - s - m),y.key < x.key := by
 constructor
 ·intro x hx y hy
  rcases h3 with h3 | ⟨x',y',hx',hy',hk,has⟩
  ·rcases hlo with ⟨q1,q2,q3⟩ | ⟨q1,q2,q3⟩
   ·rw [List.drop_of_length_le (by omega)] at hy
    cases hy
   ·rw [show s - a = 0 by omega] at hx
    cases hx
  ·have e1 := take_last hs hx' x (by rw [show s - 1 - a + 1 = s - a by omega]; exact hx)
   have e2 := drop_first ht hy' y hy
   omega
 ·intro x hx y hy
  rcases h4 with h4 | ⟨x',y',hx',hy',hk,has⟩
  ·rcases hlo with ⟨q1,q2,q3⟩ | ⟨q1,q2,q3⟩
   ·rw [show n - s - m = 0 by omega] at hy
    cases hy
   ·rw [List.drop_of_length_le (by omega)] at hx
    cases hx
  ·have e1 := take_last ht hy' y (by rw [show n - 1 - s - m + 1 = n - s - m by omega]; exact hy)
   have e2 := drop_first hs hx' x hx
   omega
def MergeAll (b c N s : Nat) : Prop := ∀ (P U V R : List Rw) (a m e : Nat) (w : World),U.length + V.length < s -> Arr w b c (P ++ U ++ V ++ R) -> N = (P ++ U ++ V ++ R).length -> P.length = a -> a + U.length = m -> m + V.length = e -> 0 < U.length -> 0 < V.length -> Srt U -> Srt V ->
    Calls Tryz.prog 247 #[.slice (some ⟨b,0,none⟩) N c,.int .i64 a,.int .i64 m,.int .i64 e,.func (.func 153) #[] #[]] w (Merged w b c P U V R)
def Half (w : World) (b c : Nat) (P A Q : List Rw) (wx : World) : Prop := ∃ M,Srt M /\ St A M /\ M.length = A.length /\ Arr wx b c (P ++ M ++ Q) /\ w.grownBy wx (some b)
theorem half_of {w wx wy : World} {b c : Nat} {P U V Q : List Rw} {e : Ending} (hg : w.grownBy wx (some b)) (h : Merged wx b c P U V Q e wy) : e = .returned (.tuple #[]) /\ Half w b c P (U ++ V) Q wy := by
 obtain ⟨he,hg2,M,h1,h2,h3,h4⟩ := h
 exact ⟨he,M,h1,h2,by rw [h3,List.length_append],h4,only_trans hg hg2 (.inl rfl)⟩
theorem srt_skip {A B : List Rw} (ha : Srt A) (hb : Srt B) (h : A = [] \/ B = []) : Srt (A ++ B) := by
 rcases h with rfl | rfl
 ·simpa using hb
 ·simpa using ha
theorem half_skip {w wx : World} {b c : Nat} {P A B Q : List Rw} (ha : Srt A) (hb : Srt B) (h : A = [] \/ B = []) (harr : Arr wx b c (P ++ A ++ B ++ Q)) (hg : w.grownBy wx (some b)) : Half w b c P (A ++ B) Q wx :=
 ⟨A ++ B,srt_skip ha hb h,St.refl _,rfl,by simpa using harr,hg⟩
theorem merge_step (b c N : Nat) (P U V R : List Rw) (a m e : Nat) (w : World) (ih : MergeAll b c N (U.length + V.length)) (h : Arr w b c (P ++ U ++ V ++ R)) (hN : N = (P ++ U ++ V ++ R).length) (hP : P.length = a) (hU : a + U.length = m) (hV : m + V.length = e) (hu : 2 <= U.length) (hv : 2 <= V.length) (hs : Srt U) (ht : Srt V) (hsz : N <= 1099511627776) :
 Calls Tryz.prog 247 #[.slice (some ⟨b,0,none⟩) N c,.int .i64 a,.int .i64 m,.int .i64 e,.func (.func 153) #[] #[]] w (Merged w b c P U V R) := by
 have hle := h.le
 rw [<- hN] at hle
 have HL : Hid (P.length = a /\ a + U.length = m /\ m + V.length = e /\ 2 <= U.length /\ 2 <= V.length) := ⟨hP,hU,hV,hu,hv⟩
 have e1 : ((m : Int) - (a : Int) == 1) = false := by rw [beq_eq_false_iff_ne]; omega
 have e2 : ((e : Int) - (m : Int) == 1) = false := by rw [beq_eq_false_iff_ne]; omega
 have l0 : e <= N := by rw [hN]; simp; omega
 have l1 : m < e := by omega
 have l2 : a < m := by omega
 have HA := hid h
 have HN := hid hN
 have HS := hid (And.intro hs ht)
 have HIH := hid ih
 have HU : Hid (∀ (k : Nat) x,a <= k -> U[k - a]? = some x -> (P ++ U ++ V ++ R)[k]? = some x) := fun k x hk hx => by
  have hl : k - a < U.length := (List.getElem?_eq_some_iff.1 hx).1
  rw [List.append_assoc,List.append_assoc,List.getElem?_append_right (by omega),List.getElem?_append_left (by omega),<- hx]
  congr 1
  omega
 have HV : Hid (∀ (k : Nat) x,m <= k -> V[k - m]? = some x -> (P ++ U ++ V ++ R)[k]? = some x) := fun k x hk hx => by
  have hl : k - m < V.length := (List.getElem?_eq_some_iff.1 hx).1
  rw [List.append_assoc,List.getElem?_append_right (by simp; omega),List.getElem?_append_left (by simp; omega),<- hx]
  congr 1
  simp; omega
 obtain ⟨mid,hmid⟩ : ∃ mid,mid = (a + e) / 2 := ⟨_,rfl⟩
 obtain ⟨n,hn⟩ : ∃ n,n = mid + m := ⟨_,rfl⟩
 obtain ⟨lo,hi,hlo⟩ : ∃ lo hi : Nat,(mid < m /\ lo = n - e /\ hi = mid) \/ (m <= mid /\ lo = a /\ hi = m) := by
  rcases Nat.lt_or_ge mid m with h | h
  ·exact ⟨_,_,.inl ⟨h,rfl,rfl⟩⟩
  ·exact ⟨_,_,.inr ⟨h,rfl,rfl⟩⟩
 have e3 : ((a : Int) + (e : Int)) / 2 = (mid : Int) := by omega
 have e4 : (mid : Int) + (m : Int) = (n : Int) := by omega
 have HLO : Hid ((mid < m /\ lo = n - e /\ hi = mid) \/ (m <= mid /\ lo = a /\ hi = m)) := hlo
 have HMN := hid (show n = mid + m /\ mid = (a + e) / 2 /\ a <= lo /\ n <= lo + e /\ hi <= m /\ hi <= mid /\ lo <= hi /\ a < mid /\ mid < e from ⟨hn,hmid,by omega⟩)
 have l3 : n <= 2 * N := by omega
 have l4 : mid <= N := by omega
 have l5 : 1 <= n := by omega
 clear h hN hP hU hV hs ht ih hu hv hlo hn hmid
 go_enter Tryz.func247,Tryz.ntmps247
 go_upto_if 140 with fail
 go_cut [20,21] (fun x y wx => x = .int .i64 lo /\ y = .int .i64 hi /\ w = wx)
 case first =>
  rcases HLO.out with ⟨q1,q2,q3⟩ | ⟨q1,q2,q3⟩
  ·have q4 : (mid : Int) < (m : Int) := by omega
   have q5 : (n : Int) - (e : Int) = (lo : Int) := by have := HMN.out; omega
   subst q3
   clear q2
   go_wp2_with fail
   go_meet
   exact ⟨rfl,rfl,rfl⟩
  ·have q4 : ¬ (mid : Int) < (m : Int) := by omega
   subst q2 q3
   go_wp2_with fail
   go_meet
   exact ⟨rfl,rfl,rfl⟩
 case rest =>
  obtain ⟨rfl,rfl,rfl⟩ := hcut
  obtain ⟨p,hp⟩ : ∃ p,n = p + 1 := ⟨n - 1,by omega⟩
  have e5 : (n : Int) - 1 = (p : Int) := by omega
  have HP := hid hp
  clear hp
  go_wp2
  go_loopw [20,21] (fun x y wr => SplitRel w b c (P ++ U ++ V ++ R) U V a m n lo hi x y wr) (fun i j _ => diff2 i j)
  case atStart => exact ⟨lo,hi,rfl,rfl,Nat.le_refl _,by have := HMN.out; omega,Nat.le_refl _,.inl rfl,.inl rfl,HA.out,World.grownBy.refl _ _⟩
  case round =>
   obtain ⟨s,r,rfl,rfl,hls,hsr,hrh,h3,h4,harr,hg⟩ := hrel
   have HG := hid hg
   have H3 := hid h3
   have H4 := hid h4
   clear hg h3 h4
   by_cases hlt : s < r
   ·have q3 : (s : Int) < (r : Int) := by omega
    obtain ⟨k,hk⟩ : ∃ k,k = (s + r) / 2 := ⟨_,rfl⟩
    have q4 : ((s : Int) + (r : Int)) / 2 = (k : Int) := by omega
    have hkb : s <= k /\ k < r := by omega
    obtain ⟨q,hq⟩ : ∃ q,q = p - k := ⟨_,rfl⟩
    have q5 : (p : Int) - (k : Int) = (q : Int) := by have := HMN.out; have := HP.out; omega
    have hqb : q = n - 1 - k /\ m <= q /\ q < e /\ a <= k /\ k < m := by have := HMN.out; have := HP.out; omega
    have hul : k - a < U.length := by have := HL.out; omega
    have hvl : q - m < V.length := by have := HL.out; omega
    obtain ⟨x,hx⟩ : ∃ x,U[k - a]? = some x := ⟨_,List.getElem?_eq_getElem hul⟩
    obtain ⟨y,hy⟩ : ∃ y,V[q - m]? = some y := ⟨_,List.getElem?_eq_getElem hvl⟩
    obtain ⟨c1,c2⟩ := harr.got (HU.out k x (by omega) hx)
    obtain ⟨c3,c4⟩ := harr.got (HV.out q y (by omega) hy)
    have hc := cmp_grown y x wr
    have HX := hid (And.intro hx hy)
    have HAR := hid harr
    have q6 : (k : Int) < (N : Int) := by omega
    have q7 : (q : Int) < (N : Int) := by omega
    have q8 : k + 1 <= N := by omega
    have q9 : IntKind.i64.wrap (q : Int) = (q : Int) := by rw [IntKind.wrap_i64]; omega
    have HK := hid hk
    have HKB := hid (And.intro hkb hqb)
    have mixed : Tryz.prog.follows .mixedOrders = true := by kernel_rfl
    clear hx hy harr hul hvl hk hkb hq hqb
    by_cases hxu : y.key < x.key
    ·rw [cmpK_neg hxu] at hc
     have hn : ((-1 : Int) < 0) := by omega
     go_wp2_with fail
     go_quiet_grown (first | (go_at_call 153; exact hc _ _))
     go_wp2
     go_roundw
     case rel =>
      obtain ⟨⟨t1,t2⟩,t3,t4,t5,t6,t7⟩ := HKB.out
      have := HMN.out
      refine ⟨s,k,rfl,rfl,hls,t1,by omega,H3.out,.inr ⟨x,y,HX.out.1,?_,hxu,by omega⟩,HAR.out.grown _ _,only_grow HG.out _ _⟩
      rw [show n - 1 - k - m = q - m by omega]
      exact HX.out.2
     case measure =>
      have := HKB.out
      simp [RowKit.intOf,diff2]; omega
    ·have hk2 : decide (cmpK y.key x.key < 0) = false := decide_eq_false fun h => hxu (cmpK_lt.1 h)
     go_wp2_with fail
     go_quiet_grown (first | (go_at_call 153; exact hc _ _))
     go_wp2
     go_roundw
     case rel =>
      obtain ⟨⟨t1,t2⟩,t3,t4,t5,t6,t7⟩ := HKB.out
      have := HMN.out
      refine ⟨k + 1,r,by go_num,rfl,by omega,by omega,hrh,.inr ⟨x,y,?_,?_,by omega,by omega⟩,H4.out,HAR.out.grown _ _,only_grow HG.out _ _⟩
      ·rw [show k + 1 - 1 - a = k - a by omega]
       exact HX.out.1
      ·rw [show n - (k + 1) - m = q - m by omega]
       exact HX.out.2
     case measure =>
      have := HKB.out
      simp [RowKit.intOf,diff2]; omega
   ·obtain rfl : s = r := by omega
    have hap := split_apart HS.out.1 HS.out.2 HL.out.2.1 HL.out.2.2.1 HMN.out.1 HMN.out.2.1 HLO.out hls hrh H3.out H4.out
    have HM := hid (fun M1 M2 => merge_parts (M1 := M1) (M2 := M2) HS.out.1 HS.out.2 hap.1 hap.2)
    obtain ⟨en,hen⟩ : ∃ en,en = n - s := ⟨_,rfl⟩
    have hb := HMN.out
    have hb2 := HL.out
    have hen2 : n - s - m = en - m := by omega
    rw [hen2] at HM
    have q3 : (n : Int) - (s : Int) = (en : Int) := by omega
    have htu := List.take_append_drop (s - a) U
    have htv := List.take_append_drop (en - m) V
    have lu1 : (U.take (s - a)).length = s - a := by rw [List.length_take]; omega
    have lu2 : (U.drop (s - a)).length = m - s := by rw [List.length_drop]; omega
    have lv1 : (V.take (en - m)).length = en - m := by rw [List.length_take]; omega
    have lv2 : (V.drop (en - m)).length = e - en := by rw [List.length_drop]; omega
    have su1 := srt_take HS.out.1 (s - a)
    have su2 := srt_drop HS.out.1 (s - a)
    have sv1 := srt_take HS.out.2 (en - m)
    have sv2 := srt_drop HS.out.2 (en - m)
    generalize U.take (s - a) = U1 at *
    generalize U.drop (s - a) = U2 at *
    generalize V.take (en - m) = V1 at *
    generalize V.drop (en - m) = V2 at *
    have HF := hid (show a <= s /\ s <= m /\ m <= en /\ en <= e /\ s + en = mid + m /\ a < mid /\ mid < e by omega)
    have HQ := hid (show (U1.length = s - a /\ U2.length = m - s /\ V1.length = en - m /\ V2.length = e - en) /\ P.length = a /\ U.length + V.length = e - a from ⟨⟨lu1,lu2,lv1,lv2⟩,hb2.1,by omega⟩)
    have HSS := hid (show Srt U1 /\ Srt U2 /\ Srt V1 /\ Srt V2 from ⟨su1,su2,sv1,sv2⟩)
    have HUV := hid (And.intro htu htv)
    have HAR := hid harr
    clear hap hb hb2 hen hen2 lu1 lu2 lv1 lv2 su1 su2 sv1 sv2 htu htv harr hls hrh hsr hlt
    have q4 : s <= N := by have := HF.out; omega
    have q5 : en <= N := by have := HF.out; omega
    by_cases z1 : s < m
    ·by_cases z2 : m < en
     ·have y1 : (s : Int) < (m : Int) := by omega
      have y2 : (m : Int) < (en : Int) := by omega
      have y3 : (s : Int) < (mid : Int) := by have := HF.out; omega
      have y4 : (mid : Int) < (en : Int) := by have := HF.out; omega
      by_cases z3 : a < s
      ·have y5 : (a : Int) < (s : Int) := by omega
       by_cases z4 : en < e
       ·have y6 : (en : Int) < (e : Int) := by omega
        have HB := hid (show True from trivial)
        go_wp2_with fail
        refine (rotate_any b c N (P ++ U1) U2 V1 (V2 ++ R) s m en _ (by rw [<- HUV.out.1,<- HUV.out.2] at HAR; simpa using HAR.out) (by rw [HN.out,<- HUV.out.1,<- HUV.out.2]; simp) (by rw [List.length_append]; have := HQ.out; have := HF.out; omega) (by have := HQ.out; have := HF.out; omega) (by have := HQ.out; have := HF.out; omega) (by have := HQ.out; have := HF.out; omega) (by have := HQ.out; have := HF.out; omega)).mono ?_
        rintro e w1 ⟨rfl,ha1,hg1⟩
        have HA1 : Hid (Arr w1 b c (P ++ U1 ++ V1 ++ (U2 ++ V2 ++ R))) := hid (by simpa using ha1)
        have HG1 := hid (only_trans HG.out hg1 (.inl rfl))
        clear ha1 hg1
        go_wp2_with fail
        refine (HIH.out P U1 V1 (U2 ++ V2 ++ R) a s mid _ (by have := HQ.out; have := HF.out; omega) HA1.out (by rw [HN.out,<- HUV.out.1,<- HUV.out.2]; simp; omega) HQ.out.2.1 (by have := HQ.out; have := HF.out; omega) (by have := HQ.out; have := HF.out; omega) (by have := HQ.out; have := HF.out; omega) (by have := HQ.out; have := HF.out; omega) HSS.out.1 HSS.out.2.2.1).mono ?_
        intro e w2 hm2
        obtain ⟨he2,M1,m1,m2,m3,m4,m5⟩ := half_of HG1.out hm2
        subst he2
        clear hm2
        have HM1 := hid (And.intro m1 (And.intro m2 m3))
        have HA2 := hid m4
        have HG2 := hid m5
        rw [List.length_append] at m3
        have hm3 := hid m3
        clear m1 m2 m3 m4 m5
        go_wp2_with fail
        refine (HIH.out (P ++ M1) U2 V2 R mid en e _ (by have := HQ.out; have := HF.out; omega) (by simpa using HA2.out) (by rw [HN.out,<- HUV.out.1,<- HUV.out.2]; have := hm3.out; simp; omega) (by rw [List.length_append]; have := hm3.out; have := HQ.out; have := HF.out; omega) (by have := HQ.out; have := HF.out; omega) (by have := HQ.out; have := HF.out; omega) (by have := HQ.out; have := HF.out; omega) (by have := HQ.out; have := HF.out; omega) HSS.out.2.1 HSS.out.2.2.2).mono ?_
        intro e w3 hm4
        obtain ⟨he3,M2,m1,m2,m3,m4,m5⟩ := half_of HG2.out hm4
        subst he3
        clear hm4
        have HM2 := hid (And.intro m1 (And.intro m2 (And.intro m3 (And.intro m4 m5))))
        clear m1 m2 m3 m4 m5
        go_wp2
        go_end0
        obtain ⟨m1,m2,m3,m4,m5⟩ := HM2.out
        exact ⟨rfl,m5,M1 ++ M2,(HM.out M1 M2 HM1.out.1 m1 HM1.out.2.1 m2).1,(HM.out M1 M2 HM1.out.1 m1 HM1.out.2.1 m2).2,(by have := hm3.out; have := HQ.out; have := HF.out; rw [List.length_append] at m3 ⊢; omega),by simpa using m4⟩
       ·have y6 : ¬ (en : Int) < (e : Int) := by omega
        have HE2 : Hid (U2 = [] \/ V2 = []) := .inr (List.eq_nil_of_length_eq_zero (by have := HQ.out; have := HF.out; omega))
        have HB := hid (show True from trivial)
        go_wp2_with fail
        refine (rotate_any b c N (P ++ U1) U2 V1 (V2 ++ R) s m en _ (by rw [<- HUV.out.1,<- HUV.out.2] at HAR; simpa using HAR.out) (by rw [HN.out,<- HUV.out.1,<- HUV.out.2]; simp) (by rw [List.length_append]; have := HQ.out; have := HF.out; omega) (by have := HQ.out; have := HF.out; omega) (by have := HQ.out; have := HF.out; omega) (by have := HQ.out; have := HF.out; omega) (by have := HQ.out; have := HF.out; omega)).mono ?_
        rintro e w1 ⟨rfl,ha1,hg1⟩
        have HA1 : Hid (Arr w1 b c (P ++ U1 ++ V1 ++ (U2 ++ V2 ++ R))) := hid (by simpa using ha1)
        have HG1 := hid (only_trans HG.out hg1 (.inl rfl))
        clear ha1 hg1
        go_wp2_with fail
        refine (HIH.out P U1 V1 (U2 ++ V2 ++ R) a s mid _ (by have := HQ.out; have := HF.out; omega) HA1.out (by rw [HN.out,<- HUV.out.1,<- HUV.out.2]; simp; omega) HQ.out.2.1 (by have := HQ.out; have := HF.out; omega) (by have := HQ.out; have := HF.out; omega) (by have := HQ.out; have := HF.out; omega) (by have := HQ.out; have := HF.out; omega) HSS.out.1 HSS.out.2.2.1).mono ?_
        intro e w2 hm2
        obtain ⟨he2,M1,m1,m2,m3,m4,m5⟩ := half_of HG1.out hm2
        subst he2
        clear hm2
        have HM1 := hid (And.intro m1 (And.intro m2 m3))
        have HA2 := hid m4
        have HG2 := hid m5
        rw [List.length_append] at m3
        have hm3 := hid m3
        clear m1 m2 m3 m4 m5
        obtain ⟨M2,m1,m2,m3,m4,m5⟩ : Half w b c (P ++ M1) (U2 ++ V2) R _ := half_skip HSS.out.2.1 HSS.out.2.2.2 HE2.out (by simpa using HA2.out) HG2.out
        have HM2 := hid (And.intro m1 (And.intro m2 (And.intro m3 (And.intro m4 m5))))
        clear m1 m2 m3 m4 m5
        go_wp2
        go_end0
        obtain ⟨m1,m2,m3,m4,m5⟩ := HM2.out
        exact ⟨rfl,m5,M1 ++ M2,(HM.out M1 M2 HM1.out.1 m1 HM1.out.2.1 m2).1,(HM.out M1 M2 HM1.out.1 m1 HM1.out.2.1 m2).2,(by have := hm3.out; have := HQ.out; have := HF.out; rw [List.length_append] at m3 ⊢; omega),by simpa using m4⟩
      ·have y5 : ¬ (a : Int) < (s : Int) := by omega
       have HE1 : Hid (U1 = [] \/ V1 = []) := .inl (List.eq_nil_of_length_eq_zero (by have := HQ.out; have := HF.out; omega))
       by_cases z4 : en < e
       ·have y6 : (en : Int) < (e : Int) := by omega
        have HB := hid (show True from trivial)
        go_wp2_with fail
        refine (rotate_any b c N (P ++ U1) U2 V1 (V2 ++ R) s m en _ (by rw [<- HUV.out.1,<- HUV.out.2] at HAR; simpa using HAR.out) (by rw [HN.out,<- HUV.out.1,<- HUV.out.2]; simp) (by rw [List.length_append]; have := HQ.out; have := HF.out; omega) (by have := HQ.out; have := HF.out; omega) (by have := HQ.out; have := HF.out; omega) (by have := HQ.out; have := HF.out; omega) (by have := HQ.out; have := HF.out; omega)).mono ?_
        rintro e w1 ⟨rfl,ha1,hg1⟩
        have HA1 : Hid (Arr w1 b c (P ++ U1 ++ V1 ++ (U2 ++ V2 ++ R))) := hid (by simpa using ha1)
        have HG1 := hid (only_trans HG.out hg1 (.inl rfl))
        clear ha1 hg1
        obtain ⟨M1,m1,m2,m3,m4,m5⟩ : Half w b c P (U1 ++ V1) (U2 ++ V2 ++ R) w1 := half_skip HSS.out.1 HSS.out.2.2.1 HE1.out HA1.out HG1.out
        have HM1 := hid (And.intro m1 (And.intro m2 m3))
        have HA2 := hid m4
        have HG2 := hid m5
        rw [List.length_append] at m3
        have hm3 := hid m3
        clear m1 m2 m3 m4 m5
        go_wp2_with fail
        refine (HIH.out (P ++ M1) U2 V2 R mid en e _ (by have := HQ.out; have := HF.out; omega) (by simpa using HA2.out) (by rw [HN.out,<- HUV.out.1,<- HUV.out.2]; have := hm3.out; simp; omega) (by rw [List.length_append]; have := hm3.out; have := HQ.out; have := HF.out; omega) (by have := HQ.out; have := HF.out; omega) (by have := HQ.out; have := HF.out; omega) (by have := HQ.out; have := HF.out; omega) (by have := HQ.out; have := HF.out; omega) HSS.out.2.1 HSS.out.2.2.2).mono ?_
        intro e w3 hm4
        obtain ⟨he3,M2,m1,m2,m3,m4,m5⟩ := half_of HG2.out hm4
        subst he3
        clear hm4
        have HM2 := hid (And.intro m1 (And.intro m2 (And.intro m3 (And.intro m4 m5))))
        clear m1 m2 m3 m4 m5
        go_wp2
        go_end0
        obtain ⟨m1,m2,m3,m4,m5⟩ := HM2.out
        exact ⟨rfl,m5,M1 ++ M2,(HM.out M1 M2 HM1.out.1 m1 HM1.out.2.1 m2).1,(HM.out M1 M2 HM1.out.1 m1 HM1.out.2.1 m2).2,(by have := hm3.out; have := HQ.out; have := HF.out; rw [List.length_append] at m3 ⊢; omega),by simpa using m4⟩
       ·have y6 : ¬ (en : Int) < (e : Int) := by omega
        have HE2 : Hid (U2 = [] \/ V2 = []) := .inr (List.eq_nil_of_length_eq_zero (by have := HQ.out; have := HF.out; omega))
        have HB := hid (show True from trivial)
        go_wp2_with fail
        refine (rotate_any b c N (P ++ U1) U2 V1 (V2 ++ R) s m en _ (by rw [<- HUV.out.1,<- HUV.out.2] at HAR; simpa using HAR.out) (by rw [HN.out,<- HUV.out.1,<- HUV.out.2]; simp) (by rw [List.length_append]; have := HQ.out; have := HF.out; omega) (by have := HQ.out; have := HF.out; omega) (by have := HQ.out; have := HF.out; omega) (by have := HQ.out; have := HF.out; omega) (by have := HQ.out; have := HF.out; omega)).mono ?_
        rintro e w1 ⟨rfl,ha1,hg1⟩
        have HA1 : Hid (Arr w1 b c (P ++ U1 ++ V1 ++ (U2 ++ V2 ++ R))) := hid (by simpa using ha1)
        have HG1 := hid (only_trans HG.out hg1 (.inl rfl))
        clear ha1 hg1
        obtain ⟨M1,m1,m2,m3,m4,m5⟩ : Half w b c P (U1 ++ V1) (U2 ++ V2 ++ R) w1 := half_skip HSS.out.1 HSS.out.2.2.1 HE1.out HA1.out HG1.out
        have HM1 := hid (And.intro m1 (And.intro m2 m3))
        have HA2 := hid m4
        have HG2 := hid m5
        rw [List.length_append] at m3
        have hm3 := hid m3
        clear m1 m2 m3 m4 m5
        obtain ⟨M2,m1,m2,m3,m4,m5⟩ : Half w b c (P ++ M1) (U2 ++ V2) R _ := half_skip HSS.out.2.1 HSS.out.2.2.2 HE2.out (by simpa using HA2.out) HG2.out
        have HM2 := hid (And.intro m1 (And.intro m2 (And.intro m3 (And.intro m4 m5))))
        clear m1 m2 m3 m4 m5
        go_wp2
        go_end0
        obtain ⟨m1,m2,m3,m4,m5⟩ := HM2.out
        exact ⟨rfl,m5,M1 ++ M2,(HM.out M1 M2 HM1.out.1 m1 HM1.out.2.1 m2).1,(HM.out M1 M2 HM1.out.1 m1 HM1.out.2.1 m2).2,(by have := hm3.out; have := HQ.out; have := HF.out; rw [List.length_append] at m3 ⊢; omega),by simpa using m4⟩
     ·have y1 : (s : Int) < (m : Int) := by omega
      have y2 : ¬ (m : Int) < (en : Int) := by omega
      have y3 : ¬ (s : Int) < (mid : Int) := by have := HF.out; omega
      have y4 : (mid : Int) < (en : Int) := by have := HF.out; omega
      have y6 : (en : Int) < (e : Int) := by have := HF.out; omega
      have y5 : (a : Int) < (s : Int) := by have := HF.out; omega
      have HE : Hid (U2 = [] \/ V1 = []) := .inr (List.eq_nil_of_length_eq_zero (by have := HQ.out; have := HF.out; omega))
      have HE1 : Hid (U1 = [] \/ V1 = []) := .inr (List.eq_nil_of_length_eq_zero (by have := HQ.out; have := HF.out; omega))
      have HB := hid (show True from trivial)
      have HA1 : Hid (Arr wr b c (P ++ U1 ++ V1 ++ (U2 ++ V2 ++ R))) := hid (by have h := HAR.out; rw [<- HUV.out.1,<- HUV.out.2] at h; rcases HE.out with h0 | h0 <;> (rw [h0] at h ⊢; simpa using h))
      have HG1 := HG
      obtain ⟨M1,m1,m2,m3,m4,m5⟩ : Half w b c P (U1 ++ V1) (U2 ++ V2 ++ R) wr := half_skip HSS.out.1 HSS.out.2.2.1 HE1.out HA1.out HG1.out
      have HM1 := hid (And.intro m1 (And.intro m2 m3))
      have HA2 := hid m4
      have HG2 := hid m5
      rw [List.length_append] at m3
      have hm3 := hid m3
      clear m1 m2 m3 m4 m5
      go_wp2_with fail
      refine (HIH.out (P ++ M1) U2 V2 R mid en e _ (by have := HQ.out; have := HF.out; omega) (by simpa using HA2.out) (by rw [HN.out,<- HUV.out.1,<- HUV.out.2]; have := hm3.out; simp; omega) (by rw [List.length_append]; have := hm3.out; have := HQ.out; have := HF.out; omega) (by have := HQ.out; have := HF.out; omega) (by have := HQ.out; have := HF.out; omega) (by have := HQ.out; have := HF.out; omega) (by have := HQ.out; have := HF.out; omega) HSS.out.2.1 HSS.out.2.2.2).mono ?_
      intro e w3 hm4
      obtain ⟨he3,M2,m1,m2,m3,m4,m5⟩ := half_of HG2.out hm4
      subst he3
      clear hm4
      have HM2 := hid (And.intro m1 (And.intro m2 (And.intro m3 (And.intro m4 m5))))
      clear m1 m2 m3 m4 m5
      go_wp2
      go_end0
      obtain ⟨m1,m2,m3,m4,m5⟩ := HM2.out
      exact ⟨rfl,m5,M1 ++ M2,(HM.out M1 M2 HM1.out.1 m1 HM1.out.2.1 m2).1,(HM.out M1 M2 HM1.out.1 m1 HM1.out.2.1 m2).2,(by have := hm3.out; have := HQ.out; have := HF.out; rw [List.length_append] at m3 ⊢; omega),by simpa using m4⟩
    ·have y1 : ¬ (s : Int) < (m : Int) := by omega
     have y4 : ¬ (mid : Int) < (en : Int) := by have := HF.out; omega
     have y5 : (a : Int) < (s : Int) := by have := HF.out; omega
     have HE : Hid (U2 = [] \/ V1 = []) := .inl (List.eq_nil_of_length_eq_zero (by have := HQ.out; have := HF.out; omega))
     have HE2 : Hid (U2 = [] \/ V2 = []) := .inl (List.eq_nil_of_length_eq_zero (by have := HQ.out; have := HF.out; omega))
     by_cases z3 : s < mid
     ·have y3 : (s : Int) < (mid : Int) := by omega
      have HB := hid (show True from trivial)
      have HA1 : Hid (Arr wr b c (P ++ U1 ++ V1 ++ (U2 ++ V2 ++ R))) := hid (by have h := HAR.out; rw [<- HUV.out.1,<- HUV.out.2] at h; rcases HE.out with h0 | h0 <;> (rw [h0] at h ⊢; simpa using h))
      have HG1 := HG
      go_wp2_with fail
      refine (HIH.out P U1 V1 (U2 ++ V2 ++ R) a s mid _ (by have := HQ.out; have := HF.out; omega) HA1.out (by rw [HN.out,<- HUV.out.1,<- HUV.out.2]; simp; omega) HQ.out.2.1 (by have := HQ.out; have := HF.out; omega) (by have := HQ.out; have := HF.out; omega) (by have := HQ.out; have := HF.out; omega) (by have := HQ.out; have := HF.out; omega) HSS.out.1 HSS.out.2.2.1).mono ?_
      intro e w2 hm2
      obtain ⟨he2,M1,m1,m2,m3,m4,m5⟩ := half_of HG1.out hm2
      subst he2
      clear hm2
      have HM1 := hid (And.intro m1 (And.intro m2 m3))
      have HA2 := hid m4
      have HG2 := hid m5
      rw [List.length_append] at m3
      have hm3 := hid m3
      clear m1 m2 m3 m4 m5
      obtain ⟨M2,m1,m2,m3,m4,m5⟩ : Half w b c (P ++ M1) (U2 ++ V2) R _ := half_skip HSS.out.2.1 HSS.out.2.2.2 HE2.out (by simpa using HA2.out) HG2.out
      have HM2 := hid (And.intro m1 (And.intro m2 (And.intro m3 (And.intro m4 m5))))
      clear m1 m2 m3 m4 m5
      go_wp2
      go_end0
      obtain ⟨m1,m2,m3,m4,m5⟩ := HM2.out
      exact ⟨rfl,m5,M1 ++ M2,(HM.out M1 M2 HM1.out.1 m1 HM1.out.2.1 m2).1,(HM.out M1 M2 HM1.out.1 m1 HM1.out.2.1 m2).2,(by have := hm3.out; have := HQ.out; have := HF.out; rw [List.length_append] at m3 ⊢; omega),by simpa using m4⟩
     ·have y3 : ¬ (s : Int) < (mid : Int) := by omega
      have HE1 : Hid (U1 = [] \/ V1 = []) := .inr (List.eq_nil_of_length_eq_zero (by have := HQ.out; have := HF.out; omega))
      have HB := hid (show True from trivial)
      have HA1 : Hid (Arr wr b c (P ++ U1 ++ V1 ++ (U2 ++ V2 ++ R))) := hid (by have h := HAR.out; rw [<- HUV.out.1,<- HUV.out.2] at h; rcases HE.out with h0 | h0 <;> (rw [h0] at h ⊢; simpa using h))
      have HG1 := HG
      obtain ⟨M1,m1,m2,m3,m4,m5⟩ : Half w b c P (U1 ++ V1) (U2 ++ V2 ++ R) wr := half_skip HSS.out.1 HSS.out.2.2.1 HE1.out HA1.out HG1.out
      have HM1 := hid (And.intro m1 (And.intro m2 m3))
      have HA2 := hid m4
      have HG2 := hid m5
      rw [List.length_append] at m3
      have hm3 := hid m3
      clear m1 m2 m3 m4 m5
      obtain ⟨M2,m1,m2,m3,m4,m5⟩ : Half w b c (P ++ M1) (U2 ++ V2) R _ := half_skip HSS.out.2.1 HSS.out.2.2.2 HE2.out (by simpa using HA2.out) HG2.out
      have HM2 := hid (And.intro m1 (And.intro m2 (And.intro m3 (And.intro m4 m5))))
      clear m1 m2 m3 m4 m5
      go_wp2
      go_end0
      obtain ⟨m1,m2,m3,m4,m5⟩ := HM2.out
      exact ⟨rfl,m5,M1 ++ M2,(HM.out M1 M2 HM1.out.1 m1 HM1.out.2.1 m2).1,(HM.out M1 M2 HM1.out.1 m1 HM1.out.2.1 m2).2,(by have := hm3.out; have := HQ.out; have := HF.out; rw [List.length_append] at m3 ⊢; omega),by simpa using m4⟩
end Idx
namespace Idx
open Go.RowKit Base IdxMath
open Go.Sort (grow)
theorem merge_all (b c N : Nat) (hsz : N <= 1099511627776) : ∀ s,MergeAll b c N s := by
 intro s
 induction s with
 | zero => exact fun P U V R a m e w hlt => by omega
 | succ s ih =>
   intro P U V R a m e w hlt h hN hP hU hV hu hv hs ht
   by_cases h1 : U.length = 1
   ·match U,h1 with
    | [u],_ => exact merge_one b c N P V R u a m e w h hN hP (by simpa using hU) hV ht (by omega)
   ·by_cases h2 : V.length = 1
    ·match V,h2 with
     | [v],_ => exact merge_last b c N P U R v a m e w h hN hP hU (by simpa using hV) h1 hs (by omega)
    ·exact merge_step b c N P U V R a m e w (fun P' U' V' R' a' m' e' w' hlt' => ih P' U' V' R' a' m' e' w' (by omega)) h hN hP hU hV (by omega) (by omega) hs ht hsz
inductive Runs (bs : Nat) : List Rw -> Prop
 | last (l : List Rw) : l.length <= bs -> Srt l -> Runs bs l
 | cons (A B : List Rw) : A.length = bs -> Srt A -> Runs bs B -> Runs bs (A ++ B)
def Full (bs : Nat) (P : List Rw) : Prop := ∀ Q,Runs bs Q -> Runs bs (P ++ Q)
theorem Full.nil (bs : Nat) : Full bs [] := fun _ h => h
theorem Full.snoc {bs : Nat} {P A : List Rw} (h : Full bs P) (h1 : A.length = bs) (h2 : Srt A) : Full bs (P ++ A) := fun Q hQ => by
 rw [List.append_assoc]
 exact h _ (.cons A Q h1 h2 hQ)
theorem Runs.one {bs : Nat} {Q : List Rw} (h : Runs bs Q) (hl : Q.length <= bs) : Srt Q := by
 cases h with
 | last _ _ h => exact h
 | cons A B h1 h2 h3 =>
   rw [List.length_append] at hl
   have : B = [] := List.eq_nil_of_length_eq_zero (by omega)
   subst this
   simpa using h2
theorem Runs.front {bs : Nat} {Q : List Rw} (h : Runs bs Q) (hl : bs <= Q.length) : ∃ A B,Q = A ++ B /\ A.length = bs /\ Srt A /\ Runs bs B := by
 cases h with
 | last _ h1 h2 => exact ⟨Q,[],by simp,by omega,h2,.last [] (Nat.zero_le _) Srt.nil⟩
 | cons A B h1 h2 h3 => exact ⟨A,B,rfl,h1,h2,h3⟩
def BlockRel (w : World) (b c : Nat) (l : List Rw) (va vb : Value) (wr : World) : Prop :=
 ∃ (a : Nat) (P Q : List Rw),va = .int .i64 a /\ vb = .int .i64 ((a + 20 : Nat) : Int) /\ P.length = a /\ Full 20 P /\ St l (P ++ Q) /\ (P ++ Q).length = l.length /\ Arr wr b c (P ++ Q) /\ w.grownBy wr (some b)
def RunRel (w : World) (b c : Nat) (l : List Rw) (v : Value) (wr : World) : Prop :=
 ∃ (bs : Nat) (L : List Rw),v = .int .i64 bs /\ 20 <= bs /\ bs <= 2199023255552 /\ Runs bs L /\ St l L /\ L.length = l.length /\ Arr wr b c L /\ w.grownBy wr (some b)
def PairRel (w : World) (b c bs : Nat) (l : List Rw) (va vb : Value) (wr : World) : Prop :=
 ∃ (a : Nat) (P Q : List Rw),va = .int .i64 a /\ vb = .int .i64 ((a : Int) + 2 * (bs : Int)) /\ P.length = a /\ Full (2 * bs) P /\ Runs bs Q /\ St l (P ++ Q) /\ (P ++ Q).length = l.length /\ Arr wr b c (P ++ Q) /\ w.grownBy wr (some b)
theorem grown_on {w w1 w2 : World} {b : Nat} (h : w.grownBy w1 (some b)) (k : w1.grownBy w2 (some b)) : w.grownBy w2 (some b) := only_trans h k (.inl rfl)
theorem stableCmp_any (b c : Nat) (l : List Rw) (n : Nat) (w : World) (h : Arr w b c l) (hn : n = l.length) (hsz : n <= 1099511627776) :
 Calls Tryz.prog 207 #[.slice (some ⟨b,0,none⟩) n c,.int .i64 n,.func (.func 153) #[] #[]] w fun e w' => e = .returned (.tuple #[]) /\ w.grownBy w' (some b) /\ ∃ l',Srt l' /\ St l l' /\ l'.length = l.length /\ Arr w' b c l' := by
 have HA := hid h
 have HN := hid hn
 have HMA := hid (merge_all b c n hsz)
 clear h hn
 go_enter Tryz.func207,Tryz.ntmps207
 go_wp2
 go_loopw [7,8] (fun x y wr => BlockRel w b c l x y wr) (fun x _ _ => n - (RowKit.intOf x).toNat)
 case atStart => exact ⟨0,[],l,rfl,rfl,rfl,Full.nil _,St.refl _,rfl,HA.out,World.grownBy.refl _ _⟩
 case round =>
  obtain ⟨a,P,Q,rfl,rfl,hP,hF,hst,hlen,harr,hg⟩ := hrel
  have HG := hid hg
  have HST := hid hst
  have HF := hid hF
  have HAR := hid harr
  have HP := hid (show P.length = a /\ a + Q.length = n from ⟨hP,by rw [HN.out,<- hlen,List.length_append]; omega⟩)
  have l1 : a <= n := by have := HP.out; omega
  clear hP hF hst hlen harr hg
  by_cases hlt : a + 20 <= n
  ·have y1 : ((a + 20 : Nat) : Int) <= (n : Int) := by omega
   have hQ := List.take_append_drop 20 Q
   have hq1 : (Q.take 20).length = 20 := by rw [List.length_take]; have := HP.out; omega
   have hq2 : (Q.drop 20).length + 20 = Q.length := by rw [List.length_drop]; have := HP.out; omega
   generalize Q.take 20 = U at *
   generalize Q.drop 20 = R at *
   have HQ := hid (And.intro hQ (And.intro hq1 hq2))
   clear hQ hq1 hq2
   go_wp2_with fail
   refine (insertion_any b c n P U R a (a + 20) _ (by have := HAR.out; rw [<- HQ.out.1] at this; simpa using this) (by have := HP.out; have := HQ.out; rw [List.length_append,List.length_append]; omega) HP.out.1 (by have := HQ.out; omega) (by omega)).mono ?_
   rintro e w1 ⟨rfl,hg1,U',h1,h2,h3,h4⟩
   have HG1 := hid (grown_on HG.out hg1)
   have HU := hid (And.intro h1 (And.intro h2 (And.intro h3 h4)))
   clear hg1 h1 h2 h3 h4
   go_wp2
   go_roundw
   case rel =>
    obtain ⟨h1,h2,h3,h4⟩ := HU.out
    have := HQ.out
    have := HP.out
    refine ⟨a + 20,P ++ U',R,by go_num,by go_num,by rw [List.length_append]; omega,HF.out.snoc (by omega) h1,?_,by rw [List.length_append,List.length_append]; have := HN.out; omega,h4,HG1.out⟩
    have h5 := ((St.refl P).app h2).app (St.refl R)
    refine HST.out.trans ?_
    rw [<- HQ.out.1,<- List.append_assoc]
    exact h5
   case measure => simp [RowKit.intOf]; omega
  ·have y1 : decide ((a : Int) + 20 <= (n : Int)) = false := decide_eq_false (by omega)
   go_wp2_with fail
   refine (insertion_any b c n P Q [] a n _ (by simpa using HAR.out) (by have := HP.out; simp; omega) HP.out.1 (by have := HP.out; omega) (by omega)).mono ?_
   rintro e w1 ⟨rfl,hg1,U',h1,h2,h3,h4⟩
   have HG1 := hid (grown_on HG.out hg1)
   have S1 : Hid (RunRel w b c l (.int .i64 20) w1) := ⟨20,P ++ U',rfl,by omega,by omega,HF.out _ (.last U' (by have := HP.out; omega) h1),HST.out.trans ((St.refl P).app h2),by have := HP.out; have := HN.out; rw [List.length_append]; omega,by simpa using h4,HG1.out⟩
   clear hg1 h1 h2 h3 h4 HG1 HG HST HF HAR HP l1 y1 hlt
   go_wp2
   go_loopw [6] (fun v wr => RunRel w b c l v wr) (fun v _ => n - (RowKit.intOf v).toNat)
   case atStart => exact S1.out
   case round =>
    obtain ⟨bs,L,rfl,h20,hbs,hR,hst,hlen,harr,hg⟩ := hrel
    by_cases hlt : bs < n
    ·have y1 : (bs : Int) < (n : Int) := by omega
     have S2 : Hid (PairRel w b c bs l (.int .i64 0) (.int .i64 (2 * (bs : Int))) wr) := ⟨0,[],L,rfl,by simp,rfl,Full.nil _,hR,hst,hlen,harr,hg⟩
     clear hR hst hlen harr hg
     go_wp2
     go_loopw [7,8] (fun x y wr => PairRel w b c bs l x y wr) (fun x _ _ => n - (RowKit.intOf x).toNat)
     case atStart => exact S2.out
     case round =>
      obtain ⟨a,P,Q,rfl,rfl,hP,hF,hR,hst,hlen,harr,hg⟩ := hrel
      have HG := hid hg
      have HST := hid hst
      have HF := hid hF
      have HR := hid hR
      have HAR := hid harr
      have HP := hid (show P.length = a /\ a + Q.length = n from ⟨hP,by rw [HN.out,<- hlen,List.length_append]; omega⟩)
      have l1 : a <= n := by have := HP.out; omega
      clear hP hF hR hst hlen harr hg
      have l2 : a + 2 * bs <= 5497558138880 := by omega
      by_cases hlt2 : a + 2 * bs <= n
      ·have y2 : (a : Int) + 2 * (bs : Int) <= (n : Int) := by omega
       obtain ⟨A,Q1,hA1,hA2,hA3,hA4⟩ := HR.out.front (by have := HP.out; omega)
       obtain ⟨B,Q2,hB1,hB2,hB3,hB4⟩ := hA4.front (by have := HP.out; rw [hA1,List.length_append] at this; omega)
       subst hB1
       subst hA1
       have HQ := hid (And.intro (And.intro hA2 hA3) (And.intro hB2 (And.intro hB3 hB4)))
       clear hA2 hA3 hA4 hB2 hB3 hB4
       go_wp2_with fail
       refine (HMA.out _ P A B Q2 a (a + bs) (a + 2 * bs) _ (Nat.lt_succ_self _) (by have := HAR.out; simpa using this) (by have := HP.out; simp at this ⊢; omega) HP.out.1 (by have := HQ.out; omega) (by have := HQ.out; omega) (by have := HQ.out; omega) (by have := HQ.out; omega) HQ.out.1.2 HQ.out.2.2.1).mono ?_
       rintro e w2 ⟨rfl,hg2,M,h1,h2,h3,h4⟩
       have HG2 := hid (grown_on HG.out hg2)
       have HM := hid (And.intro h1 (And.intro h2 (And.intro h3 h4)))
       clear hg2 h1 h2 h3 h4
       go_wp2
       go_roundw
       case rel =>
        obtain ⟨h1,h2,h3,h4⟩ := HM.out
        have hq := HQ.out
        have hp := HP.out
        simp at hp
        refine ⟨a + 2 * bs,P ++ M,Q2,by go_num,(by first | rfl | (congr 1; omega) | (congr 1 <;> simp <;> omega)),by rw [List.length_append]; omega,HF.out.snoc (by omega) h1,hq.2.2.2,?_,by rw [List.length_append,List.length_append]; have := HN.out; omega,h4,HG2.out⟩
        have h5 := ((St.refl P).app h2).app (St.refl Q2)
        refine HST.out.trans ?_
        have e5 : P ++ (A ++ (B ++ Q2)) = P ++ (A ++ B) ++ Q2 := by simp only [List.append_assoc]
        rw [e5]
        exact h5
       case measure => simp [RowKit.intOf]; omega
      ·have y2 : ¬ (a : Int) + 2 * (bs : Int) <= (n : Int) := by omega
       by_cases hlt3 : a + bs < n
       ·have y3 : (a : Int) + (bs : Int) < (n : Int) := by omega
        obtain ⟨A,B,hA1,hA2,hA3,hA4⟩ := HR.out.front (by have := HP.out; omega)
        subst hA1
        have hB := hA4.one (by have := HP.out; rw [List.length_append] at this; omega)
        have HQ := hid (And.intro (And.intro hA2 hA3) hB)
        clear hA2 hA3 hA4 hB
        go_wp2_with fail
        refine (HMA.out _ P A B [] a (a + bs) n _ (Nat.lt_succ_self _) (by have := HAR.out; simpa using this) (by have := HP.out; simp at this ⊢; omega) HP.out.1 (by have := HQ.out; omega) (by have := HQ.out; have := HP.out; rw [List.length_append] at this; omega) (by have := HQ.out; omega) (by have := HQ.out; have := HP.out; rw [List.length_append] at this; omega) HQ.out.1.2 HQ.out.2).mono ?_
        rintro e w2 ⟨rfl,hg2,M,h1,h2,h3,h4⟩
        have HG2 := hid (grown_on HG.out hg2)
        have HM := hid (And.intro h1 (And.intro h2 (And.intro h3 h4)))
        clear hg2 h1 h2 h3 h4
        go_wp2
        go_roundw
        case rel =>
         obtain ⟨h1,h2,h3,h4⟩ := HM.out
         have hq := HQ.out
         have hp := HP.out
         simp at hp
         exact ⟨2 * bs,P ++ M,(by first | rfl | (congr 1; omega) | (congr 1 <;> simp <;> omega)),by omega,by omega,HF.out _ (.last M (by omega) h1),HST.out.trans ((St.refl P).app h2),by rw [List.length_append]; have := HN.out; omega,by simpa using h4,HG2.out⟩
        case measure => simp [RowKit.intOf]; omega
       ·have y3 : ¬ (a : Int) + (bs : Int) < (n : Int) := by omega
        go_wp2
        go_roundw
        case rel =>
         have hp := HP.out
         exact ⟨2 * bs,P ++ Q,(by first | rfl | (congr 1; omega) | (congr 1 <;> simp <;> omega)),by omega,by omega,HF.out _ (.last Q (by omega) (HR.out.one (by omega))),HST.out,by rw [List.length_append]; have := HN.out; omega,HAR.out,HG.out⟩
        case measure => simp [RowKit.intOf]; omega
    ·go_wp2
     go_end0
     exact ⟨rfl,hg,L,hR.one (by rw [hlen,<- HN.out]; omega),hst,hlen,harr⟩
theorem stable_any (b c : Nat) (l : List Rw) (n : Nat) (w : World) (h : Arr w b c l) (hn : n = l.length) (hsz : n <= 1099511627776) :
 Calls Tryz.prog 152 #[.slice (some ⟨b,0,none⟩) n c,.func (.func 153) #[] #[]] w fun e w' => e = .returned (.tuple #[]) /\ w.grownBy w' (some b) /\ ∃ l',Srt l' /\ St l l' /\ l'.length = l.length /\ Arr w' b c l' := by
 have HC := hid (stableCmp_any b c l n w h hn hsz)
 clear h hn
 go_enter Tryz.func152,Tryz.ntmps152
 go_wp2_with fail
 refine HC.out.mono ?_
 rintro e w1 ⟨rfl,h1,h2⟩
 have H1 := hid (And.intro h1 h2)
 clear h1 h2
 go_wp2
 go_end0
 exact ⟨rfl,H1.out.1,H1.out.2⟩
end Idx
end Go.Proofs.YtefnmnpfecfdaaaGreat
