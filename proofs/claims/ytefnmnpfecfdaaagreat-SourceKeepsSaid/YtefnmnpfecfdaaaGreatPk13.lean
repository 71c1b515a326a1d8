/-
  Texts of one proof: IdxMerge2.
-/
import Derived.Test.YtefnmnpfecfdaaaGreatPk12
import Derived.Deep.DeepCutAuto
set_option linter.all false
set_option maxRecDepth 100000
set_option maxHeartbeats 12800000
open Go.Lib (hid)
namespace Go.Proofs.YtefnmnpfecfdaaaGreat
namespace Idx
open Go.RowKit Base IdxMath
open Go.Sort (grow)
def SplitRel (w : World) (b c : Nat) (L U V : List Rw) (a m n lo hi : Nat) (vs vr : Value) (wr : World) : Prop :=
 ∃ s r : Nat,vs = .int .i64 s /\ vr = .int .i64 r /\ lo <= s /\ s <= r /\ r <= hi /\
   (s = lo \/ ∃ x y,U[s - 1 - a]? = some x /\ V[n - s - m]? = some y /\ x.key <= y.key /\ a < s) /\
   (r = hi \/ ∃ x y,U[r - a]? = some x /\ V[n - 1 - r - m]? = some y /\ y.key < x.key /\ r + m < n) /\ Arr wr b c L /\ w.grownBy wr (some b)
theorem split_apart {U V : List Rw} {a m n e lo hi mid s : Nat} (hs : Srt U) (ht : Srt V) (hU : a + U.length = m) (hV : m + V.length = e) (hn : n = mid + m) (hmid : mid = (a + e) / 2) (hlo : (mid < m /\ lo = n - e /\ hi = mid) \/ (m <= mid /\ lo = a /\ hi = m))
 (h1 : lo <= s) (h2 : s <= hi) (h3 : s = lo \/ ∃ x y,U[s - 1 - a]? = some x /\ V[n - s - m]? = some y /\ x.key <= y.key /\ a < s) (h4 : s = hi \/ ∃ x y,U[s - a]? = some x /\ V[n - 1 - s - m]? = some y /\ y.key < x.key /\ s + m < n) :
 (∀ x ∈ U.take (s - a),∀ y ∈ V.drop (n - s - m),x.key <= y.key) /\ ∀ x ∈ U.drop (s - a),∀ y ∈ V.take (n - s - m),y.key < x.key := by
 constructor
 ·intro x hx y hy
  rcases h3 with h3 | ⟨x',y',hx',hy',hk,has⟩
  ·rcases hlo with ⟨q1,q2,q3⟩ | ⟨q1,q2,q3⟩
   ·rw [List.drop_of_length_le (by omega)] at hy
    cases hy
   ·rw [show s - a = 0 by omega] at hx
    cases hx
  ·have e1 := take_last hs hx' x (by rw [show s - 1 - a + 1 = s - a by omega]; exact hx)
   have e2 := drop_first ht hy' y hy
   omega
 ·intro x hx y hy
  rcases h4 with h4 | ⟨x',y',hx',hy',hk,has⟩
  ·rcases hlo with ⟨q1,q2,q3⟩ | ⟨q1,q2,q3⟩
   ·rw [show n - s - m = 0 by omega] at hy
    cases hy
   ·rw [List.drop_of_length_le (by omega)] at hx
    cases hx
  ·have e1 := take_last ht hy' y (by rw [show n - 1 - s - m + 1 = n - s - m by omega]; exact hy)
   have e2 := drop_first hs hx' x hx
   omega
def MergeAll (b c N s : Nat) : Prop := ∀ (P U V R : List Rw) (a m e : Nat) (w : World),U.length + V.length < s -> Arr w b c (P ++ U ++ V ++ R) -> N = (P ++ U ++ V ++ R).length -> P.length = a -> a + U.length = m -> m + V.length = e -> 0 < U.length -> 0 < V.length -> Srt U -> Srt V ->
    Calls Tryz.prog 247 #[.slice (some ⟨b,0,none⟩) N c,.int .i64 a,.int .i64 m,.int .i64 e,.func (.func 153) #[] #[]] w (Merged w b c P U V R)
def Half (w : World) (b c : Nat) (P A Q : List Rw) (wx : World) : Prop := ∃ M,Srt M /\ St A M /\ M.length = A.length /\ Arr wx b c (P ++ M ++ Q) /\ w.grownBy wx (some b)
theorem half_of {w wx wy : World} {b c : Nat} {P U V Q : List Rw} {e : Ending} (hg : w.grownBy wx (some b)) (h : Merged wx b c P U V Q e wy) : e = .returned (.tuple #[]) /\ Half w b c P (U ++ V) Q wy := by
 obtain ⟨he,hg2,M,h1,h2,h3,h4⟩ := h
 exact ⟨he,M,h1,h2,by rw [h3,List.length_append],h4,only_trans hg hg2 (.inl rfl)⟩
theorem srt_skip {A B : List Rw} (ha : Srt A) (hb : Srt B) (h : A = [] \/ B = []) : Srt (A ++ B) := by
 rcases h with rfl | rfl
 ·simpa using hb
 ·simpa using ha
theorem half_skip {w wx : World} {b c : Nat} {P A B Q : List Rw} (ha : Srt A) (hb : Srt B) (h : A = [] \/ B = []) (harr : Arr wx b c (P ++ A ++ B ++ Q)) (hg : w.grownBy wx (some b)) : Half w b c P (A ++ B) Q wx :=
 ⟨A ++ B,srt_skip ha hb h,St.refl _,rfl,by simpa using harr,hg⟩
theorem merge_step (b c N : Nat) (P U V R : List Rw) (a m e : Nat) (w : World) (ih : MergeAll b c N (U.length + V.length)) (h : Arr w b c (P ++ U ++ V ++ R)) (hN : N = (P ++ U ++ V ++ R).length) (hP : P.length = a) (hU : a + U.length = m) (hV : m + V.length = e) (hu : 2 <= U.length) (hv : 2 <= V.length) (hs : Srt U) (ht : Srt V) (hsz : N <= 1099511627776) :
 Calls Tryz.prog 247 #[.slice (some ⟨b,0,none⟩) N c,.int .i64 a,.int .i64 m,.int .i64 e,.func (.func 153) #[] #[]] w (Merged w b c P U V R) := by
 have hle := h.le
 rw [<- hN] at hle
 have HL : Hid (P.length = a /\ a + U.length = m /\ m + V.length = e /\ 2 <= U.length /\ 2 <= V.length) := ⟨hP,hU,hV,hu,hv⟩
 have e1 : ((m : Int) - (a : Int) == 1) = false := by rw [beq_eq_false_iff_ne]; omega
 have e2 : ((e : Int) - (m : Int) == 1) = false := by rw [beq_eq_false_iff_ne]; omega
 have l0 : e <= N := by rw [hN]; simp; omega
 have l1 : m < e := by omega
 have l2 : a < m := by omega
 have HA := hid h
 have HN := hid hN
 have HS := hid (And.intro hs ht)
 have HIH := hid ih
 have HU : Hid (∀ (k : Nat) x,a <= k -> U[k - a]? = some x -> (P ++ U ++ V ++ R)[k]? = some x) := fun k x hk hx => by
  have hl : k - a < U.length := (List.getElem?_eq_some_iff.1 hx).1
  rw [List.append_assoc,List.append_assoc,List.getElem?_append_right (by omega),List.getElem?_append_left (by omega),<- hx]
  congr 1
  omega
 have HV : Hid (∀ (k : Nat) x,m <= k -> V[k - m]? = some x -> (P ++ U ++ V ++ R)[k]? = some x) := fun k x hk hx => by
  have hl : k - m < V.length := (List.getElem?_eq_some_iff.1 hx).1
  rw [List.append_assoc,List.getElem?_append_right (by simp; omega),List.getElem?_append_left (by simp; omega),<- hx]
  congr 1
  simp; omega
 obtain ⟨mid,hmid⟩ : ∃ mid,mid = (a + e) / 2 := ⟨_,rfl⟩
 obtain ⟨n,hn⟩ : ∃ n,n = mid + m := ⟨_,rfl⟩
 obtain ⟨lo,hi,hlo⟩ : ∃ lo hi : Nat,(mid < m /\ lo = n - e /\ hi = mid) \/ (m <= mid /\ lo = a /\ hi = m) := by
  rcases Nat.lt_or_ge mid m with h | h
  ·exact ⟨_,_,.inl ⟨h,rfl,rfl⟩⟩
  ·exact ⟨_,_,.inr ⟨h,rfl,rfl⟩⟩
 have e3 : ((a : Int) + (e : Int)) / 2 = (mid : Int) := by omega
 have e4 : (mid : Int) + (m : Int) = (n : Int) := by omega
 have HLO : Hid ((mid < m /\ lo = n - e /\ hi = mid) \/ (m <= mid /\ lo = a /\ hi = m)) := hlo
 have HMN := hid (show n = mid + m /\ mid = (a + e) / 2 /\ a <= lo /\ n <= lo + e /\ hi <= m /\ hi <= mid /\ lo <= hi /\ a < mid /\ mid < e from ⟨hn,hmid,by omega⟩)
 have l3 : n <= 2 * N := by omega
 have l4 : mid <= N := by omega
 have l5 : 1 <= n := by omega
 clear h hN hP hU hV hs ht ih hu hv hlo hn hmid
 go_enter Tryz.func247,Tryz.ntmps247
 go_upto_if 140 with fail
 go_cut [20,21] (fun x y wx => x = .int .i64 lo /\ y = .int .i64 hi /\ w = wx)
 case first =>
  rcases HLO.out with ⟨q1,q2,q3⟩ | ⟨q1,q2,q3⟩
  ·have q4 : (mid : Int) < (m : Int) := by omega
   have q5 : (n : Int) - (e : Int) = (lo : Int) := by have := HMN.out; omega
   subst q3
   clear q2
   go_wp2_with fail
   go_meet
   exact ⟨rfl,rfl,rfl⟩
  ·have q4 : ¬ (mid : Int) < (m : Int) := by omega
   subst q2 q3
   go_wp2_with fail
   go_meet
   exact ⟨rfl,rfl,rfl⟩
 case rest =>
  obtain ⟨rfl,rfl,rfl⟩ := hcut
  obtain ⟨p,hp⟩ : ∃ p,n = p + 1 := ⟨n - 1,by omega⟩
  have e5 : (n : Int) - 1 = (p : Int) := by omega
  have HP := hid hp
  clear hp
  go_wp2
  go_loopw [20,21] (fun x y wr => SplitRel w b c (P ++ U ++ V ++ R) U V a m n lo hi x y wr) (fun i j _ => diff2 i j)
  case atStart => exact ⟨lo,hi,rfl,rfl,Nat.le_refl _,by have := HMN.out; omega,Nat.le_refl _,.inl rfl,.inl rfl,HA.out,World.grownBy.refl _ _⟩
  case round =>
   obtain ⟨s,r,rfl,rfl,hls,hsr,hrh,h3,h4,harr,hg⟩ := hrel
   have HG := hid hg
   have H3 := hid h3
   have H4 := hid h4
   clear hg h3 h4
   by_cases hlt : s < r
   ·have q3 : (s : Int) < (r : Int) := by omega
    obtain ⟨k,hk⟩ : ∃ k,k = (s + r) / 2 := ⟨_,rfl⟩
    have q4 : ((s : Int) + (r : Int)) / 2 = (k : Int) := by omega
    have hkb : s <= k /\ k < r := by omega
    obtain ⟨q,hq⟩ : ∃ q,q = p - k := ⟨_,rfl⟩
    have q5 : (p : Int) - (k : Int) = (q : Int) := by have := HMN.out; have := HP.out; omega
    have hqb : q = n - 1 - k /\ m <= q /\ q < e /\ a <= k /\ k < m := by have := HMN.out; have := HP.out; omega
    have hul : k - a < U.length := by have := HL.out; omega
    have hvl : q - m < V.length := by have := HL.out; omega
    obtain ⟨x,hx⟩ : ∃ x,U[k - a]? = some x := ⟨_,List.getElem?_eq_getElem hul⟩
    obtain ⟨y,hy⟩ : ∃ y,V[q - m]? = some y := ⟨_,List.getElem?_eq_getElem hvl⟩
    obtain ⟨c1,c2⟩ := harr.got (HU.out k x (by omega) hx)
    obtain ⟨c3,c4⟩ := harr.got (HV.out q y (by omega) hy)
    have hc := cmp_grown y x wr
    have HX := hid (And.intro hx hy)
    have HAR := hid harr
    have q6 : (k : Int) < (N : Int) := by omega
    have q7 : (q : Int) < (N : Int) := by omega
    have q8 : k + 1 <= N := by omega
    have q9 : IntKind.i64.wrap (q : Int) = (q : Int) := by rw [IntKind.wrap_i64]; omega
    have HK := hid hk
    have HKB := hid (And.intro hkb hqb)
    have mixed : Tryz.prog.follows .mixedOrders = true := by kernel_rfl
    clear hx hy harr hul hvl hk hkb hq hqb
    by_cases hxu : y.key < x.key
    ·rw [cmpK_neg hxu] at hc
     have hn : ((-1 : Int) < 0) := by omega
     go_wp2_with fail
     go_quiet_grown (first | (go_at_call 153; exact hc _ _))
     go_wp2
     go_roundw
     case rel =>
      obtain ⟨⟨t1,t2⟩,t3,t4,t5,t6,t7⟩ := HKB.out
      have := HMN.out
      refine ⟨s,k,rfl,rfl,hls,t1,by omega,H3.out,.inr ⟨x,y,HX.out.1,?_,hxu,by omega⟩,HAR.out.grown _ _,only_grow HG.out _ _⟩
      rw [show n - 1 - k - m = q - m by omega]
      exact HX.out.2
     case measure =>
      have := HKB.out
      simp [RowKit.intOf,diff2]; omega
    ·have hk2 : decide (cmpK y.key x.key < 0) = false := decide_eq_false fun h => hxu (cmpK_lt.1 h)
     go_wp2_with fail
     go_quiet_grown (first | (go_at_call 153; exact hc _ _))
     go_wp2
     go_roundw
     case rel =>
      obtain ⟨⟨t1,t2⟩,t3,t4,t5,t6,t7⟩ := HKB.out
      have := HMN.out
      refine ⟨k + 1,r,by go_num,rfl,by omega,by omega,hrh,.inr ⟨x,y,?_,?_,by omega,by omega⟩,H4.out,HAR.out.grown _ _,only_grow HG.out _ _⟩
      ·rw [show k + 1 - 1 - a = k - a by omega]
       exact HX.out.1
      ·rw [show n - (k + 1) - m = q - m by omega]
       exact HX.out.2
     case measure =>
      have := HKB.out
      simp [RowKit.intOf,diff2]; omega
   ·obtain rfl : s = r := by omega
    have hap := split_apart HS.out.1 HS.out.2 HL.out.2.1 HL.out.2.2.1 HMN.out.1 HMN.out.2.1 HLO.out hls hrh H3.out H4.out
    have HM := hid (fun M1 M2 => merge_parts (M1 := M1) (M2 := M2) HS.out.1 HS.out.2 hap.1 hap.2)
    obtain ⟨en,hen⟩ : ∃ en,en = n - s := ⟨_,rfl⟩
    have hb := HMN.out
    have hb2 := HL.out
    have hen2 : n - s - m = en - m := by omega
    rw [hen2] at HM
    have q3 : (n : Int) - (s : Int) = (en : Int) := by omega
    have htu := List.take_append_drop (s - a) U
    have htv := List.take_append_drop (en - m) V
    have lu1 : (U.take (s - a)).length = s - a := by rw [List.length_take]; omega
    have lu2 : (U.drop (s - a)).length = m - s := by rw [List.length_drop]; omega
    have lv1 : (V.take (en - m)).length = en - m := by rw [List.length_take]; omega
    have lv2 : (V.drop (en - m)).length = e - en := by rw [List.length_drop]; omega
    have su1 := srt_take HS.out.1 (s - a)
    have su2 := srt_drop HS.out.1 (s - a)
    have sv1 := srt_take HS.out.2 (en - m)
    have sv2 := srt_drop HS.out.2 (en - m)
    generalize U.take (s - a) = U1 at *
    generalize U.drop (s - a) = U2 at *
    generalize V.take (en - m) = V1 at *
    generalize V.drop (en - m) = V2 at *
    have HF := hid (show a <= s /\ s <= m /\ m <= en /\ en <= e /\ s + en = mid + m /\ a < mid /\ mid < e by omega)
    have HQ := hid (show (U1.length = s - a /\ U2.length = m - s /\ V1.length = en - m /\ V2.length = e - en) /\ P.length = a /\ U.length + V.length = e - a from ⟨⟨lu1,lu2,lv1,lv2⟩,hb2.1,by omega⟩)
    have HSS := hid (show Srt U1 /\ Srt U2 /\ Srt V1 /\ Srt V2 from ⟨su1,su2,sv1,sv2⟩)
    have HUV := hid (And.intro htu htv)
    have HAR := hid harr
    clear hap hb hb2 hen hen2 lu1 lu2 lv1 lv2 su1 su2 sv1 sv2 htu htv harr hls hrh hsr hlt
    have q4 : s <= N := by have := HF.out; omega
    have q5 : en <= N := by have := HF.out; omega
    by_cases z1 : s < m
    ·by_cases z2 : m < en
     ·have y1 : (s : Int) < (m : Int) := by omega
      have y2 : (m : Int) < (en : Int) := by omega
      have y3 : (s : Int) < (mid : Int) := by have := HF.out; omega
      have y4 : (mid : Int) < (en : Int) := by have := HF.out; omega
      by_cases z3 : a < s
      ·have y5 : (a : Int) < (s : Int) := by omega
       by_cases z4 : en < e
       ·have y6 : (en : Int) < (e : Int) := by omega
        have HB := hid (show True from trivial)
        go_wp2_with fail
        refine (rotate_any b c N (P ++ U1) U2 V1 (V2 ++ R) s m en _ (by rw [<- HUV.out.1,<- HUV.out.2] at HAR; simpa using HAR.out) (by rw [HN.out,<- HUV.out.1,<- HUV.out.2]; simp) (by rw [List.length_append]; have := HQ.out; have := HF.out; omega) (by have := HQ.out; have := HF.out; omega) (by have := HQ.out; have := HF.out; omega) (by have := HQ.out; have := HF.out; omega) (by have := HQ.out; have := HF.out; omega)).mono ?_
        rintro e w1 ⟨rfl,ha1,hg1⟩
        have HA1 : Hid (Arr w1 b c (P ++ U1 ++ V1 ++ (U2 ++ V2 ++ R))) := hid (by simpa using ha1)
        have HG1 := hid (only_trans HG.out hg1 (.inl rfl))
        clear ha1 hg1
        go_wp2_with fail
        refine (HIH.out P U1 V1 (U2 ++ V2 ++ R) a s mid _ (by have := HQ.out; have := HF.out; omega) HA1.out (by rw [HN.out,<- HUV.out.1,<- HUV.out.2]; simp; omega) HQ.out.2.1 (by have := HQ.out; have := HF.out; omega) (by have := HQ.out; have := HF.out; omega) (by have := HQ.out; have := HF.out; omega) (by have := HQ.out; have := HF.out; omega) HSS.out.1 HSS.out.2.2.1).mono ?_
        intro e w2 hm2
        obtain ⟨he2,M1,m1,m2,m3,m4,m5⟩ := half_of HG1.out hm2
        subst he2
        clear hm2
        have HM1 := hid (And.intro m1 (And.intro m2 m3))
        have HA2 := hid m4
        have HG2 := hid m5
        rw [List.length_append] at m3
        have hm3 := hid m3
        clear m1 m2 m3 m4 m5
        go_wp2_with fail
        refine (HIH.out (P ++ M1) U2 V2 R mid en e _ (by have := HQ.out; have := HF.out; omega) (by simpa using HA2.out) (by rw [HN.out,<- HUV.out.1,<- HUV.out.2]; have := hm3.out; simp; omega) (by rw [List.length_append]; have := hm3.out; have := HQ.out; have := HF.out; omega) (by have := HQ.out; have := HF.out; omega) (by have := HQ.out; have := HF.out; omega) (by have := HQ.out; have := HF.out; omega) (by have := HQ.out; have := HF.out; omega) HSS.out.2.1 HSS.out.2.2.2).mono ?_
        intro e w3 hm4
        obtain ⟨he3,M2,m1,m2,m3,m4,m5⟩ := half_of HG2.out hm4
        subst he3
        clear hm4
        have HM2 := hid (And.intro m1 (And.intro m2 (And.intro m3 (And.intro m4 m5))))
        clear m1 m2 m3 m4 m5
        go_wp2
        go_end0
        obtain ⟨m1,m2,m3,m4,m5⟩ := HM2.out
        exact ⟨rfl,m5,M1 ++ M2,(HM.out M1 M2 HM1.out.1 m1 HM1.out.2.1 m2).1,(HM.out M1 M2 HM1.out.1 m1 HM1.out.2.1 m2).2,(by have := hm3.out; have := HQ.out; have := HF.out; rw [List.length_append] at m3 ⊢; omega),by simpa using m4⟩
       ·have y6 : ¬ (en : Int) < (e : Int) := by omega
        have HE2 : Hid (U2 = [] \/ V2 = []) := .inr (List.eq_nil_of_length_eq_zero (by have := HQ.out; have := HF.out; omega))
        have HB := hid (show True from trivial)
        go_wp2_with fail
        refine (rotate_any b c N (P ++ U1) U2 V1 (V2 ++ R) s m en _ (by rw [<- HUV.out.1,<- HUV.out.2] at HAR; simpa using HAR.out) (by rw [HN.out,<- HUV.out.1,<- HUV.out.2]; simp) (by rw [List.length_append]; have := HQ.out; have := HF.out; omega) (by have := HQ.out; have := HF.out; omega) (by have := HQ.out; have := HF.out; omega) (by have := HQ.out; have := HF.out; omega) (by have := HQ.out; have := HF.out; omega)).mono ?_
        rintro e w1 ⟨rfl,ha1,hg1⟩
        have HA1 : Hid (Arr w1 b c (P ++ U1 ++ V1 ++ (U2 ++ V2 ++ R))) := hid (by simpa using ha1)
        have HG1 := hid (only_trans HG.out hg1 (.inl rfl))
        clear ha1 hg1
        go_wp2_with fail
        refine (HIH.out P U1 V1 (U2 ++ V2 ++ R) a s mid _ (by have := HQ.out; have := HF.out; omega) HA1.out (by rw [HN.out,<- HUV.out.1,<- HUV.out.2]; simp; omega) HQ.out.2.1 (by have := HQ.out; have := HF.out; omega) (by have := HQ.out; have := HF.out; omega) (by have := HQ.out; have := HF.out; omega) (by have := HQ.out; have := HF.out; omega) HSS.out.1 HSS.out.2.2.1).mono ?_
        intro e w2 hm2
        obtain ⟨he2,M1,m1,m2,m3,m4,m5⟩ := half_of HG1.out hm2
        subst he2
        clear hm2
        have HM1 := hid (And.intro m1 (And.intro m2 m3))
        have HA2 := hid m4
        have HG2 := hid m5
        rw [List.length_append] at m3
        have hm3 := hid m3
        clear m1 m2 m3 m4 m5
        obtain ⟨M2,m1,m2,m3,m4,m5⟩ : Half w b c (P ++ M1) (U2 ++ V2) R _ := half_skip HSS.out.2.1 HSS.out.2.2.2 HE2.out (by simpa using HA2.out) HG2.out
        have HM2 := hid (And.intro m1 (And.intro m2 (And.intro m3 (And.intro m4 m5))))
        clear m1 m2 m3 m4 m5
        go_wp2
        go_end0
        obtain ⟨m1,m2,m3,m4,m5⟩ := HM2.out
        exact ⟨rfl,m5,M1 ++ M2,(HM.out M1 M2 HM1.out.1 m1 HM1.out.2.1 m2).1,(HM.out M1 M2 HM1.out.1 m1 HM1.out.2.1 m2).2,(by have := hm3.out; have := HQ.out; have := HF.out; rw [List.length_append] at m3 ⊢; omega),by simpa using m4⟩
      ·have y5 : ¬ (a : Int) < (s : Int) := by omega
       have HE1 : Hid (U1 = [] \/ V1 = []) := .inl (List.eq_nil_of_length_eq_zero (by have := HQ.out; have := HF.out; omega))
       by_cases z4 : en < e
       ·have y6 : (en : Int) < (e : Int) := by omega
        have HB := hid (show True from trivial)
        go_wp2_with fail
        refine (rotate_any b c N (P ++ U1) U2 V1 (V2 ++ R) s m en _ (by rw [<- HUV.out.1,<- HUV.out.2] at HAR; simpa using HAR.out) (by rw [HN.out,<- HUV.out.1,<- HUV.out.2]; simp) (by rw [List.length_append]; have := HQ.out; have := HF.out; omega) (by have := HQ.out; have := HF.out; omega) (by have := HQ.out; have := HF.out; omega) (by have := HQ.out; have := HF.out; omega) (by have := HQ.out; have := HF.out; omega)).mono ?_
        rintro e w1 ⟨rfl,ha1,hg1⟩
        have HA1 : Hid (Arr w1 b c (P ++ U1 ++ V1 ++ (U2 ++ V2 ++ R))) := hid (by simpa using ha1)
        have HG1 := hid (only_trans HG.out hg1 (.inl rfl))
        clear ha1 hg1
        obtain ⟨M1,m1,m2,m3,m4,m5⟩ : Half w b c P (U1 ++ V1) (U2 ++ V2 ++ R) w1 := half_skip HSS.out.1 HSS.out.2.2.1 HE1.out HA1.out HG1.out
        have HM1 := hid (And.intro m1 (And.intro m2 m3))
        have HA2 := hid m4
        have HG2 := hid m5
        rw [List.length_append] at m3
        have hm3 := hid m3
        clear m1 m2 m3 m4 m5
        go_wp2_with fail
        refine (HIH.out (P ++ M1) U2 V2 R mid en e _ (by have := HQ.out; have := HF.out; omega) (by simpa using HA2.out) (by rw [HN.out,<- HUV.out.1,<- HUV.out.2]; have := hm3.out; simp; omega) (by rw [List.length_append]; have := hm3.out; have := HQ.out; have := HF.out; omega) (by have := HQ.out; have := HF.out; omega) (by have := HQ.out; have := HF.out; omega) (by have := HQ.out; have := HF.out; omega) (by have := HQ.out; have := HF.out; omega) HSS.out.2.1 HSS.out.2.2.2).mono ?_
        intro e w3 hm4
        obtain ⟨he3,M2,m1,m2,m3,m4,m5⟩ := half_of HG2.out hm4
        subst he3
        clear hm4
        have HM2 := hid (And.intro m1 (And.intro m2 (And.intro m3 (And.intro m4 m5))))
        clear m1 m2 m3 m4 m5
        go_wp2
        go_end0
        obtain ⟨m1,m2,m3,m4,m5⟩ := HM2.out
        exact ⟨rfl,m5,M1 ++ M2,(HM.out M1 M2 HM1.out.1 m1 HM1.out.2.1 m2).1,(HM.out M1 M2 HM1.out.1 m1 HM1.out.2.1 m2).2,(by have := hm3.out; have := HQ.out; have := HF.out; rw [List.length_append] at m3 ⊢; omega),by simpa using m4⟩
       ·have y6 : ¬ (en : Int) < (e : Int) := by omega
        have HE2 : Hid (U2 = [] \/ V2 = []) := .inr (List.eq_nil_of_length_eq_zero (by have := HQ.out; have := HF.out; omega))
        have HB := hid (show True from trivial)
        go_wp2_with fail
        refine (rotate_any b c N (P ++ U1) U2 V1 (V2 ++ R) s m en _ (by rw [<- HUV.out.1,<- HUV.out.2] at HAR; simpa using HAR.out) (by rw [HN.out,<- HUV.out.1,<- HUV.out.2]; simp) (by rw [List.length_append]; have := HQ.out; have := HF.out; omega) (by have := HQ.out; have := HF.out; omega) (by have := HQ.out; have := HF.out; omega) (by have := HQ.out; have := HF.out; omega) (by have := HQ.out; have := HF.out; omega)).mono ?_
        rintro e w1 ⟨rfl,ha1,hg1⟩
        have HA1 : Hid (Arr w1 b c (P ++ U1 ++ V1 ++ (U2 ++ V2 ++ R))) := hid (by simpa using ha1)
        have HG1 := hid (only_trans HG.out hg1 (.inl rfl))
        clear ha1 hg1
        obtain ⟨M1,m1,m2,m3,m4,m5⟩ : Half w b c P (U1 ++ V1) (U2 ++ V2 ++ R) w1 := half_skip HSS.out.1 HSS.out.2.2.1 HE1.out HA1.out HG1.out
        have HM1 := hid (And.intro m1 (And.intro m2 m3))
        have HA2 := hid m4
        have HG2 := hid m5
        rw [List.length_append] at m3
        have hm3 := hid m3
        clear m1 m2 m3 m4 m5
        obtain ⟨M2,m1,m2,m3,m4,m5⟩ : Half w b c (P ++ M1) (U2 ++ V2) R _ := half_skip HSS.out.2.1 HSS.out.2.2.2 HE2.out (by simpa using HA2.out) HG2.out
        have HM2 := hid (And.intro m1 (And.intro m2 (And.intro m3 (And.intro m4 m5))))
        clear m1 m2 m3 m4 m5
        go_wp2
        go_end0
        obtain ⟨m1,m2,m3,m4,m5⟩ := HM2.out
        exact ⟨rfl,m5,M1 ++ M2,(HM.out M1 M2 HM1.out.1 m1 HM1.out.2.1 m2).1,(HM.out M1 M2 HM1.out.1 m1 HM1.out.2.1 m2).2,(by have := hm3.out; have := HQ.out; have := HF.out; rw [List.length_append] at m3 ⊢; omega),by simpa using m4⟩
     ·have y1 : (s : Int) < (m : Int) := by omega
      have y2 : ¬ (m : Int) < (en : Int) := by omega
      have y3 : ¬ (s : Int) < (mid : Int) := by have := HF.out; omega
      have y4 : (mid : Int) < (en : Int) := by have := HF.out; omega
      have y6 : (en : Int) < (e : Int) := by have := HF.out; omega
      have y5 : (a : Int) < (s : Int) := by have := HF.out; omega
      have HE : Hid (U2 = [] \/ V1 = []) := .inr (List.eq_nil_of_length_eq_zero (by have := HQ.out; have := HF.out; omega))
      have HE1 : Hid (U1 = [] \/ V1 = []) := .inr (List.eq_nil_of_length_eq_zero (by have := HQ.out; have := HF.out; omega))
      have HB := hid (show True from trivial)
      have HA1 : Hid (Arr wr b c (P ++ U1 ++ V1 ++ (U2 ++ V2 ++ R))) := hid (by have h := HAR.out; rw [<- HUV.out.1,<- HUV.out.2] at h; rcases HE.out with h0 | h0 <;> (rw [h0] at h ⊢; simpa using h))
      have HG1 := HG
      obtain ⟨M1,m1,m2,m3,m4,m5⟩ : Half w b c P (U1 ++ V1) (U2 ++ V2 ++ R) wr := half_skip HSS.out.1 HSS.out.2.2.1 HE1.out HA1.out HG1.out
      have HM1 := hid (And.intro m1 (And.intro m2 m3))
      have HA2 := hid m4
      have HG2 := hid m5
      rw [List.length_append] at m3
      have hm3 := hid m3
      clear m1 m2 m3 m4 m5
      go_wp2_with fail
      refine (HIH.out (P ++ M1) U2 V2 R mid en e _ (by have := HQ.out; have := HF.out; omega) (by simpa using HA2.out) (by rw [HN.out,<- HUV.out.1,<- HUV.out.2]; have := hm3.out; simp; omega) (by rw [List.length_append]; have := hm3.out; have := HQ.out; have := HF.out; omega) (by have := HQ.out; have := HF.out; omega) (by have := HQ.out; have := HF.out; omega) (by have := HQ.out; have := HF.out; omega) (by have := HQ.out; have := HF.out; omega) HSS.out.2.1 HSS.out.2.2.2).mono ?_
      intro e w3 hm4
      obtain ⟨he3,M2,m1,m2,m3,m4,m5⟩ := half_of HG2.out hm4
      subst he3
      clear hm4
      have HM2 := hid (And.intro m1 (And.intro m2 (And.intro m3 (And.intro m4 m5))))
      clear m1 m2 m3 m4 m5
      go_wp2
      go_end0
      obtain ⟨m1,m2,m3,m4,m5⟩ := HM2.out
      exact ⟨rfl,m5,M1 ++ M2,(HM.out M1 M2 HM1.out.1 m1 HM1.out.2.1 m2).1,(HM.out M1 M2 HM1.out.1 m1 HM1.out.2.1 m2).2,(by have := hm3.out; have := HQ.out; have := HF.out; rw [List.length_append] at m3 ⊢; omega),by simpa using m4⟩
    ·have y1 : ¬ (s : Int) < (m : Int) := by omega
     have y4 : ¬ (mid : Int) < (en : Int) := by have := HF.out; omega
     have y5 : (a : Int) < (s : Int) := by have := HF.out; omega
     have HE : Hid (U2 = [] \/ V1 = []) := .inl (List.eq_nil_of_length_eq_zero (by have := HQ.out; have := HF.out; omega))
     have HE2 : Hid (U2 = [] \/ V2 = []) := .inl (List.eq_nil_of_length_eq_zero (by have := HQ.out; have := HF.out; omega))
     by_cases z3 : s < mid
     ·have y3 : (s : Int) < (mid : Int) := by omega
      have HB := hid (show True from trivial)
      have HA1 : Hid (Arr wr b c (P ++ U1 ++ V1 ++ (U2 ++ V2 ++ R))) := hid (by have h := HAR.out; rw [<- HUV.out.1,<- HUV.out.2] at h; rcases HE.out with h0 | h0 <;> (rw [h0] at h ⊢; simpa using h))
      have HG1 := HG
      go_wp2_with fail
      refine (HIH.out P U1 V1 (U2 ++ V2 ++ R) a s mid _ (by have := HQ.out; have := HF.out; omega) HA1.out (by rw [HN.out,<- HUV.out.1,<- HUV.out.2]; simp; omega) HQ.out.2.1 (by have := HQ.out; have := HF.out; omega) (by have := HQ.out; have := HF.out; omega) (by have := HQ.out; have := HF.out; omega) (by have := HQ.out; have := HF.out; omega) HSS.out.1 HSS.out.2.2.1).mono ?_
      intro e w2 hm2
      obtain ⟨he2,M1,m1,m2,m3,m4,m5⟩ := half_of HG1.out hm2
      subst he2
      clear hm2
      have HM1 := hid (And.intro m1 (And.intro m2 m3))
      have HA2 := hid m4
      have HG2 := hid m5
      rw [List.length_append] at m3
      have hm3 := hid m3
      clear m1 m2 m3 m4 m5
      obtain ⟨M2,m1,m2,m3,m4,m5⟩ : Half w b c (P ++ M1) (U2 ++ V2) R _ := half_skip HSS.out.2.1 HSS.out.2.2.2 HE2.out (by simpa using HA2.out) HG2.out
      have HM2 := hid (And.intro m1 (And.intro m2 (And.intro m3 (And.intro m4 m5))))
      clear m1 m2 m3 m4 m5
      go_wp2
      go_end0
      obtain ⟨m1,m2,m3,m4,m5⟩ := HM2.out
      exact ⟨rfl,m5,M1 ++ M2,(HM.out M1 M2 HM1.out.1 m1 HM1.out.2.1 m2).1,(HM.out M1 M2 HM1.out.1 m1 HM1.out.2.1 m2).2,(by have := hm3.out; have := HQ.out; have := HF.out; rw [List.length_append] at m3 ⊢; omega),by simpa using m4⟩
     ·have y3 : ¬ (s : Int) < (mid : Int) := by omega
      have HE1 : Hid (U1 = [] \/ V1 = []) := .inr (List.eq_nil_of_length_eq_zero (by have := HQ.out; have := HF.out; omega))
      have HB := hid (show True from trivial)
      have HA1 : Hid (Arr wr b c (P ++ U1 ++ V1 ++ (U2 ++ V2 ++ R))) := hid (by have h := HAR.out; rw [<- HUV.out.1,<- HUV.out.2] at h; rcases HE.out with h0 | h0 <;> (rw [h0] at h ⊢; simpa using h))
      have HG1 := HG
      obtain ⟨M1,m1,m2,m3,m4,m5⟩ : Half w b c P (U1 ++ V1) (U2 ++ V2 ++ R) wr := half_skip HSS.out.1 HSS.out.2.2.1 HE1.out HA1.out HG1.out
      have HM1 := hid (And.intro m1 (And.intro m2 m3))
      have HA2 := hid m4
      have HG2 := hid m5
      rw [List.length_append] at m3
      have hm3 := hid m3
      clear m1 m2 m3 m4 m5
      obtain ⟨M2,m1,m2,m3,m4,m5⟩ : Half w b c (P ++ M1) (U2 ++ V2) R _ := half_skip HSS.out.2.1 HSS.out.2.2.2 HE2.out (by simpa using HA2.out) HG2.out
      have HM2 := hid (And.intro m1 (And.intro m2 (And.intro m3 (And.intro m4 m5))))
      clear m1 m2 m3 m4 m5
      go_wp2
      go_end0
      obtain ⟨m1,m2,m3,m4,m5⟩ := HM2.out
      exact ⟨rfl,m5,M1 ++ M2,(HM.out M1 M2 HM1.out.1 m1 HM1.out.2.1 m2).1,(HM.out M1 M2 HM1.out.1 m1 HM1.out.2.1 m2).2,(by have := hm3.out; have := HQ.out; have := HF.out; rw [List.length_append] at m3 ⊢; omega),by simpa using m4⟩
end Idx
end Go.Proofs.YtefnmnpfecfdaaaGreat
