/-
  Texts of one proof: IdxMerge.
-/
import Derived.Test.YtefnmnpfecfdaaaGreatPk10
set_option linter.all false
set_option maxRecDepth 100000
set_option maxHeartbeats 3200000
open Go.Lib (hid)
namespace Go.Proofs.YtefnmnpfecfdaaaGreat
namespace Idx
open Go.RowKit Base IdxMath
open Go.Sort (grow)
def Merged (w : World) (b c : Nat) (P U V R : List Rw) (e : Ending) (w' : World) : Prop :=
 e = .returned (.tuple #[]) /\ w.grownBy w' (some b) /\ ∃ M,Srt M /\ St (U ++ V) M /\ M.length = U.length + V.length /\ Arr w' b c (P ++ M ++ R)
def FindRel (w : World) (b c m e : Nat) (L V : List Rw) (k : Int) (vi vj : Value) (wr : World) : Prop :=
 ∃ i j : Nat,vi = .int .i64 i /\ vj = .int .i64 j /\ m <= i /\ i <= j /\ j <= e /\ Lo V (i - m) k /\ Hi V (j - m) k /\ Arr wr b c L /\ w.grownBy wr (some b)
def diff2 (i j : Value) : Nat := (RowKit.intOf j).toNat - (RowKit.intOf i).toNat
theorem lo_mem {l : List Rw} {i : Nat} {k : Int} (h : Lo l i k) : ∀ x ∈ l.take i,x.key < k := fun x hx => by
 obtain ⟨p,hp⟩ := List.getElem?_of_mem hx
 rw [List.getElem?_take] at hp
 split at hp
 ·exact h p x (by assumption) hp
 ·cases hp
theorem hi_mem {l : List Rw} {i : Nat} {k : Int} (h : Hi l i k) : ∀ x ∈ l.drop i,k <= x.key := fun x hx => by
 obtain ⟨p,hp⟩ := List.getElem?_of_mem hx
 rw [List.getElem?_drop] at hp
 exact h _ x (Nat.le_add_right _ _) hp
theorem srt_take {l : List Rw} (h : Srt l) (i : Nat) : Srt (l.take i) := h.sublist (List.take_sublist _ _)
theorem srt_drop {l : List Rw} (h : Srt l) (i : Nat) : Srt (l.drop i) := h.sublist (List.drop_sublist _ _)
theorem one_merged {V : List Rw} {u : Rw} {i : Nat} (hs : Srt V) (h1 : Lo V i u.key) (h2 : Hi V i u.key) : Srt (V.take i ++ u :: V.drop i) /\ St ([u] ++ V) (V.take i ++ u :: V.drop i) := by
 have q1 := lo_mem h1
 have q2 := hi_mem h2
 refine ⟨Srt.app (srt_take hs i) (List.Pairwise.cons (fun z hz => q2 z hz) (srt_drop hs i)) fun x hx y hy => ?_,?_⟩
 ·have := q1 x hx
  rcases List.mem_cons.1 hy with rfl | hy
  ·omega
  ·have := q2 y hy; omega
 ·have h := (St.swap (a := [u]) (b := V.take i) fun x hx y hy => by rw [List.mem_singleton] at hx; subst hx; have := q1 y hy; omega).app (St.refl (V.drop i))
  have e : [u] ++ V.take i ++ V.drop i = [u] ++ V := by rw [List.append_assoc,List.take_append_drop]
  rw [e] at h
  simpa using h
theorem last_merged {U : List Rw} {v : Rw} {i : Nat} (hs : Srt U) (h1 : Lo U i (v.key + 1)) (h2 : Hi U i (v.key + 1)) : Srt (U.take i ++ v :: U.drop i) /\ St (U ++ [v]) (U.take i ++ v :: U.drop i) := by
 have q1 := lo_mem h1
 have q2 := hi_mem h2
 refine ⟨Srt.app (srt_take hs i) (List.Pairwise.cons (fun z hz => by have := q2 z hz; omega) (srt_drop hs i)) fun x hx y hy => ?_,?_⟩
 ·have := q1 x hx
  rcases List.mem_cons.1 hy with rfl | hy
  ·omega
  ·have := q2 y hy; omega
 ·have h := (St.refl (U.take i)).app (St.swap (a := U.drop i) (b := [v]) fun x hx y hy => by rw [List.mem_singleton] at hy; subst hy; have := q2 x hx; omega)
  have e : U.take i ++ (U.drop i ++ [v]) = U ++ [v] := by rw [<- List.append_assoc,List.take_append_drop]
  rw [e] at h
  simpa using h
def DownRel (w : World) (b c : Nat) (P V1 Q : List Rw) (u : Rw) (vk : Value) (wr : World) : Prop :=
 ∃ (k : Nat) (X Z : List Rw),vk = .int .i64 k /\ V1 = X ++ Z /\ P.length + X.length = k /\ Arr wr b c (P ++ X ++ u :: Z ++ Q) /\ w.grownBy wr (some b)
theorem merge_one (b c N : Nat) (P V R : List Rw) (u : Rw) (a m e : Nat) (w : World) (h : Arr w b c (P ++ [u] ++ V ++ R)) (hN : N = (P ++ [u] ++ V ++ R).length) (hP : P.length = a) (hU : a + 1 = m) (hV : m + V.length = e) (hs : Srt V) (hsz : N <= 4611686018427387903) :
 Calls Tryz.prog 247 #[.slice (some ⟨b,0,none⟩) N c,.int .i64 a,.int .i64 m,.int .i64 e,.func (.func 153) #[] #[]] w (Merged w b c P [u] V R) := by
 have hle := h.le
 rw [<- hN] at hle
 have HL : Hid (P.length = a /\ a + 1 = m /\ m + V.length = e) := ⟨hP,hU,hV⟩
 have e1 : (m : Int) - (a : Int) = 1 := by omega
 have l0 : e <= N := by rw [hN]; simp; omega
 have l1 : m <= e := by omega
 have l2 : a < N := by omega
 have HA := hid h
 have HN := hid hN
 have HS := hid hs
 have HU := hid (show (P ++ [u] ++ V ++ R)[a]? = some u by rw [List.append_assoc,List.append_assoc,List.singleton_append]; exact get_app hP)
 have HV : Hid (∀ (k : Nat) x,m <= k -> V[k - m]? = some x -> (P ++ [u] ++ V ++ R)[k]? = some x) := fun k x hk hx => by
  have hl : k - m < V.length := (List.getElem?_eq_some_iff.1 hx).1
  rw [List.append_assoc,List.getElem?_append_right (by simp; omega),List.getElem?_append_left (by simp; omega),<- hx]
  congr 1
  simp; omega
 clear h hN hP hU hV hs
 go_enter Tryz.func247,Tryz.ntmps247
 go_wp2
 go_loopw [10,11] (fun i j wr => FindRel w b c m e (P ++ [u] ++ V ++ R) V u.key i j wr) (fun i j _ => diff2 i j)
 case atStart => exact ⟨m,e,rfl,rfl,Nat.le_refl _,l1,Nat.le_refl _,(fun p x hp => by omega),(fun p x hp hx => by rw [List.getElem?_eq_none (by have := HL.out; omega)] at hx; cases hx),HA.out,World.grownBy.refl _ _⟩
 case round =>
  obtain ⟨i,j,rfl,rfl,hmi,hij,hje,hlo,hhi,harr,hg⟩ := hrel
  have HG := hid hg
  have HLO := hid hlo
  have HHI := hid hhi
  clear hg hlo hhi
  by_cases hlt : i < j
  ·have l3 : (i : Int) < (j : Int) := by omega
   obtain ⟨k,hk⟩ : ∃ k,k = (i + j) / 2 := ⟨_,rfl⟩
   have e2 : ((i : Int) + (j : Int)) / 2 = (k : Int) := by omega
   have hkb : i <= k /\ k < j := by omega
   have hvl : k - m < V.length := by have := HL.out; omega
   obtain ⟨x,hx⟩ : ∃ x,V[k - m]? = some x := ⟨_,List.getElem?_eq_getElem hvl⟩
   obtain ⟨c1,c2⟩ := harr.got (HV.out k x (by omega) hx)
   obtain ⟨c3,c4⟩ := harr.got HU.out
   have hc := cmp_grown x u wr
   have HX := hid hx
   have HAR := hid harr
   have l4 : (k : Int) < (N : Int) := by omega
   have l5 : (a : Int) < (N : Int) := by omega
   have HK := hid hk
   have HKB := hid hkb
   have l6 : k + 1 <= N := by omega
   have mixed : Tryz.prog.follows .mixedOrders = true := by kernel_rfl
   clear hx harr hvl hk hkb
   by_cases hxu : x.key < u.key
   ·have hc2 := hc
    rw [cmpK_neg hxu] at hc
    have hn : ((-1 : Int) < 0) := by omega
    go_wp2_with fail
    go_quiet_grown (first | (go_at_call 153; exact hc _ _))
    go_wp2
    go_roundw
    case rel =>
     have := HKB.out
     refine ⟨k + 1,j,by go_num,rfl,by omega,by omega,hje,?_,HHI.out,HAR.out.grown _ _,only_grow HG.out _ _⟩
     rw [show k + 1 - m = (k - m) + 1 by omega]
     exact HS.out.lo HX.out hxu
    case measure =>
     have := HKB.out
     simp [RowKit.intOf,diff2]; omega
   ·have hk2 : ¬ cmpK x.key u.key < 0 := fun h => hxu (cmpK_lt.1 h)
    go_wp2_with fail
    go_quiet_grown (first | (go_at_call 153; exact hc _ _))
    go_wp2
    go_roundw
    case rel =>
     have := HKB.out
     exact ⟨i,k,rfl,rfl,by omega,by omega,by omega,HLO.out,HS.out.hi HX.out (by omega),HAR.out.grown _ _,only_grow HG.out _ _⟩
    case measure =>
     have := HKB.out
     simp [RowKit.intOf,diff2]; omega
  ·obtain rfl : i = j := by omega
   obtain ⟨i1,hi1⟩ : ∃ i1,i = i1 + 1 := ⟨i - 1,by have := HL.out; omega⟩
   subst hi1
   have HM := hid (one_merged HS.out HLO.out HHI.out)
   have S1 : Hid (DownRel w b c P (V.take (i1 + 1 - m)) (V.drop (i1 + 1 - m) ++ R) u (.int .i64 a) wr) :=
    ⟨a,[],V.take (i1 + 1 - m),rfl,rfl,HL.out.1,by
     have e : P ++ [] ++ u :: V.take (i1 + 1 - m) ++ (V.drop (i1 + 1 - m) ++ R) = P ++ [u] ++ (V.take (i1 + 1 - m) ++ V.drop (i1 + 1 - m)) ++ R := by simp only [List.append_nil,List.append_assoc,List.cons_append,List.nil_append]
     rw [e,List.take_append_drop]; exact harr,HG.out⟩
   have HV1 := hid (show (V.take (i1 + 1 - m)).length = i1 + 1 - m by rw [List.length_take]; have := HL.out; omega)
   have HTD := hid (show (V.take (i1 + 1 - m) ++ u :: V.drop (i1 + 1 - m)).length = V.length + 1 by rw [List.length_append,List.length_cons,List.length_take,List.length_drop]; have := HL.out; omega)
   have HII := hid (show m <= i1 + 1 /\ i1 + 1 <= e from ⟨hmi,hje⟩)
   have l7 : i1 + 1 <= N := by omega
   clear harr hmi hje hlt hij
   generalize V.take (i1 + 1 - m) = V1 at *
   generalize V.drop (i1 + 1 - m) = V2 at *
   go_wp2
   go_loopw [13] (fun k wr => DownRel w b c P V1 (V2 ++ R) u k wr) (fun k _ => N - (RowKit.intOf k).toNat)
   case atStart => exact S1.out
   case round =>
    obtain ⟨k,X,Z,rfl,hXZ,hPX,harr,hg⟩ := hrel
    have hvl : X.length + Z.length = i1 + 1 - m := by rw [<- HV1.out,hXZ,List.length_append]
    have HG := hid hg
    clear hg
    by_cases hkl : k < i1
    ·obtain ⟨z,Z',rfl⟩ : ∃ z Z',Z = z :: Z' := by
      cases Z with
      | nil => have := HL.out; have := HII.out; simp at hvl; omega
      | cons z Z' => exact ⟨z,Z',rfl⟩
     have e3 : P ++ X ++ u :: (z :: Z') ++ (V2 ++ R) = (P ++ X) ++ u :: [] ++ z :: (Z' ++ (V2 ++ R)) := by simp
     rw [e3] at harr
     obtain ⟨⟨a1,a2,a3,a4⟩,⟨f1,f2,f3,f4⟩,⟨n1,n2,n3,n4,n5,n6,n7,n8,n9,n10⟩,HS1,_⟩ := swap_facts harr (i := k) (j := k + 1) (by rw [List.length_append]; exact hPX) rfl
     have l8 : (k : Int) < (i1 : Int) := by omega
     have l9 : (k : Int) + 1 < (N : Int) := by omega
     have l10 : (k : Int) < (N : Int) := by omega
     have l11 : (0 : Int) <= (k : Int) + 1 := by omega
     have l12 : ((k : Int) + 1).toNat = k + 1 := by omega
     have HP := hid (And.intro hXZ hPX)
     clear harr e3 hXZ hPX hvl
     go_wp2_with fail
     go_region
     go_wp2
     go_roundw
     case rel =>
      obtain ⟨h1,h2⟩ := HP.out
      refine ⟨k + 1,X ++ [z],Z',by go_num,by rw [h1]; simp,by rw [List.length_append,List.length_singleton]; omega,?_,only_drewN (four_on HG.out _ _ _ _ _ _ _ _) 1⟩
      have e4 : P ++ (X ++ [z]) ++ u :: Z' ++ (V2 ++ R) = (P ++ X) ++ z :: [] ++ u :: (Z' ++ (V2 ++ R)) := by simp
      rw [e4]
      exact HS1.out
     case measure => simp [RowKit.intOf]; omega
    ·have hZ : Z = [] := List.eq_nil_of_length_eq_zero (by have := HL.out; have := HII.out; omega)
     subst hZ
     rw [List.append_nil] at hXZ
     subst hXZ
     have HAR := hid harr
     clear harr
     go_wp2
     go_end0
     exact ⟨rfl,HG.out,V1 ++ u :: V2,HM.out.1,HM.out.2,by rw [HTD.out]; simp; omega,by simpa using HAR.out⟩
def UpRel (w : World) (b c m : Nat) (P U2 Q : List Rw) (v : Rw) (vk : Value) (wr : World) : Prop :=
 ∃ (k : Nat) (X Z : List Rw),vk = .int .i64 k /\ U2 = X ++ Z /\ P.length + X.length = k /\ k <= m /\ Arr wr b c (P ++ X ++ v :: Z ++ Q) /\ w.grownBy wr (some b)
theorem merge_last (b c N : Nat) (P U R : List Rw) (v : Rw) (a m e : Nat) (w : World) (h : Arr w b c (P ++ U ++ [v] ++ R)) (hN : N = (P ++ U ++ [v] ++ R).length) (hP : P.length = a) (hU : a + U.length = m) (hV : m + 1 = e) (h1 : U.length ≠ 1) (hs : Srt U) (hsz : N <= 4611686018427387903) :
 Calls Tryz.prog 247 #[.slice (some ⟨b,0,none⟩) N c,.int .i64 a,.int .i64 m,.int .i64 e,.func (.func 153) #[] #[]] w (Merged w b c P U [v] R) := by
 have hle := h.le
 rw [<- hN] at hle
 have HL : Hid (P.length = a /\ a + U.length = m /\ m + 1 = e) := ⟨hP,hU,hV⟩
 have e1 : ((m : Int) - (a : Int) == 1) = false := by rw [beq_eq_false_iff_ne]; omega
 have e2 : (e : Int) - (m : Int) = 1 := by omega
 have l0 : e <= N := by rw [hN]; simp; omega
 have l1 : m < N := by omega
 have l2 : a <= m := by omega
 have HA := hid h
 have HN := hid hN
 have HS := hid hs
 have HV := hid (show (P ++ U ++ [v] ++ R)[m]? = some v by rw [List.append_assoc,List.singleton_append]; exact get_app (by rw [List.length_append]; omega))
 have HU : Hid (∀ (k : Nat) x,a <= k -> U[k - a]? = some x -> (P ++ U ++ [v] ++ R)[k]? = some x) := fun k x hk hx => by
  have hl : k - a < U.length := (List.getElem?_eq_some_iff.1 hx).1
  rw [List.append_assoc,List.append_assoc,List.getElem?_append_right (by omega),List.getElem?_append_left (by omega),<- hx]
  congr 1
  omega
 clear h hN hP hU hV hs h1
 go_enter Tryz.func247,Tryz.ntmps247
 go_wp2
 go_loopw [14,15] (fun i j wr => FindRel w b c a m (P ++ U ++ [v] ++ R) U (v.key + 1) i j wr) (fun i j _ => diff2 i j)
 case atStart => exact ⟨a,m,rfl,rfl,Nat.le_refl _,l2,Nat.le_refl _,(fun p x hp => by omega),(fun p x hp hx => by rw [List.getElem?_eq_none (by have := HL.out; omega)] at hx; cases hx),HA.out,World.grownBy.refl _ _⟩
 case round =>
  obtain ⟨i,j,rfl,rfl,hmi,hij,hje,hlo,hhi,harr,hg⟩ := hrel
  have HG := hid hg
  have HLO := hid hlo
  have HHI := hid hhi
  clear hg hlo hhi
  by_cases hlt : i < j
  ·have l3 : (i : Int) < (j : Int) := by omega
   obtain ⟨k,hk⟩ : ∃ k,k = (i + j) / 2 := ⟨_,rfl⟩
   have e2 : ((i : Int) + (j : Int)) / 2 = (k : Int) := by omega
   have hkb : i <= k /\ k < j := by omega
   have hvl : k - a < U.length := by have := HL.out; omega
   obtain ⟨x,hx⟩ : ∃ x,U[k - a]? = some x := ⟨_,List.getElem?_eq_getElem hvl⟩
   obtain ⟨c1,c2⟩ := harr.got (HU.out k x (by omega) hx)
   obtain ⟨c3,c4⟩ := harr.got HV.out
   have hc := cmp_grown v x wr
   have HX := hid hx
   have HAR := hid harr
   have l4 : (k : Int) < (N : Int) := by omega
   have l5 : (m : Int) < (N : Int) := by omega
   have HK := hid hk
   have HKB := hid hkb
   have l6 : k + 1 <= N := by omega
   have mixed : Tryz.prog.follows .mixedOrders = true := by kernel_rfl
   clear hx harr hvl hk hkb
   by_cases hxu : v.key < x.key
   ·have hc2 := hc
    rw [cmpK_neg hxu] at hc
    have hn : ((-1 : Int) < 0) := by omega
    go_wp2_with fail
    go_quiet_grown (first | (go_at_call 153; exact hc _ _))
    go_wp2
    go_roundw
    case rel =>
     have := HKB.out
     exact ⟨i,k,rfl,rfl,by omega,by omega,by omega,HLO.out,HS.out.hi HX.out (by omega),HAR.out.grown _ _,only_grow HG.out _ _⟩
    case measure =>
     have := HKB.out
     simp [RowKit.intOf,diff2]; omega
   ·have hk2 : decide (cmpK v.key x.key < 0) = false := decide_eq_false fun h => hxu (cmpK_lt.1 h)
    go_wp2_with fail
    go_quiet_grown (first | (go_at_call 153; exact hc _ _))
    go_wp2
    go_roundw
    case rel =>
     have := HKB.out
     refine ⟨k + 1,j,by go_num,rfl,by omega,by omega,hje,?_,HHI.out,HAR.out.grown _ _,only_grow HG.out _ _⟩
     rw [show k + 1 - a = (k - a) + 1 by omega]
     exact HS.out.lo HX.out (by omega)
    case measure =>
     have := HKB.out
     simp [RowKit.intOf,diff2]; omega
  ·obtain rfl : i = j := by omega
   have HM := hid (last_merged HS.out HLO.out HHI.out)
   have S1 : Hid (UpRel w b c m (P ++ U.take (i - a)) (U.drop (i - a)) R v (.int .i64 m) wr) :=
    ⟨m,U.drop (i - a),[],rfl,by simp,by rw [List.length_append,List.length_take,List.length_drop]; have := HL.out; omega,Nat.le_refl _,by
     have e : P ++ U.take (i - a) ++ U.drop (i - a) ++ [v] ++ R = P ++ (U.take (i - a) ++ U.drop (i - a)) ++ [v] ++ R := by simp only [List.append_assoc]
     rw [e,List.take_append_drop]; exact harr,HG.out⟩
   have HPL := hid (show (P ++ U.take (i - a)).length = i by rw [List.length_append,List.length_take]; have := HL.out; omega)
   have HTD := hid (show (U.take (i - a) ++ v :: U.drop (i - a)).length = U.length + 1 by rw [List.length_append,List.length_cons,List.length_take,List.length_drop]; have := HL.out; omega)
   have l7 : i <= N := by omega
   have HII := hid (show a <= i /\ i <= m from ⟨hmi,hje⟩)
   clear harr hmi hje hlt hij
   generalize U.take (i - a) = U1 at *
   generalize U.drop (i - a) = U2 at *
   go_wp2
   go_loopw [17] (fun k wr => UpRel w b c m (P ++ U1) U2 R v k wr) (fun k _ => (RowKit.intOf k).toNat)
   case atStart => exact S1.out
   case round =>
    obtain ⟨k,X,Z,rfl,hXZ,hPX,hkm,harr,hg⟩ := hrel
    have HG := hid hg
    clear hg
    rw [HPL.out] at hPX
    by_cases hkl : i < k
    ·obtain ⟨k1,rfl⟩ : ∃ k1,k = k1 + 1 := ⟨k - 1,by omega⟩
     rcases List.eq_nil_or_concat X with rfl | ⟨X',x,rfl⟩
     ·simp at hPX; omega
     rw [List.concat_eq_append] at *
     have e3 : P ++ U1 ++ (X' ++ [x]) ++ v :: Z ++ R = (P ++ U1 ++ X') ++ x :: [] ++ v :: (Z ++ R) := by simp
     rw [e3] at harr
     obtain ⟨⟨a1,a2,a3,a4⟩,⟨f1,f2,f3,f4⟩,⟨n1,n2,n3,n4,n5,n6,n7,n8,n9,n10⟩,_,HS1⟩ := swap_facts harr (i := k1) (j := k1 + 1) (by rw [List.length_append,HPL.out]; simp at hPX; omega) rfl
     have l8 : (i : Int) < (k1 : Int) + 1 := by omega
     have l9 : (k1 : Int) + 1 < (N : Int) := by omega
     have l10 : (k1 : Int) < (N : Int) := by omega
     have l11 : (0 : Int) <= (k1 : Int) + 1 := by omega
     have l12 : ((k1 : Int) + 1).toNat = k1 + 1 := by omega
     have l13 : k1 + 1 <= N := by omega
     have HP := hid (And.intro hXZ hPX)
     have HKM := hid hkm
     clear harr e3 hXZ hPX hkm
     go_wp2_with fail
     go_region
     go_wp2
     go_roundw
     case rel =>
      obtain ⟨h1,h2⟩ := HP.out
      have := HKM.out
      refine ⟨k1,X',x :: Z,by go_num,by rw [h1]; simp,by rw [HPL.out]; simp at h2; omega,by omega,?_,only_drewN (four_on HG.out _ _ _ _ _ _ _ _) 1⟩
      have e4 : P ++ U1 ++ X' ++ v :: (x :: Z) ++ R = (P ++ U1 ++ X') ++ v :: [] ++ x :: (Z ++ R) := by simp
      rw [e4]
      exact HS1.out
     case measure => simp [RowKit.intOf]
    ·have hX : X = [] := List.eq_nil_of_length_eq_zero (by omega)
     subst hX
     rw [List.nil_append] at hXZ
     subst hXZ
     have HAR := hid harr
     clear harr
     go_wp2
     go_end0
     exact ⟨rfl,HG.out,U1 ++ v :: U2,HM.out.1,HM.out.2,HTD.out,by simpa using HAR.out⟩
theorem merge_parts {U V : List Rw} {s t : Nat} (hU : Srt U) (hV : Srt V) (h1 : ∀ x ∈ U.take s,∀ y ∈ V.drop t,x.key <= y.key) (h2 : ∀ x ∈ U.drop s,∀ y ∈ V.take t,y.key < x.key) {M1 M2 : List Rw}
 (s1 : Srt M1) (s2 : Srt M2) (t1 : St (U.take s ++ V.take t) M1) (t2 : St (U.drop s ++ V.drop t) M2) : Srt (M1 ++ M2) /\ St (U ++ V) (M1 ++ M2) := by
 have hU' := hU
 have hV' := hV
 rw [<- List.take_append_drop s U] at hU'
 rw [<- List.take_append_drop t V] at hV'
 refine ⟨Srt.app s1 s2 fun x hx y hy => ?_,?_⟩
 ·rcases List.mem_append.1 (t1.mem hx) with a | a <;> rcases List.mem_append.1 (t2.mem hy) with b | b
  ·exact (hU'.parts).2.2 x a y b
  ·exact h1 x a y b
  ·have := h2 y b x a; omega
  ·exact (hV'.parts).2.2 x a y b
 ·have h := ((St.refl (U.take s)).app (St.swap (a := U.drop s) (b := V.take t) fun x hx y hy => by have := h2 x hx y hy; omega)).app (St.refl (V.drop t))
  have e : U.take s ++ (U.drop s ++ V.take t) ++ V.drop t = U ++ V := by
   rw [List.append_assoc,List.append_assoc,List.take_append_drop,<- List.append_assoc,List.take_append_drop]
  rw [e] at h
  refine h.trans ?_
  have h3 := t1.app t2
  have e2 : U.take s ++ (V.take t ++ U.drop s) ++ V.drop t = U.take s ++ V.take t ++ (U.drop s ++ V.drop t) := by simp only [List.append_assoc]
  rw [e2]
  exact h3
theorem take_last {l : List Rw} (h : Srt l) {i : Nat} {x : Rw} (hx : l[i]? = some x) : ∀ y ∈ l.take (i + 1),y.key <= x.key := fun y hy => by
 obtain ⟨p,hp⟩ := List.getElem?_of_mem hy
 rw [List.getElem?_take] at hp
 split at hp
 ·exact h.get (by omega) hp hx
 ·cases hp
theorem drop_first {l : List Rw} (h : Srt l) {i : Nat} {x : Rw} (hx : l[i]? = some x) : ∀ y ∈ l.drop i,x.key <= y.key := fun y hy => by
 obtain ⟨p,hp⟩ := List.getElem?_of_mem hy
 rw [List.getElem?_drop] at hp
 exact h.get (Nat.le_add_right _ _) hx hp
end Idx
end Go.Proofs.YtefnmnpfecfdaaaGreat
