/-
  Texts of one proof: IdxStable, IdxInsertAt, IdxObj.
-/
import Derived.Test.YtefnmnpfecfdaaaGreatPf14
import Derived.Lib.AppendZerosOnto
import Derived.Test.YtefnmnpfecfdaaaGreatPf09
set_option linter.all false
set_option maxRecDepth 100000
set_option maxHeartbeats 6400000
open Go.Lib (hid)
namespace Go.Proofs.YtefnmnpfecfdaaaGreat
namespace Idx
open Go.RowKit Base IdxMath
open Go.Sort (grow)
theorem merge_all (b c N : Nat) (hsz : N <= 1099511627776) : ∀ s,MergeAll b c N s := by
 intro s
 induction s with
 | zero => exact fun P U V R a m e w hlt => by omega
 | succ s ih =>
   intro P U V R a m e w hlt h hN hP hU hV hu hv hs ht
   by_cases h1 : U.length = 1
   ·match U,h1 with
    | [u],_ => exact merge_one b c N P V R u a m e w h hN hP (by simpa using hU) hV ht (by omega)
   ·by_cases h2 : V.length = 1
    ·match V,h2 with
     | [v],_ => exact merge_last b c N P U R v a m e w h hN hP hU (by simpa using hV) h1 hs (by omega)
    ·exact merge_step b c N P U V R a m e w (fun P' U' V' R' a' m' e' w' hlt' => ih P' U' V' R' a' m' e' w' (by omega)) h hN hP hU hV (by omega) (by omega) hs ht hsz
inductive Runs (bs : Nat) : List Rw -> Prop
 | last (l : List Rw) : l.length <= bs -> Srt l -> Runs bs l
 | cons (A B : List Rw) : A.length = bs -> Srt A -> Runs bs B -> Runs bs (A ++ B)
def Full (bs : Nat) (P : List Rw) : Prop := ∀ Q,Runs bs Q -> Runs bs (P ++ Q)
theorem Full.nil (bs : Nat) : Full bs [] := fun _ h => h
theorem Full.snoc {bs : Nat} {P A : List Rw} (h : Full bs P) (h1 : A.length = bs) (h2 : Srt A) : Full bs (P ++ A) := fun Q hQ => by
 rw [List.append_assoc]
 exact h _ (.cons A Q h1 h2 hQ)
theorem Runs.one {bs : Nat} {Q : List Rw} (h : Runs bs Q) (hl : Q.length <= bs) : Srt Q := by
 cases h with
 | last _ _ h => exact h
 | cons A B h1 h2 h3 =>
   rw [List.length_append] at hl
   have : B = [] := List.eq_nil_of_length_eq_zero (by omega)
   subst this
   simpa using h2
theorem Runs.front {bs : Nat} {Q : List Rw} (h : Runs bs Q) (hl : bs <= Q.length) : ∃ A B,Q = A ++ B /\ A.length = bs /\ Srt A /\ Runs bs B := by
 cases h with
 | last _ h1 h2 => exact ⟨Q,[],by simp,by omega,h2,.last [] (Nat.zero_le _) Srt.nil⟩
 | cons A B h1 h2 h3 => exact ⟨A,B,rfl,h1,h2,h3⟩
def BlockRel (w : World) (b c : Nat) (l : List Rw) (va vb : Value) (wr : World) : Prop :=
 ∃ (a : Nat) (P Q : List Rw),va = .int .i64 a /\ vb = .int .i64 ((a + 20 : Nat) : Int) /\ P.length = a /\ Full 20 P /\ St l (P ++ Q) /\ (P ++ Q).length = l.length /\ Arr wr b c (P ++ Q) /\ w.grownBy wr (some b)
def RunRel (w : World) (b c : Nat) (l : List Rw) (v : Value) (wr : World) : Prop :=
 ∃ (bs : Nat) (L : List Rw),v = .int .i64 bs /\ 20 <= bs /\ bs <= 2199023255552 /\ Runs bs L /\ St l L /\ L.length = l.length /\ Arr wr b c L /\ w.grownBy wr (some b)
def PairRel (w : World) (b c bs : Nat) (l : List Rw) (va vb : Value) (wr : World) : Prop :=
 ∃ (a : Nat) (P Q : List Rw),va = .int .i64 a /\ vb = .int .i64 ((a : Int) + 2 * (bs : Int)) /\ P.length = a /\ Full (2 * bs) P /\ Runs bs Q /\ St l (P ++ Q) /\ (P ++ Q).length = l.length /\ Arr wr b c (P ++ Q) /\ w.grownBy wr (some b)
theorem grown_on {w w1 w2 : World} {b : Nat} (h : w.grownBy w1 (some b)) (k : w1.grownBy w2 (some b)) : w.grownBy w2 (some b) := only_trans h k (.inl rfl)
theorem stableCmp_any (b c : Nat) (l : List Rw) (n : Nat) (w : World) (h : Arr w b c l) (hn : n = l.length) (hsz : n <= 1099511627776) :
 Calls Tryz.prog 207 #[.slice (some ⟨b,0,none⟩) n c,.int .i64 n,.func (.func 153) #[] #[]] w fun e w' => e = .returned (.tuple #[]) /\ w.grownBy w' (some b) /\ ∃ l',Srt l' /\ St l l' /\ l'.length = l.length /\ Arr w' b c l' := by
 have HA := hid h
 have HN := hid hn
 have HMA := hid (merge_all b c n hsz)
 clear h hn
 go_enter Tryz.func207,Tryz.ntmps207
 go_wp2
 go_loopw [7,8] (fun x y wr => BlockRel w b c l x y wr) (fun x _ _ => n - (RowKit.intOf x).toNat)
 case atStart => exact ⟨0,[],l,rfl,rfl,rfl,Full.nil _,St.refl _,rfl,HA.out,World.grownBy.refl _ _⟩
 case round =>
  obtain ⟨a,P,Q,rfl,rfl,hP,hF,hst,hlen,harr,hg⟩ := hrel
  have HG := hid hg
  have HST := hid hst
  have HF := hid hF
  have HAR := hid harr
  have HP := hid (show P.length = a /\ a + Q.length = n from ⟨hP,by rw [HN.out,<- hlen,List.length_append]; omega⟩)
  have l1 : a <= n := by have := HP.out; omega
  clear hP hF hst hlen harr hg
  by_cases hlt : a + 20 <= n
  ·have y1 : ((a + 20 : Nat) : Int) <= (n : Int) := by omega
   have hQ := List.take_append_drop 20 Q
   have hq1 : (Q.take 20).length = 20 := by rw [List.length_take]; have := HP.out; omega
   have hq2 : (Q.drop 20).length + 20 = Q.length := by rw [List.length_drop]; have := HP.out; omega
   generalize Q.take 20 = U at *
   generalize Q.drop 20 = R at *
   have HQ := hid (And.intro hQ (And.intro hq1 hq2))
   clear hQ hq1 hq2
   go_wp2_with fail
   refine (insertion_any b c n P U R a (a + 20) _ (by have := HAR.out; rw [<- HQ.out.1] at this; simpa using this) (by have := HP.out; have := HQ.out; rw [List.length_append,List.length_append]; omega) HP.out.1 (by have := HQ.out; omega) (by omega)).mono ?_
   rintro e w1 ⟨rfl,hg1,U',h1,h2,h3,h4⟩
   have HG1 := hid (grown_on HG.out hg1)
   have HU := hid (And.intro h1 (And.intro h2 (And.intro h3 h4)))
   clear hg1 h1 h2 h3 h4
   go_wp2
   go_roundw
   case rel =>
    obtain ⟨h1,h2,h3,h4⟩ := HU.out
    have := HQ.out
    have := HP.out
    refine ⟨a + 20,P ++ U',R,by go_num,by go_num,by rw [List.length_append]; omega,HF.out.snoc (by omega) h1,?_,by rw [List.length_append,List.length_append]; have := HN.out; omega,h4,HG1.out⟩
    have h5 := ((St.refl P).app h2).app (St.refl R)
    refine HST.out.trans ?_
    rw [<- HQ.out.1,<- List.append_assoc]
    exact h5
   case measure => simp [RowKit.intOf]; omega
  ·have y1 : decide ((a : Int) + 20 <= (n : Int)) = false := decide_eq_false (by omega)
   go_wp2_with fail
   refine (insertion_any b c n P Q [] a n _ (by simpa using HAR.out) (by have := HP.out; simp; omega) HP.out.1 (by have := HP.out; omega) (by omega)).mono ?_
   rintro e w1 ⟨rfl,hg1,U',h1,h2,h3,h4⟩
   have HG1 := hid (grown_on HG.out hg1)
   have S1 : Hid (RunRel w b c l (.int .i64 20) w1) := ⟨20,P ++ U',rfl,by omega,by omega,HF.out _ (.last U' (by have := HP.out; omega) h1),HST.out.trans ((St.refl P).app h2),by have := HP.out; have := HN.out; rw [List.length_append]; omega,by simpa using h4,HG1.out⟩
   clear hg1 h1 h2 h3 h4 HG1 HG HST HF HAR HP l1 y1 hlt
   go_wp2
   go_loopw [6] (fun v wr => RunRel w b c l v wr) (fun v _ => n - (RowKit.intOf v).toNat)
   case atStart => exact S1.out
   case round =>
    obtain ⟨bs,L,rfl,h20,hbs,hR,hst,hlen,harr,hg⟩ := hrel
    by_cases hlt : bs < n
    ·have y1 : (bs : Int) < (n : Int) := by omega
     have S2 : Hid (PairRel w b c bs l (.int .i64 0) (.int .i64 (2 * (bs : Int))) wr) := ⟨0,[],L,rfl,by simp,rfl,Full.nil _,hR,hst,hlen,harr,hg⟩
     clear hR hst hlen harr hg
     go_wp2
     go_loopw [7,8] (fun x y wr => PairRel w b c bs l x y wr) (fun x _ _ => n - (RowKit.intOf x).toNat)
     case atStart => exact S2.out
     case round =>
      obtain ⟨a,P,Q,rfl,rfl,hP,hF,hR,hst,hlen,harr,hg⟩ := hrel
      have HG := hid hg
      have HST := hid hst
      have HF := hid hF
      have HR := hid hR
      have HAR := hid harr
      have HP := hid (show P.length = a /\ a + Q.length = n from ⟨hP,by rw [HN.out,<- hlen,List.length_append]; omega⟩)
      have l1 : a <= n := by have := HP.out; omega
      clear hP hF hR hst hlen harr hg
      have l2 : a + 2 * bs <= 5497558138880 := by omega
      by_cases hlt2 : a + 2 * bs <= n
      ·have y2 : (a : Int) + 2 * (bs : Int) <= (n : Int) := by omega
       obtain ⟨A,Q1,hA1,hA2,hA3,hA4⟩ := HR.out.front (by have := HP.out; omega)
       obtain ⟨B,Q2,hB1,hB2,hB3,hB4⟩ := hA4.front (by have := HP.out; rw [hA1,List.length_append] at this; omega)
       subst hB1
       subst hA1
       have HQ := hid (And.intro (And.intro hA2 hA3) (And.intro hB2 (And.intro hB3 hB4)))
       clear hA2 hA3 hA4 hB2 hB3 hB4
       go_wp2_with fail
       refine (HMA.out _ P A B Q2 a (a + bs) (a + 2 * bs) _ (Nat.lt_succ_self _) (by have := HAR.out; simpa using this) (by have := HP.out; simp at this ⊢; omega) HP.out.1 (by have := HQ.out; omega) (by have := HQ.out; omega) (by have := HQ.out; omega) (by have := HQ.out; omega) HQ.out.1.2 HQ.out.2.2.1).mono ?_
       rintro e w2 ⟨rfl,hg2,M,h1,h2,h3,h4⟩
       have HG2 := hid (grown_on HG.out hg2)
       have HM := hid (And.intro h1 (And.intro h2 (And.intro h3 h4)))
       clear hg2 h1 h2 h3 h4
       go_wp2
       go_roundw
       case rel =>
        obtain ⟨h1,h2,h3,h4⟩ := HM.out
        have hq := HQ.out
        have hp := HP.out
        simp at hp
        refine ⟨a + 2 * bs,P ++ M,Q2,by go_num,(by first | rfl | (congr 1; omega) | (congr 1 <;> simp <;> omega)),by rw [List.length_append]; omega,HF.out.snoc (by omega) h1,hq.2.2.2,?_,by rw [List.length_append,List.length_append]; have := HN.out; omega,h4,HG2.out⟩
        have h5 := ((St.refl P).app h2).app (St.refl Q2)
        refine HST.out.trans ?_
        have e5 : P ++ (A ++ (B ++ Q2)) = P ++ (A ++ B) ++ Q2 := by simp only [List.append_assoc]
        rw [e5]
        exact h5
       case measure => simp [RowKit.intOf]; omega
      ·have y2 : ¬ (a : Int) + 2 * (bs : Int) <= (n : Int) := by omega
       by_cases hlt3 : a + bs < n
       ·have y3 : (a : Int) + (bs : Int) < (n : Int) := by omega
        obtain ⟨A,B,hA1,hA2,hA3,hA4⟩ := HR.out.front (by have := HP.out; omega)
        subst hA1
        have hB := hA4.one (by have := HP.out; rw [List.length_append] at this; omega)
        have HQ := hid (And.intro (And.intro hA2 hA3) hB)
        clear hA2 hA3 hA4 hB
        go_wp2_with fail
        refine (HMA.out _ P A B [] a (a + bs) n _ (Nat.lt_succ_self _) (by have := HAR.out; simpa using this) (by have := HP.out; simp at this ⊢; omega) HP.out.1 (by have := HQ.out; omega) (by have := HQ.out; have := HP.out; rw [List.length_append] at this; omega) (by have := HQ.out; omega) (by have := HQ.out; have := HP.out; rw [List.length_append] at this; omega) HQ.out.1.2 HQ.out.2).mono ?_
        rintro e w2 ⟨rfl,hg2,M,h1,h2,h3,h4⟩
        have HG2 := hid (grown_on HG.out hg2)
        have HM := hid (And.intro h1 (And.intro h2 (And.intro h3 h4)))
        clear hg2 h1 h2 h3 h4
        go_wp2
        go_roundw
        case rel =>
         obtain ⟨h1,h2,h3,h4⟩ := HM.out
         have hq := HQ.out
         have hp := HP.out
         simp at hp
         exact ⟨2 * bs,P ++ M,(by first | rfl | (congr 1; omega) | (congr 1 <;> simp <;> omega)),by omega,by omega,HF.out _ (.last M (by omega) h1),HST.out.trans ((St.refl P).app h2),by rw [List.length_append]; have := HN.out; omega,by simpa using h4,HG2.out⟩
        case measure => simp [RowKit.intOf]; omega
       ·have y3 : ¬ (a : Int) + (bs : Int) < (n : Int) := by omega
        go_wp2
        go_roundw
        case rel =>
         have hp := HP.out
         exact ⟨2 * bs,P ++ Q,(by first | rfl | (congr 1; omega) | (congr 1 <;> simp <;> omega)),by omega,by omega,HF.out _ (.last Q (by omega) (HR.out.one (by omega))),HST.out,by rw [List.length_append]; have := HN.out; omega,HAR.out,HG.out⟩
        case measure => simp [RowKit.intOf]; omega
    ·go_wp2
     go_end0
     exact ⟨rfl,hg,L,hR.one (by rw [hlen,<- HN.out]; omega),hst,hlen,harr⟩
theorem stable_any (b c : Nat) (l : List Rw) (n : Nat) (w : World) (h : Arr w b c l) (hn : n = l.length) (hsz : n <= 1099511627776) :
 Calls Tryz.prog 152 #[.slice (some ⟨b,0,none⟩) n c,.func (.func 153) #[] #[]] w fun e w' => e = .returned (.tuple #[]) /\ w.grownBy w' (some b) /\ ∃ l',Srt l' /\ St l l' /\ l'.length = l.length /\ Arr w' b c l' := by
 have HC := hid (stableCmp_any b c l n w h hn hsz)
 clear h hn
 go_enter Tryz.func152,Tryz.ntmps152
 go_wp2_with fail
 refine HC.out.mono ?_
 rintro e w1 ⟨rfl,h1,h2⟩
 have H1 := hid (And.intro h1 h2)
 clear h1 h2
 go_wp2
 go_end0
 exact ⟨rfl,H1.out.1,H1.out.2⟩
end Idx
namespace Idx
open Go.RowKit Base IdxMath
open Go.Sort (grow)
theorem run_copy_wide {P : Program} (w : World) (dT sT ty elem : TypeId) (size b o dLen dCap : Nat) (a : Addr) (sLen sCap : Nat) (cs : List Value)
 (hu : P.underlying dT = some (.slice elem)) (hs : (P.info? elem).map (·.size) = some size) (hn : cs.length = Nat.min sLen dLen * size)
 (hsrc : ∀ j v,cs[j]? = some v -> w.cell? (a.add j) = some v) (hc : ∀ j,j < cs.length -> (w.cell? ⟨b,o + j,none⟩).isSome = true) (hf : ∀ j,j < cs.length -> w.frozen? ⟨b,o + j,none⟩ = false) (h1 : ∀ v ∈ cs,v.oneCell' = true) :
 (Builtin.copy_ #[dT,sT] ty #[.slice (some ⟨b,o,none⟩) dLen dCap,.slice (some a) sLen sCap]).run P w = .ok (goInt (Nat.min sLen dLen)) (w.setCells b o cs) := by
 have hl := run_loadCells_list (P := P) w a cs hsrc
 have hst := run_storeCells_cells (P := P) b o cs 0 w (by simpa using hc) (by simpa using hf) h1
 cases hq : P.info? elem with
 | none => simp [hq] at hs
 | some i =>
   have hi : i.size = size := by simpa [hq] using hs
   simp [Builtin.copy_,run_underlying hu,Builtin.lenOf,Builtin.firstCells,sizeOf,typeInfo,hq,hi,<- hn,hl,hst]
theorem wpList_copy_run {P : Program} (w : World) {ops : Array Oper} {rest : List Oper} {o : Oper} {a : Act} {Q : Exit -> Act -> World -> Prop} (hgd : o.guard = none) (d s : Operand) (t t' : TypeId)
 (ho : o.op = .call { callee := .builtin .copy,args := #[d,s],argTypes := #[t,t'] }) (v u : Value) (hd : a.eval d = v) (hs : a.eval s = u) {v' : Value} {w' : World}
 (hr : (Builtin.copy_ #[t,t'] o.type #[v,u]).run P w = .ok v' w') (h : wpList P ops Q rest (a.put o.dst v') w') : wpList P ops Q (o :: rest) a w := by
 refine wpList_plain hgd fun K hK => ?_
 unfold Oper.wp
 simp [execOp,ho,resolve,invoke,builtin,hd,hs,hr,Result.andThen]
 exact hK _ _ h
theorem wpList_append_run {P : Program} (w : World) {ops : Array Oper} {rest : List Oper} {o : Oper} {a : Act} {Q : Exit -> Act -> World -> Prop} (hgd : o.guard = none) (d s : Operand) (t t' : TypeId)
 (ho : o.op = .call { callee := .builtin .append,args := #[d,s],argTypes := #[t,t'] }) (v u : Value) (hd : a.eval d = v) (hs : a.eval s = u) {v' : Value} {w' : World}
 (hr : (Builtin.append_ #[t,t'] o.type #[v,u]).run P w = .ok v' w') (h : wpList P ops Q rest (a.put o.dst v') w') : wpList P ops Q (o :: rest) a w := by
 refine wpList_plain hgd fun K hK => ?_
 unfold Oper.wp
 simp only [ho,execOp,resolve,invoke,builtin,Sem.run_bind,Sem.run_pure,Result.andThen_ok,List.map_toArray,List.map_cons,List.map_nil,hd,hs,hr]
 exact hK _ _ h
theorem step_copy_run {P : Program} {ops : Array Oper} {o : Oper} {a : Act} {w : World} {K : Act -> World -> Prop} {Q : Exit -> Act -> World -> Prop} {E : Prop}
 (hg : o.guard = none) (d x : Operand) (dT sT : TypeId) (hop : o.op = Op.call { callee := Callee.builtin Builtin.copy,args := #[d,x],argTypes := #[dT,sT] })
 (v u : Value) (hd : a.eval d = v) (hx : a.eval x = u) {v' : Value} {w' : World} (hr : (Builtin.copy_ #[dT,sT] o.type #[v,u]).run P w = .ok v' w') (hK : K (a.put o.dst v') w') :
 if Region.wanted o (yielded ops a.tmps) = true then Oper.wp P o a w K Q else E := by
 have hw : Region.wanted o (yielded ops a.tmps) = true := by simp [Region.wanted,hg]
 rw [if_pos hw]
 unfold Oper.wp
 simp [execOp,hop,resolve,invoke,builtin,hd,hx,hr,Result.andThen]
 exact hK
def Inserted (w : World) (b : Nat) (l : List Rw) (i : Nat) (x : Rw) (e : Ending) (w' : World) : Prop :=
 ∃ b' c',e = .returned (.slice (some ⟨b',0,none⟩) (l.length + 1) c') /\ Arr w' b' c' (l.take i ++ x :: l.drop i) /\ w.grownBy w' (some b) /\ (b' = b \/ w.heap.size <= b')
theorem overlaps_no (w : World) (vb b o lb cb : Nat) (t : TypeId) (cs : Array Value) (x : Rw) (hv : Blk w vb 52 #[.int .i64 x.key,.string x.val]) (hb : Blk w b t cs) (hcs : cs.size ≠ 0) (hne : vb ≠ b) :
 (callFunc 287 #[.slice (some ⟨vb,0,none⟩) 1 1,.slice (some ⟨b,o,none⟩) lb cb]).run Tryz.prog w = .ok (.value (.bool false)) w := by
 rw [run_callFunc_extern Tryz.func287 (by kernel_rfl) (by kernel_rfl) (by kernel_rfl) (e := Extern.SlicesOverlaps.overlaps #[53,53] #[4]) (by kernel_rfl),
  Lib.run_overlaps_apart w 53 4 52 Tryz.underlying53 2 (fun w => Tryz.sizeOf52 w) ⟨vb,0,none⟩ ⟨b,o,none⟩ 1 1 lb cb hne 52 t 2 cs.size (by unfold World.shape?; rw [show w.heap[vb]? = _ from hv]; rfl) (by unfold World.shape?; rw [show w.heap[b]? = _ from hb]) hcs (hv.frozen 0) (hv.frozen 2)]
 rfl
theorem insert_room (b c : Nat) (l : List Rw) (i n : Nat) (x : Rw) (vb : Nat) (w : World) (h : Arr w b c l) (hn : l.length = n) (hi : i < n) (hroom : n + 1 <= c) (hv : Blk w vb 52 #[.int .i64 x.key,.string x.val]) (hne : vb ≠ b) (hsz : n <= 1099511627776) :
 Calls Tryz.prog 254 #[.slice (some ⟨b,0,none⟩) n c,.int .i64 i,.slice (some ⟨vb,0,none⟩) 1 1] w (Inserted w b l i x) := by
 have hle := h.le
 obtain ⟨cur,hB,h2,h3,hcs,htake⟩ := h
 rw [hn] at h2 htake hle
 have hov : ∀ o lb cb,(callFunc 287 #[.slice (some ⟨vb,0,none⟩) 1 1,.slice (some ⟨b,o,none⟩) lb cb]).run Tryz.prog w = .ok (.value (.bool false)) w := fun o lb cb => overlaps_no w vb b o lb cb _ cur x hv hB (by omega) hne
 have hBd : Blk w.drew b 52 cur := hB
 have hsz2 : (Tryz.prog.info? 52).map (·.size) = some 2 := by obtain ⟨i0,_,hi0,_,hs4,_⟩ := er; rw [hi0]; simp [hs4]
 have hdl : (rv (l.drop i)).length = (n - i) * 2 := by rw [rv_length,List.length_drop,hn]
 have hin : ∀ j,j < c * 2 -> (w.drew.cell? ⟨b,j,none⟩).isSome = true := fun j hj => by rw [hBd.cell,Array.getElem?_eq_getElem (by omega)]; rfl
 have hcp1 : ∀ ty dc sc,(Builtin.copy_ #[53,53] ty #[.slice (some ⟨b,(i + 1) * 2,none⟩) (n - i) dc,.slice (some ⟨b,i * 2,none⟩) (n + 1 - i) sc]).run Tryz.prog w.drew = .ok (goInt ((n - i : Nat) : Int)) (w.drew.setCells b ((i + 1) * 2) (rv (l.drop i))) := fun ty dc sc => by
  have hm : Nat.min (n + 1 - i) (n - i) = n - i := Nat.min_eq_right (by omega)
  have := run_copy_wide (P := Tryz.prog) w.drew 53 53 ty 52 2 b ((i + 1) * 2) (n - i) dc ⟨b,i * 2,none⟩ (n + 1 - i) sc (rv (l.drop i)) Tryz.underlying53 hsz2 (by rw [hdl,hm])
   (fun j v hj => by
     have hjl : j < (n - i) * 2 := by rw [<- hdl]; exact (List.getElem?_eq_some_iff.1 hj).1
     rw [add_none,hBd.cell,<- Array.getElem?_toList]
     rw [<- rv_drop,List.getElem?_drop,<- htake,List.getElem?_take_of_lt (by omega)] at hj
     exact hj)
   (fun j hj => hin _ (by rw [hdl] at hj; omega)) (fun j hj => hBd.frozen _) (rv_one _)
  rw [hm] at this
  exact this
 obtain ⟨cs1,hB1,hz1,hl1⟩ := lay_cells (o := (i + 1) * 2) (vs := rv (l.drop i)) hBd (by rw [hdl]; omega)
 obtain ⟨W1,hW1⟩ : ∃ W1,W1 = w.drew.setCells b ((i + 1) * 2) (rv (l.drop i)) := ⟨_,rfl⟩
 rw [<- hW1] at hB1 hcp1
 have hg1 : w.grownBy W1 (some b) := by
  rw [hW1]
  have := setMany_grown b (rv (l.drop i)) ((i + 1) * 2) w.drew
  exact ⟨this.os,this.tape,this.output,this.size,this.block⟩
 have hv1 : Blk W1 vb 52 #[.int .i64 x.key,.string x.val] := hv.grown hg1 (by simpa using hne)
 have hcp2 : ∀ ty dc,(Builtin.copy_ #[53,53] ty #[.slice (some ⟨b,i * 2,none⟩) (n + 1 - i) dc,.slice (some ⟨vb,0,none⟩) 1 1]).run Tryz.prog W1 = .ok (goInt 1) (W1.setCells b (i * 2) (rcells x)) := fun ty dc => by
  have hm : Nat.min 1 (n + 1 - i) = 1 := Nat.min_eq_left (by omega)
  have := run_copy_wide (P := Tryz.prog) W1 53 53 ty 52 2 b (i * 2) (n + 1 - i) dc ⟨vb,0,none⟩ 1 1 (rcells x) Tryz.underlying53 hsz2 (by rw [hm]; rfl)
   (fun j v hj => by
     rw [add_none,hv1.cell,<- hj]
     show #[Value.int .i64 x.key,.string x.val][0 + j]? = _
     rw [Nat.zero_add,<- Array.getElem?_toList]
     rfl)
   (fun j hj => by
     have hj2 : j < 2 := hj
     rw [hB1.cell,Array.getElem?_eq_getElem (by omega)]; rfl) (fun j hj => hB1.frozen _) (by have := rv_one [x]; simpa [rv] using this)
  rw [hm] at this
  exact this
 obtain ⟨cs2,hB2,hz2,hl2⟩ := lay_cells (o := i * 2) (vs := rcells x) hB1 (by show i * 2 + 2 <= _; omega)
 have hg2 := setMany_grown b (rcells x) (i * 2) W1
 have HOWN : Hid (Arr (W1.setCells b (i * 2) (rcells x)) b c (l.take i ++ x :: l.drop i)) := by
  have hlen : (l.take i ++ x :: l.drop i).length = n + 1 := by rw [List.length_append,List.length_cons,List.length_take,List.length_drop]; omega
  refine ⟨cs2,hB2,by omega,h3,by omega,?_⟩
  have e0 : cur.toList.take (i * 2) = rv (l.take i) := by
   rw [<- rv_take,<- htake,List.take_take]
   congr 1
   omega
  have e1 : cs1.toList.take (i * 2) = rv (l.take i) := by
   rw [hl1,List.append_assoc,List.take_append_of_le_length (by rw [List.length_take,Array.length_toList]; omega),List.take_take,Nat.min_eq_left (by omega),e0]
  have e2 : cs1.toList.drop (i * 2 + (rcells x).length) = rv (l.drop i) ++ cur.toList.drop ((i + 1) * 2 + (n - i) * 2) := by
   have hcl : cur.toList.length = c * 2 := by rw [Array.length_toList]; exact hcs
   have hr : (rcells x).length = 2 := rfl
   rw [hl1,hdl,List.append_assoc,List.drop_append_of_le_length (by rw [List.length_take,hcl,hr]; omega)]
   rw [List.drop_of_length_le (by rw [List.length_take,hcl,hr]; omega),List.nil_append]
  have e3 : rv (l.take i) ++ rcells x ++ (rv (l.drop i) ++ cur.toList.drop ((i + 1) * 2 + (n - i) * 2)) = rv (l.take i ++ x :: l.drop i) ++ cur.toList.drop ((i + 1) * 2 + (n - i) * 2) := by rw [rv_append,rv_cons]; simp [rcells]
  rw [hlen,hl2,e1,e2,e3]
  exact List.take_left' (by rw [rv_length,hlen])
 have HGR := hid (only_trans hg1 hg2 (.inl rfl))
 have HN := hid hn
 have a1 : ((i : Int) == (n : Int)) = false := by rw [beq_eq_false_iff_ne]; omega
 have a2 : (n : Int) + 1 <= (c : Int) := by omega
 have a3 : ¬ (c : Int) < (n : Int) + 1 := by omega
 have a4 : (i : Int) + 1 <= (n : Int) + 1 := by omega
 have a5 : (i : Int) <= (n : Int) + 1 := by omega
 have a6 : ¬ c = i := by omega
 have a7 : ¬ c = i + 1 := by omega
 have a8 : ((i : Int) + 1).toNat = i + 1 := by omega
 have a9 : ((n : Int) + 1).toNat = n + 1 := by omega
 have a10 : (0 : Int) <= (i : Int) + 1 := by omega
 have a11 : (0 : Int) <= (n : Int) + 1 := by omega
 have a12 : n + 1 - (i + 1) = n - i := by omega
 have a13 : (i : Int) <= (n : Int) := by omega
 have a14 : i <= n := by omega
 have a15 : IntKind.i64.wrap ((i : Int) + 1) = (i : Int) + 1 := by rw [IntKind.wrap_i64]; omega
 clear hg1 hg2 hl1 hl2 hB1 hB2 hW1 hz1 hz2 hdl hB hBd htake hcs h3 hv1 hin hv
 generalize W1.setCells b (i * 2) (rcells x) = W2 at *
 go_enter Tryz.func254,Tryz.ntmps254
 go_wp2_with (simp only [hov])
 go_region_law (refine step_copy_run rfl _ _ 53 53 rfl _ _ (by simp [Act.eval,Act.put]) (by simp [Act.eval,Act.put]) (hcp1 _ _ _) ?_)
 go_wp2_with (at_builtin; refine wpList_copy_run _ rfl _ _ 53 53 rfl _ _ rfl rfl (hcp2 _ _) ?_)
 go_ret
 exact ⟨b,c,by rw [HN.out]; rfl,HOWN.out,HGR.out,.inl rfl⟩
theorem insert_grow (b c : Nat) (l : List Rw) (i n : Nat) (x : Rw) (vb : Nat) (w : World) (h : Arr w b c l) (hn : l.length = n) (hi : i < n) (hroom : c < n + 1) (hv : Blk w vb 52 #[.int .i64 x.key,.string x.val]) (hsz : n <= 1099511627776) :
 Calls Tryz.prog 254 #[.slice (some ⟨b,0,none⟩) n c,.int .i64 i,.slice (some ⟨vb,0,none⟩) 1 1] w (Inserted w b l i x) := by
 have hle := h.le
 have hbl := h.lt
 have hA := h
 obtain ⟨cur,hB,h2,h3,hcs,htake⟩ := h
 rw [hn] at h2 htake hle
 have hBd : Blk w.drew b 52 cur := hB
 obtain ⟨i0,t22,hi0,hz,hs4,hby,_,_⟩ := er
 have hsz2 : (Tryz.prog.info? 52).map (·.size) = some 2 := by rw [hi0]; simp [hs4]
 have hdl : (rv (l.drop i)).length = (n - i) * 2 := by rw [rv_length,List.length_drop,hn]
 have htl : (rv (l.take i)).length = i * 2 := by rw [rv_length,List.length_take]; omega
 have hold : (Builtin.firstCells i0.size i (.slice (some ⟨b,0,none⟩) i c)).run Tryz.prog w.drew = .ok (rv (l.take i)).toArray w.drew := by
  rw [hs4]
  refine run_firstCells_some w.drew 2 i ⟨b,0,none⟩ i c (rv (l.take i)) htl (fun j v hj => ?_)
  have hjl : j < i * 2 := by rw [<- htl]; exact (List.getElem?_eq_some_iff.1 hj).1
  rw [add_none,hBd.cell,Nat.zero_add,<- Array.getElem?_toList]
  rw [<- rv_take,<- htake,List.take_take,List.getElem?_take_of_lt (by omega)] at hj
  exact hj
 obtain ⟨G,hG⟩ : ∃ G,G = grownCap w (n + 1) c 52 := ⟨_,rfl⟩
 have hGn : n + 1 <= G := by rw [hG]; exact grownCap_ge w _ _ _
 have hGm : G <= maxLen := by rw [hG]; exact grownCap_le_maxLen w (n + 1) c _ (by unfold maxLen; omega)
 have hG63 : G <= 9223372036854775807 := by unfold maxLen at hGm; omega
 obtain ⟨ROW,hROW⟩ : ∃ ROW : Array Value,ROW = (rv (l.take i)).toArray ++ Builtin.zeroCells (Value.agg zrow).cells (n + 1 - i) ++ Builtin.zeroCells (Value.agg zrow).cells (G - (n + 1)) := ⟨_,rfl⟩
 have hrz : ∀ ty,(Builtin.append_ #[53,3] ty #[.slice (some ⟨b,0,none⟩) i c,.int .i64 ((n : Int) + 1 - (i : Int))]).run Tryz.prog w = .ok (.slice (some ⟨w.heap.size,0,none⟩) (n + 1) G) (w.drew.alloc (.cells ROW 52)) := fun ty => by
  have h := Lib.run_append_grow_zeros w 53 3 ty 52 i0 (Value.agg zrow) .i64 .i64 t22 Tryz.underlying3 hi0 hz (some ⟨b,0,none⟩) i c (rv (l.take i)) hold (n + 1 - i) (by omega) (by omega) (by omega) (by omega) (by rw [hby]; omega) (by rw [hby,show i + (n + 1 - i) = n + 1 by omega]; exact growslice_fits hroom (by omega))
  rw [show i + (n + 1 - i) = n + 1 by omega,<- hG,<- hROW] at h
  rw [show (n : Int) + 1 - (i : Int) = ((n + 1 - i : Nat) : Int) by omega]
  exact h
 have hRl : ROW.toList = rv (l.take i) ++ rv (List.replicate (n + 1 - i) noRw) ++ rv (List.replicate (G - (n + 1)) noRw) := by
  rw [hROW,Array.toList_append,Array.toList_append,zero_rows,zero_rows]
 have hRs : ROW.size = G * 2 := by
  rw [<- Array.length_toList,hRl,List.length_append,List.length_append,htl,rv_length,rv_length,List.length_replicate,List.length_replicate]
  omega
 obtain ⟨g,hg⟩ : ∃ g,g = w.heap.size := ⟨_,rfl⟩
 obtain ⟨W1,hW1⟩ : ∃ W1,W1 = w.drew.alloc (.cells ROW 52) := ⟨_,rfl⟩
 rw [<- hW1,<- hg] at hrz
 have hB1 : Blk W1 g 52 ROW := by rw [hW1,hg]; exact Blk.new w.drew _ _
 have hg1 : w.grownBy W1 none := by rw [hW1]; exact only_alloc (only_drewN (World.grownBy.refl w none) 1) _
 have hv1 : Blk W1 vb 52 #[.int .i64 x.key,.string x.val] := hv.grown hg1 (by simp)
 have hcp1 : ∀ ty dc,(Builtin.copy_ #[53,53] ty #[.slice (some ⟨g,i * 2,none⟩) (n + 1 - i) dc,.slice (some ⟨vb,0,none⟩) 1 1]).run Tryz.prog W1 = .ok (goInt 1) (W1.setCells g (i * 2) (rcells x)) := fun ty dc => by
  have hm : Nat.min 1 (n + 1 - i) = 1 := Nat.min_eq_left (by omega)
  have := run_copy_wide (P := Tryz.prog) W1 53 53 ty 52 2 g (i * 2) (n + 1 - i) dc ⟨vb,0,none⟩ 1 1 (rcells x) Tryz.underlying53 hsz2 (by rw [hm]; rfl)
   (fun j v hj => by
     rw [add_none,hv1.cell,<- hj]
     show #[Value.int .i64 x.key,.string x.val][0 + j]? = _
     rw [Nat.zero_add,<- Array.getElem?_toList]
     rfl)
   (fun j hj => by
     have hj2 : j < 2 := hj
     rw [hB1.cell,Array.getElem?_eq_getElem (by omega)]; rfl) (fun j hj => hB1.frozen _) (by have := rv_one [x]; simpa [rv] using this)
  rw [hm] at this
  exact this
 obtain ⟨cs2,hB2,hz2,hl2⟩ := lay_cells (o := i * 2) (vs := rcells x) hB1 (by show i * 2 + 2 <= _; omega)
 have hg2 := setMany_grown g (rcells x) (i * 2) W1
 obtain ⟨W2,hW2⟩ : ∃ W2,W2 = W1.setCells g (i * 2) (rcells x) := ⟨_,rfl⟩
 rw [<- hW2] at hcp1 hB2 hg2
 have hgw2 : w.grownBy W2 (some b) := only_trans (only_of_below ⟨hg1.os,hg1.tape,hg1.output,hg1.size,fun k hk => hg1.block k hk (by simp)⟩ _) hg2 (.inr fun k hk => by injection hk; omega)
 have hBs2 : ∀ k,k < w.heap.size -> W2.heap[k]? = w.heap[k]? := fun k hk => (hg2.block k (Nat.lt_of_lt_of_le hk hg1.size) (by intro e; injection e; omega)).trans (hg1.block k hk (by simp))
 have hsrc2 : Blk W2.drew b 52 cur := (hBs2 b hbl).trans hB
 have hB2d : Blk W2.drew g 52 cs2 := hB2
 have hcp2 : ∀ ty dc sc,(Builtin.copy_ #[53,53] ty #[.slice (some ⟨g,(i + 1) * 2,none⟩) (n - i) dc,.slice (some ⟨b,i * 2,none⟩) (n - i) sc]).run Tryz.prog W2.drew = .ok (goInt ((n - i : Nat) : Int)) (W2.drew.setCells g ((i + 1) * 2) (rv (l.drop i))) := fun ty dc sc => by
  have hm : Nat.min (n - i) (n - i) = n - i := Nat.min_self _
  have := run_copy_wide (P := Tryz.prog) W2.drew 53 53 ty 52 2 g ((i + 1) * 2) (n - i) dc ⟨b,i * 2,none⟩ (n - i) sc (rv (l.drop i)) Tryz.underlying53 hsz2 (by rw [hdl,hm])
   (fun j v hj => by
     have hjl : j < (n - i) * 2 := by rw [<- hdl]; exact (List.getElem?_eq_some_iff.1 hj).1
     rw [add_none,hsrc2.cell,<- Array.getElem?_toList]
     rw [<- rv_drop,List.getElem?_drop,<- htake,List.getElem?_take_of_lt (by omega)] at hj
     exact hj)
   (fun j hj => by
     rw [hdl] at hj
     rw [hB2d.cell,Array.getElem?_eq_getElem (by omega)]; rfl) (fun j hj => hB2d.frozen _) (rv_one _)
  rw [hm] at this
  exact this
 obtain ⟨cs3,hB3,hz3,hl3⟩ := lay_cells (o := (i + 1) * 2) (vs := rv (l.drop i)) hB2d (by rw [hdl]; omega)
 have hg3 := setMany_grown g (rv (l.drop i)) ((i + 1) * 2) W2.drew
 have hlen : (l.take i ++ x :: l.drop i).length = n + 1 := by rw [List.length_append,List.length_cons,List.length_take,List.length_drop]; omega
 have HOWN : Hid (Arr (W2.drew.setCells g ((i + 1) * 2) (rv (l.drop i))) g G (l.take i ++ x :: l.drop i)) := by
  refine ⟨cs3,hB3,by omega,hGm,by omega,?_⟩
  have hr : (rcells x).length = 2 := rfl
  have e1 : ROW.toList.take (i * 2) = rv (l.take i) := by
   rw [hRl,List.append_assoc]
   exact List.take_left' htl
  have e2 : cs2.toList.take ((i + 1) * 2) = rv (l.take i) ++ rcells x := by
   rw [hl2,e1]
   exact List.take_left' (by rw [List.length_append,htl,hr]; omega)
  have e3 : rv (l.take i) ++ rcells x ++ rv (l.drop i) = rv (l.take i ++ x :: l.drop i) := by rw [rv_append,rv_cons]; simp [rcells]
  rw [hlen,hl3,e2,e3]
  exact List.take_left' (by rw [rv_length,hlen])
 have HGR : Hid (w.grownBy (W2.drew.setCells g ((i + 1) * 2) (rv (l.drop i))) (some b)) := only_trans (only_drewN hgw2 1) hg3 (.inr fun k hk => by injection hk; omega)
 have HN := hid hn
 have HGG := hid (show w.heap.size <= g by omega)
 have a1 : ((i : Int) == (n : Int)) = false := by rw [beq_eq_false_iff_ne]; omega
 have a3 : (c : Int) < (n : Int) + 1 := by omega
 have a4 : (i : Int) + 1 <= (n : Int) + 1 := by omega
 have a5 : (i : Int) <= (n : Int) + 1 := by omega
 have a6 : ¬ c = i := by omega
 have a7 : ¬ G = i + 1 := by omega
 have a16 : ¬ G = i := by omega
 have a8 : ((i : Int) + 1).toNat = i + 1 := by omega
 have a10 : (0 : Int) <= (i : Int) + 1 := by omega
 have a12 : n + 1 - (i + 1) = n - i := by omega
 have a13 : (i : Int) <= (n : Int) := by omega
 have a14 : i <= n := by omega
 have a15 : IntKind.i64.wrap ((i : Int) + 1) = (i : Int) + 1 := by rw [IntKind.wrap_i64]; omega
 have a17 : i <= c := by omega
 clear hg hg1 hg2 hg3 hl2 hl3 hB1 hB2 hB3 hB2d hW1 hW2 hz2 hz3 hdl htl hB hBd htake hcs h3 hv1 hv hRl hRs hROW hG hGm hold hgw2 hBs2 hsrc2 hbl hA hlen
 generalize W2.drew.setCells g ((i + 1) * 2) (rv (l.drop i)) = W3 at *
 go_enter Tryz.func254,Tryz.ntmps254
 go_wp2_with (first | (at_builtin; refine wpList_append_run _ rfl _ _ 53 3 rfl _ _ rfl rfl (hrz _) ?_) | (at_builtin; refine wpList_copy_run _ rfl _ _ 53 53 rfl _ _ rfl rfl (hcp1 _ _) ?_) | fail)
 go_region_law (refine step_copy_run rfl _ _ 53 53 rfl _ _ (by simp [Act.eval,Act.put]) (by simp [Act.eval,Act.put]) (hcp2 _ _ _) ?_)
 go_wp2
 go_ret
 exact ⟨g,G,by rw [HN.out]; rfl,HOWN.out,HGR.out,.inr HGG.out⟩
end Idx
namespace Idx
open Go.RowKit Base IdxMath Foot
open Go.Sort (grow)
theorem clone_any (B : Nat) (A : Option Addr) (n c : Nat) (l : List Rw) (w : World) (hr : Rs w B A n c l) (hB : B <= w.heap.size) (hsz : n <= 1099511627776) :
 Calls Tryz.prog 127 #[.slice A n c] w (NewRows w l) := by
 have hnil : ∀ w,(binOp .eql 53 (.slice A n c) (.slice none 0 0)).run Tryz.prog w = .ok (.bool A.isNone) w := fun w => Lib.run_eql_slice_nil (P := Tryz.prog) w 53 52 A n c 0 0 Tryz.underlying53
 have hlen := hr.len
 have HL := hid hlen
 clear hlen
 cases A with
 | none =>
   have h0 : n = 0 := by
    rcases Nat.eq_zero_or_pos n with h0 | h0
    ·exact h0
    ·obtain ⟨b,off,h,_⟩ := hr.2.2.2 h0
     cases h
   subst h0
   obtain rfl : l = [] := List.eq_nil_of_length_eq_zero hr.len
   clear hr
   go_enter Tryz.func127,Tryz.ntmps127
   go_wp2
   go_ret
   exact ⟨none,0,rfl,World.ownsRow_nil _ _ _ _,Below.refl _ _⟩
 | some a =>
   have HR := hid hr
   clear hr
   go_enter Tryz.func127,Tryz.ntmps127
   go_wp2_with (first
    | (at_builtin
       refine wpList_append_row rfl (.tmp 5) (.tmp 6) rfl er w.heap.size _ 0 [] rfl (own_empty _ _ _ _ rfl (Nat.le_refl _)) B (some a) n c (rv l) rfl (Row.alloc HR.out hB _) (rv_one _) (by omega) (by omega) (by simp) ?_
       intro A1 c1 w1 hown1 _ hb1
       rw [Nat.zero_add,List.nil_append] at hown1
       rw [Nat.zero_add]
       have HY1 := hid hown1
       have HB1 := hid (((Below.refl w.heap.size w).alloc (Nat.le_refl _) _).trans hb1)
       clear hown1 hb1)
    | fail)
   go_ret
   exact ⟨A1,c1,by rw [HL.out]; rfl,by rw [HL.out]; exact HY1.out,HB1.out⟩
theorem own_arr {w : World} {A : Option Addr} {n c : Nat} {l : List Rw} (h : w.ownsRow 0 52 2 (.slice A n c) n (rv l)) (hl : l.length = n) (h0 : 0 < n) : ∃ b,A = some ⟨b,0,none⟩ /\ Arr w b c l := by
 rcases h.2 with ⟨hv,h1⟩ | ⟨g,cap,cur,hv,hb,hg,h1,h2,h3,h4⟩
 ·omega
 ·simp only [Value.slice.injEq] at hv
  obtain ⟨rfl,_,rfl⟩ := hv
  exact ⟨g,rfl,cur,hg,by omega,h2,h3,by rw [hl]; exact h4⟩
theorem insert_any (A : Option Addr) (n c : Nat) (l : List Rw) (i : Nat) (x : Rw) (vb : Nat) (w : World) (h : w.ownsRow 0 52 2 (.slice A n c) n (rv l)) (hl : l.length = n) (hi : i <= n) (hv : Blk w vb 52 #[.int .i64 x.key,.string x.val]) (hne : (Value.slice A n c).ownBlock ≠ some vb) (hsz : n <= 1099511627775) :
 Calls Tryz.prog 254 #[.slice A n c,.int .i64 i,.slice (some ⟨vb,0,none⟩) 1 1] w fun e w' => ∃ A' c',e = .returned (.slice A' (n + 1) c') /\ w'.ownsRow 0 52 2 (.slice A' (n + 1) c') (n + 1) (rv (l.take i ++ x :: l.drop i)) /\ Grew w (Value.slice A n c).ownBlock w' (.slice A' (n + 1) c') := by
 rcases Nat.lt_or_ge i n with hlt | hge
 ·obtain ⟨b,rfl,ha⟩ := own_arr h hl (by omega)
  have hlen : (l.take i ++ x :: l.drop i).length = n + 1 := by rw [List.length_append,List.length_cons,List.length_take,List.length_drop]; omega
  have fin : ∀ e w',Inserted w b l i x e w' -> ∃ A' c',e = .returned (.slice A' (n + 1) c') /\ w'.ownsRow 0 52 2 (.slice A' (n + 1) c') (n + 1) (rv (l.take i ++ x :: l.drop i)) /\ Grew w (some b) w' (.slice A' (n + 1) c') := by
   rintro e w' ⟨b',c',rfl,h1,h2,h3⟩
   refine ⟨some ⟨b',0,none⟩,c',by rw [hl],?_,h2,?_⟩
   ·have := h1.own (base := 0) (Nat.zero_le _)
    rw [hlen] at this
    exact this
   ·rcases h3 with rfl | h3
    ·exact .inl rfl
    ·exact .inr fun g hg => by injection hg with hg; subst hg; exact h3
  rcases Nat.lt_or_ge c (n + 1) with hc | hc
  ·exact (insert_grow b c l i n x vb w ha hl hlt hc hv (by omega)).mono fin
  ·exact (insert_room b c l i n x vb w ha hl hlt hc hv (fun e => hne (by rw [e]; rfl)) (by omega)).mono fin
 ·obtain rfl : i = n := by omega
  have HO := hid h
  have HV : Hid (Row w (vb + 1) 2 (some ⟨vb,0,none⟩) 1 1 (rv [x])) := ⟨rfl,Nat.le_refl _,by omega,fun _ => ⟨vb,0,rfl,by omega,fun j u hu => by
   rw [hv.cell,Nat.zero_add,<- Array.getElem?_toList]
   exact hu⟩⟩
  have HE := hid (show l.take i ++ x :: l.drop i = l ++ [x] by rw [<- hl,List.take_length,List.drop_length])
  have hle : i <= c := by
   rcases h.2 with ⟨hv,h1⟩ | ⟨g,cap,cur,hv,hb,hg,h1,h2,h3,h4⟩
   ·omega
   ·simp only [Value.slice.injEq] at hv
    omega
  have hcm : c <= 9223372036854775807 := by
   rcases h.2 with ⟨hv,h1⟩ | ⟨g,cap,cur,hv,hb,hg,h1,h2,h3,h4⟩
   ·simp only [Value.slice.injEq] at hv; omega
   ·simp only [Value.slice.injEq] at hv
    unfold maxLen at h2
    omega
  clear h hv hne
  by_cases hci : c = i
  ·subst hci
   go_enter Tryz.func254,Tryz.ntmps254
   go_wp2_with (first
    | (at_builtin
       refine wpList_append_row rfl (.tmp 23) (.tmp 24) rfl er 0 _ c (rv l) rfl HO.out (vb + 1) (some ⟨vb,0,none⟩) 1 1 (rv [x]) rfl HV.out (rv_one _) (by omega) (by omega) (Nat.zero_le _) ?_
       intro A1 c1 w1 hown1 hgr1 _
       rw [<- rv_append,<- HE.out] at hown1
       have HY1 := hid hown1
       have HG1 := hid hgr1
       clear hown1 hgr1)
    | fail)
   go_ret
   exact ⟨A1,c1,rfl,HY1.out,HG1.out⟩
  ·go_enter Tryz.func254,Tryz.ntmps254
   go_wp2_with (first
    | (at_builtin
       refine wpList_append_row rfl (.tmp 23) (.tmp 24) rfl er 0 _ i (rv l) rfl HO.out (vb + 1) (some ⟨vb,0,none⟩) 1 1 (rv [x]) rfl HV.out (rv_one _) (by omega) (by omega) (Nat.zero_le _) ?_
       intro A1 c1 w1 hown1 hgr1 _
       rw [<- rv_append,<- HE.out] at hown1
       have HY1 := hid hown1
       have HG1 := hid hgr1
       clear hown1 hgr1)
    | fail)
   go_ret
   exact ⟨A1,c1,rfl,HY1.out,HG1.out⟩
end Idx
end Go.Proofs.YtefnmnpfecfdaaaGreat
