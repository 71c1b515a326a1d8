/-
  Texts of one proof: ImgRead, ImgRead2, SrcImg.
-/
import Derived.Test.YtefnmnpfecfdaaaGreatPf37
set_option linter.all false
set_option maxRecDepth 100000
set_option maxHeartbeats 3200000
open Go.Lib (hid)
namespace Go.Proofs.YtefnmnpfecfdaaaGreat
namespace Img
open Go.RowKit Base FieldMath TxnMath
open ImgMath
open IdxMath (Rw)
open Idx (rv rv_append rv_one er)
open Txn (Rd St cnumber2_any ctext2_any upTo_any)
def rz : Array Value := #[.int .i64 0,.string ⟨#[]⟩]
def rowV (x : Rw) : Value := .agg #[.int .i64 x.key,.string x.val]
abbrev RwSt := St 322 52 rz
theorem row_any (B g : Nat) (s : Rst) (w : World) (h : Rd w B g s) :
 Calls Tryz.prog 303 #[.agg #[.pointer (some ⟨g,0,none⟩)]] w fun e w' => e = .returned (rowV (rdR none s).1) /\ Rd w' B g (rdR none s).2 /\ w.grownBy w' (some g) := by
 obtain ⟨a,ha⟩ : ∃ a,a = rdN none s := ⟨_,rfl⟩
 obtain ⟨b,hb⟩ : ∃ b,b = rdT a.2 := ⟨_,rfl⟩
 have HE : Hid (rdR none s = (⟨a.1,b.1⟩,b.2)) := by
  show _ = _
  rw [hb,ha]
  rfl
 have HA := hid ha
 have HBB := hid hb
 have HR := hid h
 have hlt := h.lt
 clear h ha hb
 go_enter Tryz.func303,Tryz.ntmps303
 go_wp2_with fail
 have HT0 : Hid (RwSt w B g s rz (((w.alloc (.cells #[.pointer (some ⟨g,0,none⟩)] 322)).alloc (.cells rz 52)).alloc (.cells rz 52))) := St.start HR.out
 refine (cnumber2_any B g s _ HT0.out.1).mono ?_
 rintro e w1 ⟨he1,hr1,hg1⟩
 rw [<- HA.out] at he1 hr1
 subst he1
 have HT1 := hid (HT0.out.call hlt hr1 hg1)
 have k1 : w1.cell? ⟨w.heap.size + 2,0,none⟩ = some (.int .i64 0) := HT1.out.2.1.cell 0
 have f1 := HT1.out.2.1.frozen 0
 have c1 := HT1.out.recv
 clear hr1 hg1 HT0
 go_wp2_with fail
 have HS1 := hid (HT1.out.store hlt 0 (.int .i64 a.1))
 refine (ctext2_any B g a.2 _ HS1.out.1).mono ?_
 rintro e w4 ⟨he4,hr4,hg4⟩
 rw [<- HBB.out] at he4 hr4
 subst he4
 have HT4 : Hid (RwSt w B g b.2 #[.int .i64 a.1,.string ⟨#[]⟩] w4) := HS1.out.call hlt hr4 hg4
 have hx4 := HT4.out.2.1
 have hy4 : Blk w4 (w.heap.size + 1) 52 #[.int .i64 0,.string ⟨#[]⟩] := HT4.out.2.2.1
 have p0 : w4.cell? ⟨w.heap.size + 2,0,none⟩ = some (.int .i64 a.1) := hx4.cell 0
 have p1 : w4.cell? ⟨w.heap.size + 2,1,none⟩ = some (.string ⟨#[]⟩) := hx4.cell 1
 have q0 : w4.cell? ⟨w.heap.size + 1,0,none⟩ = some (.int .i64 0) := hy4.cell 0
 have q1 : w4.cell? ⟨w.heap.size + 1,1,none⟩ = some (.string ⟨#[]⟩) := hy4.cell 1
 have e1 := hx4.frozen 1
 have r0 := hy4.frozen 0
 have r1 := hy4.frozen 1
 clear hr4 hg4 k1 f1 c1 HT1 HS1 hx4 hy4
 have HR4 := hid HT4.out.1
 have HT5 := hid HT4.out.2.2.2.1
 have hlt2 : g < w.heap.size + 1 := by omega
 have hlt3 : g < w.heap.size + 2 := by omega
 clear HT4
 go_wp2
 rw [HE.out]
 refine bodyPost_ret (v := rowV ⟨a.1,b.1⟩) (by simp [rowV,results,Tryz.results303,go_sem,q0,q1]) rfl ⟨rfl,?_,?_⟩
 ·exact ((HR4.out.far (by exact hlt3) _).far (by exact hlt2) _).far (by exact hlt2) _
 ·exact only_setCell (only_setCell (only_setCell HT5.out (.inr (by show w.heap.size <= w.heap.size + 2; omega)) _) (.inr (by simp)) _) (.inr (by simp)) _
theorem rdRs_step {hk : Option Int} {N k : Nat} {pre : List Rw} {s0 s : Rst} (h : rdRs hk false N s0 = (pre ++ (rdRs hk false (N - k) s).1,(rdRs hk false (N - k) s).2)) (hlt : k < N) :
 rdRs hk false N s0 = (pre ++ [(rdR hk s).1] ++ (rdRs hk false (N - (k + 1)) (rdR hk s).2).1,(rdRs hk false (N - (k + 1)) (rdR hk s).2).2) := by
 obtain ⟨m,hm⟩ : ∃ m,N - k = m + 1 := ⟨N - k - 1,by omega⟩
 rw [h,hm,show N - (k + 1) = m by omega,rdRs,if_neg (by simp)]
 simp
theorem rdTabs_step {hk : Option Int} {N k : Nat} {pre : List (List Rw)} {s0 s : Rst} (h : rdTabs hk false N s0 = (pre ++ (rdTabs hk false (N - k) s).1,(rdTabs hk false (N - k) s).2)) (hlt : k < N) :
 rdTabs hk false N s0 = (pre ++ [(rdTab hk false s).1] ++ (rdTabs hk false (N - (k + 1)) (rdTab hk false s).2).1,(rdTabs hk false (N - (k + 1)) (rdTab hk false s).2).2) := by
 obtain ⟨m,hm⟩ : ∃ m,N - k = m + 1 := ⟨N - k - 1,by omega⟩
 rw [h,hm,show N - (k + 1) = m by omega,rdTabs,if_neg (by simp)]
 simp
theorem rdN_range {m : Int} (hm : 0 <= m) (s : Rst) : 0 <= (rdN (some m) s).1 /\ (rdN (some m) s).1 <= m := by
 unfold rdN
 match s with
 | none => exact ⟨Int.le_refl _,hm⟩
 | some [] => exact ⟨Int.le_refl _,hm⟩
 | some (f :: r) =>
   dsimp only
   by_cases h : f.kind = 1 /\ fits (some m) f.n = true
   ·rw [if_pos h]
    have := h.2
    unfold fits at this
    simp only [Bool.and_eq_true,decide_eq_true_eq] at this
    exact this
   ·rw [if_neg h]
    exact ⟨Int.le_refl _,hm⟩
theorem one_row (w : World) (x : Rw) {s : Nat} (hs : s = w.heap.size) : Row (w.alloc (.cells #[.int .i64 x.key,.string x.val] 52)) (w.heap.size + 1) 2 (some ⟨s,0,none⟩) 1 1 (rv [x]) :=
 Row.lit w #[.int .i64 x.key,.string x.val] 52 (0,0) hs rfl (by omega)
def ImSt (w : World) (B g : Nat) (s : Rst) (wr : World) : Prop := Rd wr B g s /\ Blk wr w.heap.size 322 #[.pointer (some ⟨g,0,none⟩)] /\ w.grownBy wr (some g)
section
variable {w wr w1 : World} {B g : Nat} {s s' : Rst}
theorem ImSt.start (h : Rd w B g s) : ImSt w B g s (w.alloc (.cells #[.pointer (some ⟨g,0,none⟩)] 322)) := ⟨h.alloc _,Blk.new _ _ _,only_alloc (World.grownBy.refl w (some g)) _⟩
theorem ImSt.call (h : ImSt w B g s wr) (hlt : g < w.heap.size) (hr : Rd w1 B g s') (hg : wr.grownBy w1 (some g)) : ImSt w B g s' w1 := ⟨hr,Txn.Blk.kept h.2.1 hg (by omega),only_trans h.2.2 hg (.inl rfl)⟩
theorem ImSt.below (h : ImSt w B g s wr) (hlt : g < w.heap.size) (hb : Below (w.heap.size + 1) wr w1) : ImSt w B g s w1 := by
 obtain ⟨⟨A,n,c,l,x,h1,h2,h3,h4⟩,hp,ho⟩ := h
 exact ⟨⟨A,n,c,l,x,h1.below hb (by omega),h2.below (hb.mono (by omega)),h3,h4⟩,hp.below hb (by omega),
  ⟨hb.os.trans ho.os,hb.tape.trans ho.tape,hb.output.trans ho.output,Nat.le_trans ho.size hb.size,fun i hi hne => (hb.block i (by omega)).trans (ho.block i hi hne)⟩⟩
theorem ImSt.alloc (h : ImSt w B g s wr) (o : Obj) : ImSt w B g s (wr.alloc o) := ⟨h.1.alloc o,h.2.1.alloc o,only_alloc h.2.2 o⟩
theorem ImSt.recv (h : ImSt w B g s wr) : wr.cell? ⟨w.heap.size,0,none⟩ = some (.pointer (some ⟨g,0,none⟩)) := h.2.1.cell 0
end
theorem own_off {wr w1 : World} {g n base : Nat} {e : TypeId} {size : Nat} {v : Value} {xs : List Value} (h : wr.ownsRow base e size v n xs) (hlt : g < base) (hg : wr.grownBy w1 (some g)) : w1.ownsRow base e size v n xs :=
 h.kept hg (.inr fun e => by have := (h.lt g e).1; omega)
def TaRel (w : World) (B g N : Nat) (s0 : Rst) (vl vi : Value) (wr : World) : Prop :=
 ∃ (k : Nat) (pre : List Rw) (s : Rst) (A : Option Addr) (c : Nat),k <= N /\ vi = .int .i64 k /\ vl = .slice A k c /\ rdRs none false N s0 = (pre ++ (rdRs none false (N - k) s).1,(rdRs none false (N - k) s).2) /\
   wr.ownsRow (w.heap.size + 1) 52 2 (.slice A k c) k (rv pre) /\ ImSt w B g s wr
def ReadTab (w : World) (B g : Nat) (q : List Rw × Rst) (e : Ending) (w' : World) : Prop :=
 ∃ A n c,e = .returned (.slice A n c) /\ w'.ownsRow w.heap.size 52 2 (.slice A n c) n (rv q.1) /\ Rd w' B g q.2 /\ w.grownBy w' (some g)
theorem table_any (B g : Nat) (s : Rst) (w : World) (h : Rd w B g s) :
 Calls Tryz.prog 286 #[.agg #[.pointer (some ⟨g,0,none⟩)]] w (ReadTab w B g (rdTab none false s)) := by
 obtain ⟨n,hn⟩ : ∃ n,n = rdN (some 1000) s := ⟨_,rfl⟩
 have hn2 := rdN_range (show (0 : Int) <= 1000 by omega) s
 rw [<- hn] at hn2
 obtain ⟨N,hN⟩ : ∃ N : Nat,n.1 = N := ⟨n.1.toNat,by omega⟩
 rw [hN] at hn2
 obtain ⟨d,hd⟩ : ∃ d,d = rdRs none false N n.2 := ⟨_,rfl⟩
 have HE : Hid (rdTab none false s = d) := by
  show _ = _
  rw [hd,<- Int.toNat_natCast N,<- hN,hn]
  rfl
 have HNN := hid hn
 have HN := hid hN
 have HD := hid hd
 have HR := hid h
 have hlt := h.lt
 clear h hn hN hd
 go_enter Tryz.func286,Tryz.ntmps286
 go_wp2_with fail
 have HT0 : Hid (ImSt w B g s (w.alloc (.cells #[.pointer (some ⟨g,0,none⟩)] 322))) := ImSt.start HR.out
 refine (upTo_any B g s 1000 _ HT0.out.1 (by omega)).mono ?_
 rintro e w1 ⟨he1,hr1,hg1⟩
 rw [show ((1000 : Nat) : Int) = 1000 from rfl,<- HNN.out,HN.out] at he1
 rw [show ((1000 : Nat) : Int) = 1000 from rfl,<- HNN.out] at hr1
 subst he1
 have HT1 := hid (HT0.out.call hlt hr1 hg1)
 clear hr1 hg1 HT0
 go_wp2
 go_loopw [3,7] (fun vl vi wr => TaRel w B g N n.2 vl vi wr) (fun _ vi _ => N - (RowKit.intOf vi).toNat)
 case atStart => exact ⟨0,[],n.2,none,0,by omega,rfl,rfl,rfl,World.ownsRow_nil _ _ _ _,HT1.out⟩
 case round =>
  obtain ⟨k,pre,s1,A,cp,hk,rfl,rfl,hrd,hown,hst⟩ := hrel
  have c1 := hst.recv
  have HRD := hid hrd
  have HO := hid hown
  have HT := hid hst
  clear hrd hown hst HT1
  by_cases hlk : k < N
  ·have HST := hid (rdRs_step HRD.out hlk)
   have l1 : (k : Int) < (N : Int) := by omega
   go_wp2_with fail
   refine (row_any B g s1 _ HT.out.1).mono ?_
   rintro e w5 ⟨rfl,hr5,hg5⟩
   have HT5 := hid (HT.out.call hlt hr5 hg5)
   have HO5 := hid (own_off HO.out (by omega) hg5)
   obtain ⟨f,hf⟩ : ∃ f,f = (rdR none s1).1 := ⟨_,rfl⟩
   rw [<- hf] at HST ⊢
   unfold rowV
   clear hf hr5 hg5
   have hz5 := HT5.out.2.1.lt
   go_wp2_with (first
    | (at_builtin
       refine wpList_append_row rfl (.tmp 9) (.tmp 12) rfl er (w.heap.size + 1) (.slice A k cp) k (rv pre) rfl (own_keep HO5.out ((Below.refl _ _).alloc (Nat.le_refl _) _)) (w5.heap.size + 1) (some ⟨w5.heap.size,0,none⟩) 1 1 (rv [f]) rfl (one_row w5 f rfl) (rv_one _) (by omega) (by omega) (by simp; omega) ?_
       intro A6 c6 w6 hown6 _ hb6
       rw [<- rv_append] at hown6
       have HO6 := hid hown6
       have HT6 := hid ((HT5.out.alloc (.cells #[.int .i64 f.key,.string f.val] 52)).below hlt hb6)
       clear hown6 hb6)
    | fail)
   go_roundw
   case rel => exact ⟨k + 1,pre ++ [f],(rdR none s1).2,A6,c6,by omega,by go_num,rfl,HST.out,HO6.out,HT6.out⟩
   case measure => simp [RowKit.intOf]; omega
  ·have HD1 : Hid (d = (pre,s1)) := by
    show d = _
    rw [HD.out,HRD.out,show N - k = 0 by omega]
    simp [rdRs]
   have l1 : ¬ (k : Int) < (N : Int) := by omega
   go_wp2
   go_ret
   rw [HE.out,HD1.out]
   exact ⟨A,k,cp,rfl,own_mono HO.out (by omega),HT.out.1,HT.out.2.2⟩
end Img
namespace Img
open Go.RowKit Base FieldMath TxnMath RecMath
open ImgMath
open IdxMath (Rw)
open Idx (rv rv_append rv_one er)
open Txn (Rd cnumber2_any upTo_any done_any open_any Opened)
theorem etab : Elem Tryz.prog 48 53 1 24 (.slice none 0 0) := .of (by rfl) (by rfl) rfl (by omega)
def OwnTabs (w : World) (base : Nat) (A : Option Addr) (n c : Nat) (T : List (List Rw)) : Prop :=
 ∃ vs,w.ownsRow base 53 1 (.slice A n c) n vs /\ vs.length = T.length /\ ∀ (i : Nat) v l,vs[i]? = some v -> T[i]? = some l -> ∃ A' n' c',v = .slice A' n' c' /\ w.ownsRow base 52 2 (.slice A' n' c') n' (rv l)
section
variable {w w' : World} {base n c g : Nat} {A : Option Addr} {T : List (List Rw)}
theorem OwnTabs.nil_ (w : World) (base : Nat) : OwnTabs w base none 0 0 [] := ⟨[],World.ownsRow_nil _ _ _ _,rfl,fun i v l h => by simp at h⟩
theorem OwnTabs.tabs (h : OwnTabs w base A n c T) : Tabs w w.heap.size A n c T := by
 obtain ⟨vs,h1,h2,h3⟩ := h
 refine ⟨vs,Row.of_own h1,h2,fun i v l hv hl => ?_⟩
 obtain ⟨A',n',c',e,h4⟩ := h3 i v l hv hl
 exact ⟨A',n',c',e,Idx.Rs.of_own h4⟩
theorem OwnTabs.len (h : OwnTabs w base A n c T) : T.length = n := h.tabs.len
theorem OwnTabs.keep (h : OwnTabs w base A n c T) (hb : Below w.heap.size w w') : OwnTabs w' base A n c T := by
 obtain ⟨vs,h1,h2,h3⟩ := h
 refine ⟨vs,own_keep h1 hb,h2,fun i v l hv hl => ?_⟩
 obtain ⟨A',n',c',e,h4⟩ := h3 i v l hv hl
 exact ⟨A',n',c',e,own_keep h4 hb⟩
theorem OwnTabs.off (h : OwnTabs w base A n c T) (hlt : g < base) (hg : w.grownBy w' (some g)) : OwnTabs w' base A n c T := by
 obtain ⟨vs,h1,h2,h3⟩ := h
 refine ⟨vs,own_off h1 hlt hg,h2,fun i v l hv hl => ?_⟩
 obtain ⟨A',n',c',e,h4⟩ := h3 i v l hv hl
 exact ⟨A',n',c',e,own_off h4 hlt hg⟩
theorem OwnTabs.mono {base' : Nat} (h : OwnTabs w base A n c T) (hb : base' <= base) : OwnTabs w base' A n c T := by
 obtain ⟨vs,h1,h2,h3⟩ := h
 refine ⟨vs,own_mono h1 hb,h2,fun i v l hv hl => ?_⟩
 obtain ⟨A',n',c',e,h4⟩ := h3 i v l hv hl
 exact ⟨A',n',c',e,own_mono h4 hb⟩
end
theorem OwnTabs.snoc {w w' : World} {base n c : Nat} {A A2 Al : Option Addr} {c2 nl cl : Nat} {T : List (List Rw)} {vs : List Value} {l : List Rw}
 (h1 : w.ownsRow base 53 1 (.slice A n c) n vs) (h2 : vs.length = T.length) (h3 : ∀ (i : Nat) v l,vs[i]? = some v -> T[i]? = some l -> ∃ A' n' c',v = .slice A' n' c' /\ w.ownsRow base 52 2 (.slice A' n' c') n' (rv l))
 (hl : w.ownsRow base 52 2 (.slice Al nl cl) nl (rv l)) (ho : w'.ownsRow base 53 1 (.slice A2 (n + 1) c2) (n + 1) (vs ++ [.slice Al nl cl])) (hg : w.grownBy w' (Value.slice A n c).ownBlock) : OwnTabs w' base A2 (n + 1) c2 (T ++ [l]) := by
 have keep : ∀ {A' : Option Addr} {n' c' : Nat} {m : List Rw},w.ownsRow base 52 2 (.slice A' n' c') n' (rv m) -> w'.ownsRow base 52 2 (.slice A' n' c') n' (rv m) := fun k => k.kept hg (own_types k h1 (by decide))
 refine ⟨_,ho,by rw [List.length_append,List.length_append,h2]; rfl,fun i v m hv hm => ?_⟩
 by_cases hi : i < vs.length
 ·rw [List.getElem?_append_left hi] at hv
  rw [List.getElem?_append_left (by omega)] at hm
  obtain ⟨A',n',c',e,h4⟩ := h3 i v m hv hm
  exact ⟨A',n',c',e,keep h4⟩
 ·rw [List.getElem?_append_right (by omega)] at hv
  rw [List.getElem?_append_right (by omega)] at hm
  have h0 : i - vs.length = 0 := by
   rcases Nat.eq_zero_or_pos (i - vs.length) with h0 | h0
   ·exact h0
   ·rw [List.getElem?_eq_none (by simp; omega)] at hv; cases hv
  have h1' : i - T.length = 0 := by omega
  rw [h0] at hv
  rw [h1'] at hm
  simp only [List.getElem?_cons_zero,Option.some.injEq] at hv hm
  subst hv hm
  exact ⟨Al,nl,cl,rfl,keep hl⟩
theorem one_slice (w : World) (A : Option Addr) (n c : Nat) {s : Nat} (hs : s = w.heap.size) : Row (w.alloc (.cells #[.slice A n c] 53)) (w.heap.size + 1) 1 (some ⟨s,0,none⟩) 1 1 [.slice A n c] :=
 Row.lit w #[.slice A n c] 53 (0,0) hs rfl (by omega)
def ImRel (w : World) (B g N : Nat) (s0 : Rst) (vl vi : Value) (wr : World) : Prop :=
 ∃ (k : Nat) (pre : List (List Rw)) (s : Rst) (A : Option Addr) (c : Nat),k <= N /\ vi = .int .i64 k /\ vl = .slice A k c /\ rdTabs none false N s0 = (pre ++ (rdTabs none false (N - k) s).1,(rdTabs none false (N - k) s).2) /\
   OwnTabs wr (w.heap.size + 1) A k c pre /\ ImSt w B g s wr
def ReadIm (w : World) (B g : Nat) (q : Im × Rst) (e : Ending) (w' : World) : Prop :=
 ∃ A n c,e = .returned (.tuple #[.int .i64 q.1.lsn,.slice A n c]) /\ OwnTabs w' w.heap.size A n c q.1.tabs /\ Rd w' B g q.2 /\ w.grownBy w' (some g)
theorem image_any (B g : Nat) (s : Rst) (w : World) (h : Rd w B g s) :
 Calls Tryz.prog 251 #[.agg #[.pointer (some ⟨g,0,none⟩)]] w (ReadIm w B g (rdI none none false s)) := by
 obtain ⟨a,ha⟩ : ∃ a,a = rdN none s := ⟨_,rfl⟩
 obtain ⟨n,hn⟩ : ∃ n,n = rdN (some 8) a.2 := ⟨_,rfl⟩
 have hn2 := rdN_range (show (0 : Int) <= 8 by omega) a.2
 rw [<- hn] at hn2
 obtain ⟨N,hN⟩ : ∃ N : Nat,n.1 = N := ⟨n.1.toNat,by omega⟩
 rw [hN] at hn2
 obtain ⟨d,hd⟩ : ∃ d,d = rdTabs none false N n.2 := ⟨_,rfl⟩
 have HE : Hid (rdI none none false s = (⟨a.1,d.1⟩,d.2)) := by
  show _ = _
  rw [hd,<- Int.toNat_natCast N,<- hN,hn,ha]
  rfl
 have HA := hid ha
 have HNN := hid hn
 have HN := hid hN
 have HD := hid hd
 have HR := hid h
 have hlt := h.lt
 clear h ha hn hN hd
 go_enter Tryz.func251,Tryz.ntmps251
 go_wp2_with fail
 have HT0 : Hid (ImSt w B g s (w.alloc (.cells #[.pointer (some ⟨g,0,none⟩)] 322))) := ImSt.start HR.out
 refine (cnumber2_any B g s _ HT0.out.1).mono ?_
 rintro e w1 ⟨he1,hr1,hg1⟩
 rw [<- HA.out] at he1 hr1
 subst he1
 have HT1 := hid (HT0.out.call hlt hr1 hg1)
 have c1 := HT1.out.recv
 clear hr1 hg1 HT0
 go_wp2_with fail
 refine (upTo_any B g a.2 8 _ HT1.out.1 (by omega)).mono ?_
 rintro e w2 ⟨he2,hr2,hg2⟩
 rw [show ((8 : Nat) : Int) = 8 from rfl,<- HNN.out,HN.out] at he2
 rw [show ((8 : Nat) : Int) = 8 from rfl,<- HNN.out] at hr2
 subst he2
 have HT2 := hid (HT1.out.call hlt hr2 hg2)
 clear hr2 hg2 HT1 c1
 go_wp2
 go_loopw [5,12] (fun vl vi wr => ImRel w B g N n.2 vl vi wr) (fun _ vi _ => N - (RowKit.intOf vi).toNat)
 case atStart => exact ⟨0,[],n.2,none,0,by omega,rfl,rfl,rfl,OwnTabs.nil_ _ _,HT2.out⟩
 case round =>
  obtain ⟨k,pre,s1,A,cp,hk,rfl,rfl,hrd,hown,hst⟩ := hrel
  have c1 := hst.recv
  have HRD := hid hrd
  have HO := hid hown
  have HT := hid hst
  clear hrd hown hst HT2
  by_cases hlk : k < N
  ·have HST := hid (rdTabs_step HRD.out hlk)
   have l1 : (k : Int) < (N : Int) := by omega
   go_wp2_with fail
   refine (table_any B g s1 _ HT.out.1).mono ?_
   rintro e w5 ⟨A5,n5,c5,rfl,ho5,hr5,hg5⟩
   have hz := HT.out.2.1.lt
   have HT5 := hid (HT.out.call hlt hr5 hg5)
   have HO5 := hid (HO.out.off (by omega) hg5)
   have HL5 := hid (own_mono (base' := w.heap.size + 1) ho5 (by omega))
   obtain ⟨f,hf⟩ : ∃ f,f = (rdTab none false s1).1 := ⟨_,rfl⟩
   rw [<- hf] at HST HL5
   clear hf hr5 hg5 ho5
   have hz5 := HT5.out.2.1.lt
   have HO6 := hid (HO5.out.keep ((Below.refl _ _).alloc (Nat.le_refl _) (.cells #[.slice A5 n5 c5] 53)))
   have HL6 := hid (own_keep HL5.out ((Below.refl _ _).alloc (Nat.le_refl _) (.cells #[.slice A5 n5 c5] 53)))
   obtain ⟨vs,hv1,hv2,hv3⟩ := HO6.out
   have HV1 := hid hv1
   have HV2 := hid hv2
   have HV3 := hid hv3
   clear hv1 hv2 hv3
   go_wp2_with (first
    | (at_builtin
       refine wpList_append_row rfl (.tmp 14) (.tmp 17) rfl etab (w.heap.size + 1) (.slice A k cp) k vs rfl HV1.out (w5.heap.size + 1) (some ⟨w5.heap.size,0,none⟩) 1 1 [.slice A5 n5 c5] rfl (one_slice w5 A5 n5 c5 rfl) (fun u hu => by rw [List.mem_singleton] at hu; subst hu; rfl) (by omega) (by omega) (by simp; omega) ?_
       intro A6 c6 w6 hown6 hg6 hb6
       have HO7 := hid (OwnTabs.snoc HV1.out HV2.out HV3.out HL6.out hown6 hg6.1)
       have HT6 := hid ((HT5.out.alloc (.cells #[.slice A5 n5 c5] 53)).below hlt hb6)
       clear hown6 hg6 hb6)
    | fail)
   go_roundw
   case rel => exact ⟨k + 1,pre ++ [f],(rdTab none false s1).2,A6,c6,by omega,by go_num,rfl,HST.out,HO7.out,HT6.out⟩
   case measure => simp [RowKit.intOf]; omega
  ·have HD1 : Hid (d = (pre,s1)) := by
    show d = _
    rw [HD.out,HRD.out,show N - k = 0 by omega]
    simp [rdTabs]
   have l1 : ¬ (k : Int) < (N : Int) := by omega
   go_wp2
   go_ret2
   rw [HE.out,HD1.out]
   exact ⟨A,k,cp,rfl,HO.out.mono (by omega),HT.out.1,HT.out.2.2⟩
def OpenedI (w : World) (q : Option (List Fld)) (e : Ending) (w' : World) : Prop :=
 match q with
 | some fs => ∃ g,e = .returned (.tuple #[.agg #[.pointer (some ⟨g,0,none⟩)],.bool true]) /\ w.heap.size <= g /\ Rd w' g g (some fs) /\ Below w.heap.size w w'
 | none => e = .returned (.tuple #[.agg #[.pointer none],.bool false]) /\ Below w.heap.size w w'
theorem fv_no (l : List Fld) : ∀ u ∈ Field.fv l,∀ q,u ≠ .pointer q := by
 intro u hu q e
 subst e
 induction l with
 | nil => cases hu
 | cons f r ih =>
   unfold Field.fv at hu ih
   rw [List.flatMap_cons] at hu
   rcases List.mem_append.1 hu with h | h
   ·simp [Field.fcells] at h
   ·exact ih h
theorem Rd.past {w : World} {B g p : Nat} {s : Rst} {T : TypeId} {q : Option Addr} (h : Rd w B g s) (hp : Blk w p T #[.pointer q]) (hne : p ≠ g) (u : Value) : Rd (w.setCell ⟨p,0,none⟩ u) B g s := by
 obtain ⟨A,n,c,l,x,h1,h2,h3,h4⟩ := h
 refine ⟨A,n,c,l,x,h1.far (by exact fun e => hne e.symm) u,⟨h2.1,h2.2.1,h2.2.2.1,fun hn => ?_⟩,h3,h4⟩
 obtain ⟨b,off,e,hb,hc⟩ := h2.2.2.2 hn
 refine ⟨b,off,e,hb,fun j v hv => ?_⟩
 by_cases hbp : b = p
 ·exfalso
  subst hbp
  have h5 := hc j v hv
  rw [hp.cell] at h5
  have h6 : v = .pointer q := by
   rcases Nat.eq_zero_or_pos (off + j) with h0 | h0
   ·rw [h0] at h5; simp at h5; exact h5.symm
   ·rw [Array.getElem?_eq_none (by simp; omega)] at h5; cases h5
  exact fv_no l v (List.mem_of_getElem? hv) q h6
 ·exact (World.cell?_of_block (Below.heap_setCell w _ _ b (by exact hbp))).trans (hc j v hv)
theorem open_anyI (B : Nat) (A : Option Addr) (n c : Nat) (l : List UInt8) (w : World) (hr : Bytes w B A n c l) (hB : B <= w.heap.size) :
 Calls Tryz.prog 250 #[.slice A n c] w (OpenedI w (ImgMath.fieldsOf l)) := by
 have HR := hid hr
 have HL := hid hr.len
 have hle := hr.le
 clear hr
 have HX0 : Hid (Blk (w.alloc (.cells #[.pointer none] 322)) w.heap.size 322 #[.pointer none]) := Blk.new _ _ _
 have HB0 : Hid (Below w.heap.size w (w.alloc (.cells #[.pointer none] 322))) := (Below.refl _ _).alloc (Nat.le_refl _) _
 go_enter Tryz.func250,Tryz.ntmps250
 go_wp2_with fail
 refine (Rec.take_any B A n c l _ (HR.out.alloc hB _) (by simp; omega)).mono ?_
 rintro e w1 ⟨A1,n1,c1,rfl,ho1,hb1⟩
 have HX1 := hid (HX0.out.below hb1 HX0.out.lt)
 have HB1 := hid (held_two HB0.out hb1)
 have x0 : w1.cell? ⟨w.heap.size,0,none⟩ = some (.pointer none) := HX1.out.cell 0
 have f0 := HX1.out.frozen 0
 cases htk : tk l with
 | error k =>
   have hk0 := tk_err htk
   have hk1 : ((k : Int) != 0) = true := by simp; omega
   have HF := hid (show ImgMath.fieldsOf l = none by unfold ImgMath.fieldsOf; rw [htk])
   rw [htk] at ho1
   clear ho1 hb1 htk hk0 HX0 HB0
   rw [show ((err (Except.error k : Except Nat (List UInt8)) : Nat) : Int) = (k : Int) from rfl,show ((tsize (Except.error k) : Nat) : Int) = 0 from rfl]
   go_wp2
   refine bodyPost_ret (v := .tuple #[.agg #[.pointer none],.bool false]) (by simp [results,Tryz.results250,go_sem,x0]) rfl ?_
   rw [HF.out]
   exact ⟨rfl,HB1.out.setCell (by exact Nat.le_refl _) _⟩
 | ok p =>
   have hfit := tk_fits htk
   rw [htk] at ho1
   have HO1 : Hid (Bytes w1 w1.heap.size A1 n1 c1 p) := Bytes.of_own ho1
   have HO1L := hid HO1.out.len
   rw [show ((err (Except.ok p : Except Nat (List UInt8)) : Nat) : Int) = 0 from rfl,show ((tsize (Except.ok p) : Nat) : Int) = ((8 + p.length : Nat) : Int) from rfl]
   obtain ⟨m,hm⟩ : ∃ m,m = 8 + p.length := ⟨_,rfl⟩
   rw [<- hm]
   have hmn : m <= n := by have := HL.out; omega
   have hm2 : m <= 9223372036854775807 := by omega
   by_cases hlt : m < n
   ·have HF := hid (show ImgMath.fieldsOf l = none by unfold ImgMath.fieldsOf; rw [htk]; dsimp only; rw [if_neg (by have := HL.out; omega)])
    have l1 : (m : Int) < (n : Int) := by omega
    clear ho1 hb1 htk HX0 HB0 hm hfit
    go_wp2
    refine bodyPost_ret (v := .tuple #[.agg #[.pointer none],.bool false]) (by simp [results,Tryz.results250,go_sem,x0]) rfl ?_
    rw [HF.out]
    exact ⟨rfl,HB1.out.setCell (by exact Nat.le_refl _) _⟩
   ·have l1 : ¬ (m : Int) < (n : Int) := by omega
    have HFE := hid (show ∀ q,dec p = q -> ImgMath.fieldsOf l = (match q with | .error _ => none | .ok fs => some fs) from fun q hq => by unfold ImgMath.fieldsOf; rw [htk]; dsimp only; rw [if_pos (by have := HL.out; omega),hq]; cases q <;> rfl)
    clear ho1 hb1 htk HX0 HB0 hm hfit x0 f0
    go_wp2_with fail
    refine (open_any w1.heap.size A1 n1 c1 p w1 HO1.out (Nat.le_refl _)).mono ?_
    intro e w2 h2
    unfold Opened at h2
    cases hd : dec p with
    | error k =>
      rw [hd] at h2
      obtain ⟨rfl,hb2⟩ := h2
      have hk0 := Txn.dec_why hd
      have hk1 : ((k : Int) != 0) = true := by simp; omega
      have HF := hid (HFE.out _ hd)
      have HX2 := hid (HX1.out.below hb2 HX1.out.lt)
      have HB2 := hid (held_two HB1.out hb2)
      have x0 : w2.cell? ⟨w.heap.size,0,none⟩ = some (.pointer none) := HX2.out.cell 0
      have f0 := HX2.out.frozen 0
      clear hd hb2 hk0
      go_wp2
      refine bodyPost_ret (v := .tuple #[.agg #[.pointer none],.bool false]) (by simp [results,Tryz.results250,go_sem,x0]) rfl ?_
      rw [HF.out]
      exact ⟨rfl,HB2.out.setCell (by exact Nat.le_refl _) _⟩
    | ok fs =>
      rw [hd] at h2
      obtain ⟨g,rfl,hge,hrd,hb2⟩ := h2
      have HF := hid (HFE.out _ hd)
      have HX2 := hid (HX1.out.below hb2 HX1.out.lt)
      have HB2 := hid (held_two HB1.out hb2)
      have x0 : w2.cell? ⟨w.heap.size,0,none⟩ = some (.pointer none) := HX2.out.cell 0
      have f0 := HX2.out.frozen 0
      have hw1 := HX1.out.lt
      have HRD := hid hrd
      have hgw : w.heap.size <= g := by omega
      clear hd hb2 hrd
      go_wp2
      refine bodyPost_ret (v := .tuple #[.agg #[.pointer (some ⟨g,0,none⟩)],.bool true]) (by simp [results,Tryz.results250,go_sem,x0]) rfl ?_
      rw [HF.out]
      have hgr : w.heap.size < g := by omega
      exact ⟨g,rfl,hgw,Rd.past HRD.out HX2.out (by omega) _,HB2.out.setCell (by exact Nat.le_refl _) _⟩
def gotI : Option Im -> Im
 | some x => x
 | none => noIm
def DecI (w : World) (q : Option Im) (e : Ending) (w' : World) : Prop :=
 ∃ A n c,e = .returned (.tuple #[.int .i64 (gotI q).lsn,.slice A n c,.int .i64 (if q.isSome then 0 else 3)]) /\ OwnTabs w' w.heap.size A n c (gotI q).tabs /\ Below w.heap.size w w'
theorem decI_no {w w' : World} {q : Option Im} {e : Ending} (h : q = none) (he : e = .returned (.tuple #[.int .i64 0,.slice none 0 0,.int .i64 3])) (hb : Below w.heap.size w w') : DecI w q e w' := by
 subst h
 exact ⟨none,0,0,he,OwnTabs.nil_ _ _,hb⟩
theorem isEnd_ends (s : Rst) : Txn.isEnd s = ends s := by
 unfold Txn.isEnd ends
 split <;> simp_all
theorem decI_fields {l : List UInt8} {fs : List Fld} (h : ImgMath.fieldsOf l = some fs) : decI l = ImgMath.decX none none false fs := by unfold decI; rw [h]
theorem decode_any (B : Nat) (A : Option Addr) (n c : Nat) (l : List UInt8) (w : World) (hr : Bytes w B A n c l) (hB : B <= w.heap.size) :
 Calls Tryz.prog 212 #[.slice A n c] w (DecI w (decI l)) := by
 have HR := hid hr
 clear hr
 go_enter Tryz.func212,Tryz.ntmps212
 go_wp2_with fail
 refine (open_anyI B A n c l w HR.out hB).mono ?_
 intro e w1 h1
 unfold OpenedI at h1
 cases hf : ImgMath.fieldsOf l with
 | none =>
   rw [hf] at h1
   obtain ⟨rfl,hb1⟩ := h1
   have HB1 := hid hb1
   have HD := hid (show decI l = none by unfold decI; rw [hf])
   clear hf hb1
   go_wp2
   refine bodyPost_ret (v := .tuple #[.int .i64 0,.slice none 0 0,.int .i64 3]) (by simp [results,Tryz.results212,go_sem]) rfl ?_
   exact decI_no HD.out rfl (HB1.out.alloc HB1.out.size _)
 | some fs =>
   rw [hf] at h1
   obtain ⟨g,rfl,hge,hrd1,hb1⟩ := h1
   have HDF := hid (decI_fields hf)
   have HB1 := hid hb1
   have hgl := hrd1.lt
   have HRD1 := hid (hrd1.alloc (.cells #[.pointer (some ⟨g,0,none⟩)] 322))
   have HP1 := hid (Blk.new w1 322 #[.pointer (some ⟨g,0,none⟩)])
   have hpne : w1.heap.size ≠ g := by omega
   clear hf hb1 hrd1
   go_wp2_with fail
   refine (image_any g g (some fs) _ HRD1.out).mono ?_
   rintro e w3 ⟨A3,n3,c3,rfl,ho3,hrd3,hg3⟩
   have hp3 : Blk w3 w1.heap.size 322 #[.pointer (some ⟨g,0,none⟩)] := Txn.Blk.kept HP1.out hg3 hpne
   have p0 : w3.cell? ⟨w1.heap.size,0,none⟩ = some (.pointer (some ⟨g,0,none⟩)) := hp3.cell 0
   have HB3 : Hid (Below w.heap.size w w3) := (HB1.out.alloc HB1.out.size (.cells #[.pointer (some ⟨g,0,none⟩)] 322)).grown hg3 (by have := HB1.out.size; simp; omega) (fun x hx => by injection hx; omega)
   generalize hq : rdI none none false (some fs) = q at *
   have HQ := hid hq
   have HO3 := hid (ho3.mono (base' := w.heap.size) (by have := HB1.out.size; simp; omega))
   have HT3 := hid ho3.tabs
   have HRD3 := hid hrd3
   clear hq ho3 hrd3 hg3 hp3 HRD1 HP1
   cases hend : Txn.isEnd q.2 with
   | false =>
     have HEND := hid hend
     have HD := hid (show decI l = none by rw [HDF.out]; unfold ImgMath.decX; rw [HQ.out,<- isEnd_ends,hend]; rfl)
     clear hend
     go_wp2_with fail
     refine (done_any g g q.2 _ HRD3.out).mono ?_
     rintro e w4 ⟨rfl,rfl⟩
     rw [HEND.out]
     go_wp2
     refine bodyPost_ret (v := .tuple #[.int .i64 0,.slice none 0 0,.int .i64 3]) (by simp [results,Tryz.results212,go_sem]) rfl ?_
     exact decI_no HD.out rfl HB3.out
   | true =>
     have HEND := hid hend
     have HDE := hid (show decI l = if q.1.may = true then some q.1 else none by rw [HDF.out]; unfold ImgMath.decX; rw [HQ.out,<- isEnd_ends,hend]; cases q.1.may <;> rfl)
     clear hend
     go_wp2_with fail
     refine (done_any g g q.2 _ HRD3.out).mono ?_
     rintro e w4 ⟨rfl,rfl⟩
     rw [HEND.out]
     go_wp2_with fail
     refine (may_any w3.heap.size q.1.lsn A3 n3 c3 q.1.tabs w3 HT3.out (Nat.le_refl _)).mono ?_
     rintro e w5 ⟨rfl,hb5⟩
     have HB5 := hid (held_two HB3.out hb5)
     have HO5 := hid (HO3.out.keep hb5)
     rw [show (Im.mk q.1.lsn q.1.tabs) = q.1 from rfl]
     clear hb5
     cases hm : q.1.may with
     | true =>
       have HD := hid (show decI l = some q.1 by rw [HDE.out,if_pos hm])
       clear hm
       go_wp2
       refine bodyPost_ret (v := .tuple #[.int .i64 q.1.lsn,.slice A3 n3 c3,.int .i64 0]) (by simp [results,Tryz.results212,go_sem]) rfl ?_
       rw [HD.out]
       exact ⟨A3,n3,c3,rfl,HO5.out,HB5.out⟩
     | false =>
       have HD := hid (show decI l = none by rw [HDE.out,if_neg (by rw [hm]; simp)])
       clear hm
       go_wp2
       refine bodyPost_ret (v := .tuple #[.int .i64 0,.slice none 0 0,.int .i64 3]) (by simp [results,Tryz.results212,go_sem]) rfl ?_
       exact decI_no HD.out rfl HB5.out
end Img
namespace Src
open Go.RowKit Base
open Foot (Turn Out)
open DiskMath (Fl Dk)
open WalMath (Lg Sg Cap)
open SrcMath (Sc imgAt newest fileOf lsnOf other)
open ImgMath (Im decI)
open IdxMath (Rw)
open Wal (Both New LogAt DiskT)
open Disk (DiskAt I64)
open Tbl (SetAt)
open Img (OwnTabs)
theorem other_any (f : Int) (w : World) : Calls Tryz.prog 163 #[.int .i64 f] w fun e w' => e = .returned (.int .i64 (other f)) /\ w = w' := by
 by_cases h : f = 0
 ·subst h
  have HO := hid (show other 0 = 1 from rfl)
  go_enter Tryz.func163,Tryz.ntmps163
  go_wp2
  go_ret
  rw [HO.out]
  exact ⟨rfl,rfl⟩
 ·have HO := hid (show other f = 0 from if_neg h)
  have hf : (f == 0) = false := by simpa using h
  clear h
  go_enter Tryz.func163,Tryz.ntmps163
  go_wp2
  go_ret
  rw [HO.out]
  exact ⟨rfl,rfl⟩
def GoodR (w : World) (r : Option Im) (e : Ending) (w' : World) : Prop := match r with
 | none => e = .returned (.tuple #[.int .i64 0,.slice none 0 0,.bool false]) /\ Below w.heap.size w w'
 | some i => ∃ A n c,e = .returned (.tuple #[.int .i64 i.lsn,.slice A n c,.bool true]) /\ OwnTabs w' w.heap.size A n c i.tabs /\ Below w.heap.size w w'
theorem good_any (T : Nat -> Prop) (s p g gd : Nat) (S : Sc) (d : Dk) (f : Int) (tables k M : Nat) (w : World) (h : SrcAt T w s p g gd S d) (hI : I64 f) (hc : Cap k M d) (hM : M <= 140737488355328) :
 Calls Tryz.prog 164 #[.pointer (some ⟨s,3,none⟩),.int .i64 f,.int .i64 tables] w (GoodR w (imgAt tables d f)) := by
 obtain ⟨c0,c1,c2,c3,c4,c5⟩ := h.cells
 obtain ⟨F,hd,_⟩ := h.dsk
 clear h
 cases hx : DiskMath.seek d.files f with
 | none =>
   have HR := hid (Disk.read_no F gd d f w hd hI hx)
   have HE := hid (show imgAt tables d f = none by unfold imgAt; rw [hx])
   clear hd hx
   go_enter Tryz.func164,Tryz.ntmps164
   go_wp2_with fail
   refine HR.out.mono ?_
   rintro e w1 ⟨rfl,rfl⟩
   go_wp2
   rw [HE.out]
   go_ret3
   exact ⟨rfl,Below.refl _ _⟩
 | some x =>
   have HR := hid (Disk.read_yes F gd d f x w hd hI hx (Nat.le_trans (hc.2.2 x (DiskMath.seek_mem hx).1) hM))
   have HX := hid hx
   clear hd hx
   go_enter Tryz.func164,Tryz.ntmps164
   go_wp2_with fail
   refine HR.out.mono ?_
   rintro e w1 ⟨A,c,rfl,hown,hb⟩
   have HY := hid (Bytes.of_own hown)
   have HB := hid hb
   clear hown hb HR
   generalize x.b.length = n at *
   go_wp2_with fail
   refine (Img.decode_any w1.heap.size A n c x.b w1 HY.out (Nat.le_refl _)).mono ?_
   cases hq : decI x.b with
   | none =>
     have HE := hid (show imgAt tables d f = none by unfold imgAt; rw [HX.out]; dsimp only; rw [hq])
     clear hq
     rintro e w2 ⟨A2,n2,c2,rfl,ho,hb2⟩
     have HB2 := hid (held_two HB.out hb2)
     clear ho hb2
     simp only [Option.isSome,Img.gotI]
     go_wp2
     rw [HE.out]
     go_ret3
     exact ⟨rfl,HB2.out⟩
   | some i =>
     rintro e w2 ⟨A2,n2,c2,rfl,ho,hb2⟩
     have hlen := ho.len
     have HO := hid (ho.mono HB.out.size)
     have HB2 := hid (held_two HB.out hb2)
     clear ho hb2
     simp only [Option.isSome,Img.gotI] at hlen HO ⊢
     by_cases hn : n2 = tables
     ·subst hn
      have HE := hid (show imgAt n2 d f = some i by unfold imgAt; rw [HX.out]; dsimp only; rw [hq]; dsimp only; rw [if_pos hlen])
      clear hq hlen
      go_wp2
      rw [HE.out]
      go_ret3
      exact ⟨A2,n2,c2,rfl,HO.out,HB2.out⟩
     ·have HE := hid (show imgAt tables d f = none by unfold imgAt; rw [HX.out]; dsimp only; rw [hq]; dsimp only; rw [if_neg (by rw [hlen]; exact hn)])
      have hn1 : ((n2 : Int) != (tables : Int)) = true := by simp; omega
      clear hq hlen hn
      go_wp2
      rw [HE.out]
      go_ret3
      exact ⟨rfl,HB2.out⟩
end Src
end Go.Proofs.YtefnmnpfecfdaaaGreat
