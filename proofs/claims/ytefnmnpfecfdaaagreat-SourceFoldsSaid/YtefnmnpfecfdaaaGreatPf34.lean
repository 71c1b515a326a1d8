/-
  Texts of one proof: TxnTxn, TxnDecode, TxnSame.
-/
import Derived.Test.YtefnmnpfecfdaaaGreatPf33
import Derived.Test.YtefnmnpfecfdaaaGreatPf32
set_option linter.all false
set_option maxRecDepth 100000
set_option maxHeartbeats 3200000
open Go.Lib (hid)
namespace Go.Proofs.YtefnmnpfecfdaaaGreat
namespace Txn
open Go.RowKit Base FieldMath TxnMath Last
open Field (fv fv_append fv_one fv_length fv_get Flds ef ret_bool empty_iff)
theorem ech : Elem Tryz.prog 35 64 4 40 (.agg #[.int .i64 0,.int .i64 0,.bool false,.string ⟨#[]⟩]) := Elem.of Tryz.underlying35 (by kernel_rfl) rfl (by omega)
theorem estr : Elem Tryz.prog 37 9 1 16 (.string ⟨#[]⟩) := Elem.of Tryz.underlying37 (by kernel_rfl) rfl (by omega)
def txz : Array Value := #[.int .i64 0,.int .i64 0,.slice none 0 0,.slice none 0 0,.int .i64 0]
abbrev TxSt := St 186 39 txz
theorem rdN_range {m : Int} (hm : 0 <= m) (s : Rs) : 0 <= (rdN (some m) s).1 /\ (rdN (some m) s).1 <= m := by
 unfold rdN
 match s with
 | none => exact ⟨Int.le_refl _,hm⟩
 | some [] => exact ⟨Int.le_refl _,hm⟩
 | some (f :: r) =>
   dsimp only
   by_cases h : f.kind = 1 /\ fits (some m) f.n = true
   ·rw [if_pos h]
    have := h.2
    unfold fits at this
    simp only [Bool.and_eq_true,decide_eq_true_eq] at this
    exact this
   ·rw [if_neg h]
    exact ⟨Int.le_refl _,hm⟩
theorem rdCs_step {hk : Option Int} {N k : Nat} {pre : List Ch} {s0 s : Rs} (h : rdCs hk false N s0 = (pre ++ (rdCs hk false (N - k) s).1,(rdCs hk false (N - k) s).2)) (hlt : k < N) :
 rdCs hk false N s0 = (pre ++ [(rdC hk s).1] ++ (rdCs hk false (N - (k + 1)) (rdC hk s).2).1,(rdCs hk false (N - (k + 1)) (rdC hk s).2).2) := by
 obtain ⟨m,hm⟩ : ∃ m,N - k = m + 1 := ⟨N - k - 1,by omega⟩
 rw [h,hm,show N - (k + 1) = m by omega,rdCs,if_neg (by simp)]
 simp
theorem rdTs_step {N k : Nat} {pre : List ByteArray} {s0 s : Rs} (h : rdTs false N s0 = (pre ++ (rdTs false (N - k) s).1,(rdTs false (N - k) s).2)) (hlt : k < N) :
 rdTs false N s0 = (pre ++ [(rdT s).1] ++ (rdTs false (N - (k + 1)) (rdT s).2).1,(rdTs false (N - (k + 1)) (rdT s).2).2) := by
 obtain ⟨m,hm⟩ : ∃ m,N - k = m + 1 := ⟨N - k - 1,by omega⟩
 rw [h,hm,show N - (k + 1) = m by omega,rdTs,if_neg (by simp)]
 simp
theorem one_ch (w : World) (f : Ch) {s : Nat} (hs : s = w.heap.size) : Row (w.alloc (.cells #[.int .i64 f.tbl,.int .i64 f.key,.bool f.gone,.string f.val] 64)) (w.heap.size + 1) 4 (some ⟨s,0,none⟩) 1 1 (cv [f]) :=
 Row.lit w #[.int .i64 f.tbl,.int .i64 f.key,.bool f.gone,.string f.val] _ (0,0) hs rfl (by omega)
theorem one_str (w : World) (f : ByteArray) {s : Nat} (hs : s = w.heap.size) : Row (w.alloc (.cells #[.string f] 9)) (w.heap.size + 1) 1 (some ⟨s,0,none⟩) 1 1 (sv [f]) :=
 Row.lit w #[.string f] _ (0,0) hs rfl (by omega)
theorem own_off {w wr w1 : World} {g n : Nat} {e : TypeId} {size : Nat} {v : Value} {xs : List Value} (h : wr.ownsRow (w.heap.size + 3) e size v n xs) (hlt : g < w.heap.size) (hg : wr.grownBy w1 (some g)) : w1.ownsRow (w.heap.size + 3) e size v n xs :=
 h.kept hg (.inr fun e => by have := (h.lt g e).1; omega)
theorem five_on (w : World) (b : Nat) (v0 v1 v2 v3 v4 : Value) : w.grownBy (((((w.setCell ⟨b,0,none⟩ v0).setCell ⟨b,1,none⟩ v1).setCell ⟨b,2,none⟩ v2).setCell ⟨b,3,none⟩ v3).setCell ⟨b,4,none⟩ v4) (some b) := by
 have h0 := only_setCell (World.grownBy.refl w (some b)) (p := ⟨b,0,none⟩) (.inl rfl) v0
 have h1 := only_setCell h0 (p := ⟨b,1,none⟩) (.inl rfl) v1
 have h2 := only_setCell h1 (p := ⟨b,2,none⟩) (.inl rfl) v2
 have h3 := only_setCell h2 (p := ⟨b,3,none⟩) (.inl rfl) v3
 exact only_setCell h3 (p := ⟨b,4,none⟩) (.inl rfl) v4
def ChsRel (w : World) (B g N : Nat) (lsn kind mark : Int) (s0 : Rs) (i : Value) (wr : World) : Prop :=
 ∃ (k : Nat) (pre : List Ch) (s : Rs) (A : Option Addr) (c : Nat),k <= N /\ i = .int .i64 k /\ rdCs none false N s0 = (pre ++ (rdCs none false (N - k) s).1,(rdCs none false (N - k) s).2) /\
   wr.ownsRow (w.heap.size + 3) 64 4 (.slice A k c) k (cv pre) /\ TxSt w B g s #[.int .i64 lsn,.int .i64 kind,.slice A k c,.slice none 0 0,.int .i64 mark] wr
def SigsRelR (w : World) (B g N : Nat) (lsn kind mark : Int) (l : List Ch) (A0 : Option Addr) (n0 c0 : Nat) (s0 : Rs) (i : Value) (wr : World) : Prop :=
 ∃ (k : Nat) (pre : List ByteArray) (s : Rs) (A : Option Addr) (c : Nat),k <= N /\ i = .int .i64 k /\ rdTs false N s0 = (pre ++ (rdTs false (N - k) s).1,(rdTs false (N - k) s).2) /\
   wr.ownsRow (w.heap.size + 3) 64 4 (.slice A0 n0 c0) n0 (cv l) /\ wr.ownsRow (w.heap.size + 3) 9 1 (.slice A k c) k (sv pre) /\ TxSt w B g s #[.int .i64 lsn,.int .i64 kind,.slice A0 n0 c0,.slice A k c,.int .i64 mark] wr
def ReadX (w : World) (B g : Nat) (q : Tx × Rs) (e : Ending) (w' : World) : Prop :=
 ∃ A n c A' n' c',e = .returned (txv q.1.lsn q.1.kind q.1.mark A n c A' n' c') /\ w'.ownsRow w.heap.size 64 4 (.slice A n c) n (cv q.1.chs) /\ w'.ownsRow w.heap.size 9 1 (.slice A' n' c') n' (sv q.1.sigs) /\ Rd w' B g q.2 /\ w.grownBy w' (some g)
theorem txn_any (B g : Nat) (s : Rs) (w : World) (h : Rd w B g s) :
 Calls Tryz.prog 118 #[.agg #[.pointer (some ⟨g,0,none⟩)]] w (ReadX w B g (rdX none none false s)) := by
 obtain ⟨a,ha⟩ : ∃ a,a = rdN none s := ⟨_,rfl⟩
 obtain ⟨b,hb⟩ : ∃ b,b = rdN (some 3) a.2 := ⟨_,rfl⟩
 obtain ⟨c,hc⟩ : ∃ c,c = rdN none b.2 := ⟨_,rfl⟩
 obtain ⟨n,hn⟩ : ∃ n,n = rdN (some 16) c.2 := ⟨_,rfl⟩
 obtain ⟨d,hd⟩ : ∃ d,d = rdCs none false n.1.toNat n.2 := ⟨_,rfl⟩
 obtain ⟨m,hm⟩ : ∃ m,m = rdN (some 2) d.2 := ⟨_,rfl⟩
 obtain ⟨e,he⟩ : ∃ e,e = rdTs false m.1.toNat m.2 := ⟨_,rfl⟩
 have HE : Hid (rdX none none false s = (⟨a.1,b.1,d.1,e.1,c.1⟩,e.2)) := by
  show _ = _
  rw [he,hm,hd,hn,hc,hb,ha]
  rfl
 have hn2 := rdN_range (show (0 : Int) <= 16 by omega) c.2
 rw [<- hn] at hn2
 have hm2 := rdN_range (show (0 : Int) <= 2 by omega) d.2
 rw [<- hm] at hm2
 obtain ⟨N,hN⟩ : ∃ N : Nat,n.1 = N := ⟨n.1.toNat,by omega⟩
 obtain ⟨M,hM⟩ : ∃ M : Nat,m.1 = M := ⟨m.1.toNat,by omega⟩
 rw [hN,Int.toNat_natCast] at hd
 rw [hM,Int.toNat_natCast] at he
 rw [hN] at hn2
 rw [hM] at hm2
 have HA := hid ha
 have HBB := hid hb
 have HCC := hid hc
 have HNN := hid hn
 have HD := hid hd
 have HMM := hid hm
 have HEE := hid he
 have HN := hid hN
 have HM := hid hM
 have HR := hid h
 have hlt := h.lt
 clear h ha hb hc hn hd hm he hN hM
 go_enter Tryz.func118,Tryz.ntmps118
 go_wp2_with fail
 have HT0 : Hid (TxSt w B g s txz (((w.alloc (.cells #[.pointer (some ⟨g,0,none⟩)] 186)).alloc (.cells txz 39)).alloc (.cells txz 39))) := St.start HR.out
 refine (cnumber2_any B g s _ HT0.out.1).mono ?_
 rintro e1 w1 ⟨he1,hr1,hg1⟩
 rw [<- HA.out] at he1 hr1
 subst he1
 have HT1 := hid (HT0.out.call hlt hr1 hg1)
 have k1 : w1.cell? ⟨w.heap.size + 2,0,none⟩ = some (.int .i64 0) := HT1.out.2.1.cell 0
 have cr1 := HT1.out.recv
 have f1 := HT1.out.2.1.frozen 0
 clear hr1 hg1 HT0
 go_wp2_with fail
 have HS1 := hid (HT1.out.store hlt 0 (.int .i64 a.1))
 refine (upTo_any B g a.2 3 _ HS1.out.1 (by omega)).mono ?_
 rintro e2 w2 ⟨he2,hr2,hg2⟩
 rw [show ((3 : Nat) : Int) = 3 from rfl,<- HBB.out] at he2 hr2
 subst he2
 have HT2 := hid (HS1.out.call hlt hr2 hg2)
 have k2 : w2.cell? ⟨w.heap.size + 2,1,none⟩ = some (.int .i64 0) := HT2.out.2.1.cell 1
 have cr2 := HT2.out.recv
 have f2 := HT2.out.2.1.frozen 1
 clear hr2 hg2 HS1 HT1 k1 f1 cr1
 go_wp2_with fail
 have HS2 := hid (HT2.out.store hlt 1 (.int .i64 b.1))
 refine (cnumber2_any B g b.2 _ HS2.out.1).mono ?_
 rintro e3 w3 ⟨he3,hr3,hg3⟩
 rw [<- HCC.out] at he3 hr3
 subst he3
 have HT3 := hid (HS2.out.call hlt hr3 hg3)
 have k3 : w3.cell? ⟨w.heap.size + 2,4,none⟩ = some (.int .i64 0) := HT3.out.2.1.cell 4
 have cr3 := HT3.out.recv
 have f3 := HT3.out.2.1.frozen 4
 clear hr3 hg3 HS2 HT2 k2 f2 cr2
 go_wp2_with fail
 have HS3 := hid (HT3.out.store hlt 4 (.int .i64 c.1))
 refine (upTo_any B g c.2 16 _ HS3.out.1 (by omega)).mono ?_
 rintro e4 w4 ⟨he4,hr4,hg4⟩
 rw [show ((16 : Nat) : Int) = 16 from rfl,<- HNN.out,HN.out] at he4
 rw [show ((16 : Nat) : Int) = 16 from rfl,<- HNN.out] at hr4
 subst he4
 have HT4 : Hid (TxSt w B g n.2 #[.int .i64 a.1,.int .i64 b.1,.slice none 0 0,.slice none 0 0,.int .i64 c.1] w4) := HS3.out.call hlt hr4 hg4
 clear hr4 hg4 HS3 HT3 k3 f3 cr3
 go_wp2
 go_loopw [19] (fun i wr => ChsRel w B g N a.1 b.1 c.1 n.2 i wr) (fun i _ => N - (RowKit.intOf i).toNat)
 case atStart => exact ⟨0,[],n.2,none,0,by omega,rfl,rfl,World.ownsRow_nil _ _ _ _,HT4.out⟩
 case round =>
  obtain ⟨k,pre,s1,A,cp,hk,rfl,hrd,hown,hst⟩ := hrel
  have c2 : wr.cell? ⟨w.heap.size + 2,2,none⟩ = some (.slice A k cp) := hst.2.1.cell 2
  have cr := hst.recv
  have hcc := And.intro c2 cr
  have HRD := hid hrd
  have HO := hid hown
  have HT := hid hst
  clear hrd hown hst HT4
  by_cases hlk : k < N
  ·have HST := hid (rdCs_step HRD.out hlk)
   go_wp2_with fail
   refine wp_region_last_at (S := fun w' => w'.cell? ⟨w.heap.size + 2,2,none⟩ = some (.slice A k cp) /\ w'.cell? ⟨w.heap.size,0,none⟩ = some (.pointer (some ⟨g,0,none⟩))) 7 _ rfl rfl (by kernel_rfl) (by kernel_rfl) (by kernel_rfl) hcc (fun hHeld => ?_)
   simp only [List.take_succ_cons,List.take_zero]
   refine wpAnyH_take (i := 0) (v := ?av0) rfl (by kernel_rfl) (by kernel_rfl) (by kernel_rfl) (fun _ _ _ h => h) (Or.inl ⟨by rfl,?ay0⟩) (by assumption) ?ar0
   case ay0 => (intro w hSw; (try dsimp only at hSw); obtain ⟨hSa,hSb⟩ := hSw; go_simp; try with_reducible rfl)
   try simp only [Act.put,Base.px]
   refine wpAnyH_take (i := 1) (v := ?av1) rfl (by kernel_rfl) (by kernel_rfl) (by kernel_rfl) (fun _ _ _ h => h) (Or.inl ⟨by rfl,?ay1⟩) (by assumption) ?ar1
   case ay1 => (intro w hSw; (try dsimp only at hSw); obtain ⟨hSa,hSb⟩ := hSw; go_simp; try with_reducible rfl)
   try simp only [Act.put,Base.px]
   refine wpAnyH_take (i := 2) (v := ?av2) rfl (by kernel_rfl) (by kernel_rfl) (by kernel_rfl) (fun _ _ _ h => h) (Or.inl ⟨by rfl,?ay2⟩) (by assumption) ?ar2
   case ay2 => (intro w hSw; (try dsimp only at hSw); obtain ⟨hSa,hSb⟩ := hSw; go_simp; try with_reducible rfl)
   try simp only [Act.put,Base.px]
   refine wpAnyH_ready (rs := [3]) (by kernel_rfl) (by simp) ?_
   refine AllReadyH.cons rfl (fun K hK => ?_) AllReadyH.nil
   go_simp
   refine (change_any B g s1 _ (show Rd wr.drew B g s1 from HT.out.1)).mono ?_
   rintro e5 w5 ⟨rfl,hr5,hg5⟩
   replace hg5 := only_of_drew hg5
   have HT5 := hid (HT.out.call hlt hr5 hg5)
   have HO5 := hid (own_off HO.out hlt hg5)
   refine hK.out _ _ ⟨HT5.out.2.1.cell 2,HT5.out.recv⟩ (fun hHeld => ?_)
   clear hK K hr5 hg5
   obtain ⟨f,hf⟩ : ∃ f,f = (rdC none s1).1 := ⟨_,rfl⟩
   rw [<- hf] at HST ⊢
   unfold chv
   clear hf
   try simp only [Act.put,Base.px]
   refine wpAnyH_ready (rs := [4]) (by kernel_rfl) (by simp) ?_
   refine AllReadyH.cons rfl (fun K hK => ?_) AllReadyH.nil
   go_simp
   refine hK.out _ _ ⟨(HT5.out.2.1.alloc _).cell 2,(HT5.out.alloc _).recv⟩ (fun hHeld => ?_)
   clear hK K
   try simp only [Act.put,Base.px]
   refine wpAnyH_ready (rs := [5]) (by kernel_rfl) (by simp) ?_
   refine AllReadyH.cons rfl (fun K hK => ?_) AllReadyH.nil
   refine step_append_row (by rfl) (.tmp 22) (.tmp 25) (by rfl) ech (w.heap.size + 3) (.slice A k cp) k (cv pre) (by rfl) (own_keep HO5.out ((Below.refl _ _).alloc (Nat.le_refl _) _)) (w5.heap.size + 1) (some ⟨w5.heap.size,0,none⟩) 1 1 (cv [f]) (by rfl) (one_ch w5 f rfl) (cv_one _) (by omega) (by omega) (by have := HT5.out.2.1.lt; simp; omega) ?_
   intro A6 c6 w6 hown6 hg6 hb6
   rw [<- cv_append] at hown6
   have HT6 := hid ((show TxSt w B g (rdC none s1).2 _ (w5.alloc (.cells #[.int .i64 f.tbl,.int .i64 f.key,.bool f.gone,.string f.val] 64)) from HT5.out.alloc _).below hlt hb6)
   have HO6 := hid hown6
   have k6 : w6.cell? ⟨w.heap.size + 2,2,none⟩ = some (.slice A k cp) := HT6.out.2.1.cell 2
   have kk6 := And.intro k6 HT6.out.recv
   have f6 := HT6.out.2.1.frozen 2
   clear hown6 hg6 hb6
   refine hK.out _ _ kk6 (fun hHeld => ?_)
   clear hK K
   try simp only [Act.put,Base.px]
   refine wpAnyH_take (i := 6) (v := ?bv6) rfl (by kernel_rfl) (by kernel_rfl) (by kernel_rfl) (fun _ _ _ h => h) (Or.inl ⟨by rfl,?by6⟩) (by assumption) ?br6
   case by6 => (intro w hSw; (try dsimp only at hSw); obtain ⟨hSa,hSb⟩ := hSw; go_simp; try with_reducible rfl)
   try simp only [Act.put,Base.px]
   refine wpAnyH_done (by kernel_rfl) ?_ _
   refine then_normal rfl ?_
   have HS6 : Hid (TxSt w B g (rdC none s1).2 #[.int .i64 a.1,.int .i64 b.1,.slice A6 (k + 1) c6,.slice none 0 0,.int .i64 c.1] (w6.setCell ⟨w.heap.size + 2,2,none⟩ (.slice A6 (k + 1) c6))) := HT6.out.store hlt 2 _
   have HO7 : Hid ((w6.setCell ⟨w.heap.size + 2,2,none⟩ (.slice A6 (k + 1) c6)).ownsRow (w.heap.size + 3) 64 4 (.slice A6 (k + 1) c6) (k + 1) (cv (pre ++ [f]))) :=
    HO6.out.kept (only_setCell (World.grownBy.refl _ (some (w.heap.size + 2))) (.inl rfl) _) (.inr fun e => by have := (HO6.out.lt _ e).1; omega)
   clear hHeld c2 cr hcc
   go_wp2
   go_roundw
   case rel => exact ⟨k + 1,pre ++ [f],(rdC none s1).2,A6,c6,by omega,by go_num,HST.out,HO7.out,HS6.out⟩
   case measure => simp [RowKit.intOf]; omega
  ·have HD1 : Hid (d = (pre,s1)) := by
    show d = _
    rw [HD.out,HRD.out,show N - k = 0 by omega]
    simp [rdCs]
   obtain rfl : k = N := by omega
   clear HRD hlk hk
   have HP : Hid (pre = d.1) := by
    show _ = _
    rw [HD1.out]
   have hS : Hid (s1 = d.2) := by
    show _ = _
    rw [HD1.out]
   have HTx := hid HT.out
   rw [hS.out] at HTx
   clear HT
   go_wp2_with fail
   refine (upTo_any B g d.2 2 _ HTx.out.1 (by omega)).mono ?_
   rintro e4 w4 ⟨he4,hr4,hg4⟩
   rw [show ((2 : Nat) : Int) = 2 from rfl,<- HMM.out,HM.out] at he4
   rw [show ((2 : Nat) : Int) = 2 from rfl,<- HMM.out] at hr4
   subst he4
   have HT5 := hid (HTx.out.call hlt hr4 hg4)
   have HO5 := hid (own_off HO.out hlt hg4)
   clear hr4 hg4 HTx
   go_wp2
   go_loopw [32] (fun i wr => SigsRelR w B g M a.1 b.1 c.1 pre A k cp m.2 i wr) (fun i _ => M - (RowKit.intOf i).toNat)
   case atStart => exact ⟨0,[],m.2,none,0,by omega,rfl,rfl,HO5.out,World.ownsRow_nil _ _ _ _,HT5.out⟩
   case round =>
    obtain ⟨j,pre2,s2,A2,cp2,hj,rfl,hrd,hownc,hown,hst⟩ := hrel
    have d3 : wr.cell? ⟨w.heap.size + 2,3,none⟩ = some (.slice A2 j cp2) := hst.2.1.cell 3
    have dr := hst.recv
    have hdd := And.intro d3 dr
    have HRD := hid hrd
    have HOC := hid hownc
    have HO2 := hid hown
    have HT := hid hst
    clear hrd hown hownc hst HT5 HO5
    by_cases hlj : j < M
    ·have HST := hid (rdTs_step HRD.out hlj)
     go_wp2_with fail
     refine wp_region_last_at (S := fun w' => w'.cell? ⟨w.heap.size + 2,3,none⟩ = some (.slice A2 j cp2) /\ w'.cell? ⟨w.heap.size,0,none⟩ = some (.pointer (some ⟨g,0,none⟩))) 8 _ rfl rfl (by kernel_rfl) (by kernel_rfl) (by kernel_rfl) hdd (fun hHeld => ?_)
     simp only [List.take_succ_cons,List.take_zero]
     refine wpAnyH_take (i := 0) (v := ?cv0) rfl (by kernel_rfl) (by kernel_rfl) (by kernel_rfl) (fun _ _ _ h => h) (Or.inl ⟨by rfl,?cy0⟩) (by assumption) ?cr0
     case cy0 => (intro w hSw; (try dsimp only at hSw); obtain ⟨hSa,hSb⟩ := hSw; go_simp; try with_reducible rfl)
     try simp only [Act.put,Base.px]
     refine wpAnyH_take (i := 1) (v := ?cv1) rfl (by kernel_rfl) (by kernel_rfl) (by kernel_rfl) (fun _ _ _ h => h) (Or.inl ⟨by rfl,?cy1⟩) (by assumption) ?cr1
     case cy1 => (intro w hSw; (try dsimp only at hSw); obtain ⟨hSa,hSb⟩ := hSw; go_simp; try with_reducible rfl)
     try simp only [Act.put,Base.px]
     refine wpAnyH_take (i := 2) (v := ?cv2) rfl (by kernel_rfl) (by kernel_rfl) (by kernel_rfl) (fun _ _ _ h => h) (Or.inl ⟨by rfl,?cy2⟩) (by assumption) ?cr2
     case cy2 => (intro w hSw; (try dsimp only at hSw); obtain ⟨hSa,hSb⟩ := hSw; go_simp; try with_reducible rfl)
     try simp only [Act.put,Base.px]
     refine wpAnyH_take (i := 3) (v := ?cv9) rfl (by kernel_rfl) (by kernel_rfl) (by kernel_rfl) (fun _ _ _ h => h) (Or.inl ⟨by rfl,?cy9⟩) (by assumption) ?cr9
     case cy9 => (intro w hSw; (try dsimp only at hSw); obtain ⟨hSa,hSb⟩ := hSw; go_simp; try with_reducible rfl)
     try simp only [Act.put,Base.px]
     refine wpAnyH_ready (rs := [4]) (by kernel_rfl) (by simp) ?_
     refine AllReadyH.cons rfl (fun K hK => ?_) AllReadyH.nil
     go_simp
     refine (ctext2_any B g s2 _ (show Rd wr.drew B g s2 from HT.out.1)).mono ?_
     rintro e5 w5 ⟨rfl,hr5,hg5⟩
     replace hg5 := only_of_drew hg5
     have HT5 := hid (HT.out.call hlt hr5 hg5)
     have HO5 := hid (own_off HO2.out hlt hg5)
     have HOC5 := hid (own_off HOC.out hlt hg5)
     refine hK.out _ _ ⟨HT5.out.2.1.cell 3,HT5.out.recv⟩ (fun hHeld => ?_)
     clear hK K hr5 hg5
     obtain ⟨f,hf⟩ : ∃ f,f = (rdT s2).1 := ⟨_,rfl⟩
     rw [<- hf] at HST ⊢
     clear hf
     try simp only [Act.put,Base.px]
     refine wpAnyH_ready (rs := [5]) (by kernel_rfl) (by simp) ?_
     refine AllReadyH.cons rfl (fun K hK => ?_) AllReadyH.nil
     go_simp
     refine hK.out _ _ ⟨(HT5.out.2.1.alloc _).cell 3,(HT5.out.alloc _).recv⟩ (fun hHeld => ?_)
     clear hK K
     try simp only [Act.put,Base.px]
     refine wpAnyH_ready (rs := [6]) (by kernel_rfl) (by simp) ?_
     refine AllReadyH.cons rfl (fun K hK => ?_) AllReadyH.nil
     refine step_append_row (by rfl) (.tmp 35) (.tmp 39) (by rfl) estr (w.heap.size + 3) (.slice A2 j cp2) j (sv pre2) (by rfl) (own_keep HO5.out ((Below.refl _ _).alloc (Nat.le_refl _) _)) (w5.heap.size + 1) (some ⟨w5.heap.size,0,none⟩) 1 1 (sv [f]) (by rfl) (one_str w5 f rfl) (sv_one _) (by omega) (by omega) (by have := HT5.out.2.1.lt; simp; omega) ?_
     intro A6 c6 w6 hown6 hg6 hb6
     have HOC6 := hid ((own_keep HOC5.out ((Below.refl _ _).alloc (Nat.le_refl _) (.cells #[.string f] 9))).kept hg6.1 (own_types HOC5.out HO5.out (by decide)))
     rw [show sv pre2 ++ sv [f] = sv (pre2 ++ [f]) from List.map_append.symm] at hown6
     have HT6 := hid ((show TxSt w B g (rdT s2).2 _ (w5.alloc (.cells #[.string f] 9)) from HT5.out.alloc _).below hlt hb6)
     have HO6 := hid hown6
     have k6 : w6.cell? ⟨w.heap.size + 2,3,none⟩ = some (.slice A2 j cp2) := HT6.out.2.1.cell 3
     have kk6 := And.intro k6 HT6.out.recv
     have f6 := HT6.out.2.1.frozen 3
     clear hown6 hg6 hb6
     refine hK.out _ _ kk6 (fun hHeld => ?_)
     clear hK K
     try simp only [Act.put,Base.px]
     refine wpAnyH_take (i := 7) (v := ?dv6) rfl (by kernel_rfl) (by kernel_rfl) (by kernel_rfl) (fun _ _ _ h => h) (Or.inl ⟨by rfl,?dy6⟩) (by assumption) ?dr6
     case dy6 => (intro w hSw; (try dsimp only at hSw); obtain ⟨hSa,hSb⟩ := hSw; go_simp; try with_reducible rfl)
     try simp only [Act.put,Base.px]
     refine wpAnyH_done (by kernel_rfl) ?_ _
     refine then_normal rfl ?_
     have HS6 : Hid (TxSt w B g (rdT s2).2 #[.int .i64 a.1,.int .i64 b.1,.slice A k cp,.slice A6 (j + 1) c6,.int .i64 c.1] (w6.setCell ⟨w.heap.size + 2,3,none⟩ (.slice A6 (j + 1) c6))) := HT6.out.store hlt 3 _
     have HO7 : Hid ((w6.setCell ⟨w.heap.size + 2,3,none⟩ (.slice A6 (j + 1) c6)).ownsRow (w.heap.size + 3) 9 1 (.slice A6 (j + 1) c6) (j + 1) (sv (pre2 ++ [f]))) :=
      HO6.out.kept (only_setCell (World.grownBy.refl _ (some (w.heap.size + 2))) (.inl rfl) _) (.inr fun e => by have := (HO6.out.lt _ e).1; omega)
     have HO8 : Hid ((w6.setCell ⟨w.heap.size + 2,3,none⟩ (.slice A6 (j + 1) c6)).ownsRow (w.heap.size + 3) 64 4 (.slice A k cp) k (cv pre)) :=
      HOC6.out.kept (only_setCell (World.grownBy.refl _ (some (w.heap.size + 2))) (.inl rfl) _) (.inr fun e => by have := (HOC6.out.lt _ e).1; omega)
     clear hHeld d3 dr hdd
     go_wp2
     go_roundw
     case rel => exact ⟨j + 1,pre2 ++ [f],(rdT s2).2,A6,c6,by omega,by go_num,HST.out,HO8.out,HO7.out,HS6.out⟩
     case measure => simp [RowKit.intOf]; omega
    ·have HD2 : Hid (e = (pre2,s2)) := by
      show e = _
      rw [HEE.out,HRD.out,show M - j = 0 by omega]
      simp [rdTs]
     have p0 : wr.cell? ⟨w.heap.size + 2,0,none⟩ = some (.int .i64 a.1) := HT.out.2.1.cell 0
     have p1 : wr.cell? ⟨w.heap.size + 2,1,none⟩ = some (.int .i64 b.1) := HT.out.2.1.cell 1
     have p2 : wr.cell? ⟨w.heap.size + 2,2,none⟩ = some (.slice A k cp) := HT.out.2.1.cell 2
     have p4 : wr.cell? ⟨w.heap.size + 2,4,none⟩ = some (.int .i64 c.1) := HT.out.2.1.cell 4
     have q0 : wr.cell? ⟨w.heap.size + 1,0,none⟩ = some (.int .i64 0) := HT.out.2.2.1.cell 0
     have q1 : wr.cell? ⟨w.heap.size + 1,1,none⟩ = some (.int .i64 0) := HT.out.2.2.1.cell 1
     have q2 : wr.cell? ⟨w.heap.size + 1,2,none⟩ = some (.slice none 0 0) := HT.out.2.2.1.cell 2
     have q3 : wr.cell? ⟨w.heap.size + 1,3,none⟩ = some (.slice none 0 0) := HT.out.2.2.1.cell 3
     have q4 : wr.cell? ⟨w.heap.size + 1,4,none⟩ = some (.int .i64 0) := HT.out.2.2.1.cell 4
     have r0 := HT.out.2.2.1.frozen 0
     have r1 := HT.out.2.2.1.frozen 1
     have r2 := HT.out.2.2.1.frozen 2
     have r3 := HT.out.2.2.1.frozen 3
     have r4 := HT.out.2.2.1.frozen 4
     have hlt2 : g < w.heap.size + 1 := by omega
     go_wp2
     rw [HE.out,HD2.out,<- HP.out]
     have hon := five_on wr (w.heap.size + 1) (.int .i64 a.1) (.int .i64 b.1) (.slice A k cp) (.slice A2 j cp2) (.int .i64 c.1)
     refine bodyPost_ret (v := txv a.1 b.1 c.1 A k cp A2 j cp2) (by simp [txv,results,Tryz.results118,go_sem,q0,q1,q2,q3,q4]) rfl ⟨A,k,cp,A2,j,cp2,rfl,?_,?_,?_,?_⟩
     ·exact own_mono (HOC.out.kept hon (.inr fun e => by have := (HOC.out.lt _ e).1; omega)) (by omega)
     ·exact own_mono (HO2.out.kept hon (.inr fun e => by have := (HO2.out.lt _ e).1; omega)) (by omega)
     ·exact ((((HT.out.1.far (by exact hlt2) _).far (by exact hlt2) _).far (by exact hlt2) _).far (by exact hlt2) _).far (by exact hlt2) _
     ·exact only_trans HT.out.2.2.2.1 hon (.inr fun x hx => by injection hx; omega)
end Txn
namespace Txn
open Go.RowKit Base FieldMath TxnMath
open Field (fv fv_append fv_one fv_length fv_get Flds ef ret_bool empty_iff Decoded)
def gotX : Except Nat Tx -> Tx
 | .ok t => t
 | .error _ => noTx
def DecT (w : World) (l : List UInt8) (e : Ending) (w' : World) : Prop :=
 ∃ A n c A' n' c',e = .returned (.tuple #[txv (gotX (decT l)).lsn (gotX (decT l)).kind (gotX (decT l)).mark A n c A' n' c',.int .i64 (err (decT l))]) /\ Chs w' w'.heap.size A n c (gotX (decT l)).chs /\ Sigs w' w'.heap.size A' n' c' (gotX (decT l)).sigs /\ Below w.heap.size w w'
theorem decT_err {l : List UInt8} {k : Nat} (h : dec l = .error k) : decT l = .error k := by unfold decT; rw [h]
theorem five_below {w W : World} (h : Below w.heap.size w W) (v0 v1 v2 v3 v4 : Value) : Below w.heap.size w (((((W.setCell ⟨w.heap.size,0,none⟩ v0).setCell ⟨w.heap.size,1,none⟩ v1).setCell ⟨w.heap.size,2,none⟩ v2).setCell ⟨w.heap.size,3,none⟩ v3).setCell ⟨w.heap.size,4,none⟩ v4) :=
 ((((h.setCell (by exact Nat.le_refl _) v0).setCell (by exact Nat.le_refl _) v1).setCell (by exact Nat.le_refl _) v2).setCell (by exact Nat.le_refl _) v3).setCell (by exact Nat.le_refl _) v4
theorem decT_none {l : List UInt8} {fs : List Fld} (h : dec l = .ok fs) (hx : decX none none false fs = none) : decT l = .error 3 := by unfold decT; rw [h]; dsimp only; rw [hx]
theorem decT_some {l : List UInt8} {fs : List Fld} {t : Tx} (h : dec l = .ok fs) (hx : decX none none false fs = some t) : decT l = .ok t := by unfold decT; rw [h]; dsimp only; rw [hx]
theorem decX_off {hl hk : Option Int} {stop : Bool} {fs : List Fld} (h : (rdX hl hk stop (some fs)).2 ≠ some []) : decX hl hk stop fs = none := by
 unfold decX
 rw [if_neg]
 unfold isX
 generalize (rdX hl hk stop (some fs)).2 = s at h
 match s with
 | none => simp
 | some [] => exact absurd rfl h
 | some (f :: r) => simp
theorem decX_bad {hl hk : Option Int} {stop : Bool} {fs : List Fld} (h : (rdX hl hk stop (some fs)).1.may = false) : decX hl hk stop fs = none := by
 unfold decX
 rw [if_neg]
 unfold isX
 rw [h,Bool.and_false]
 simp
theorem decX_good {hl hk : Option Int} {stop : Bool} {fs : List Fld} (h : (rdX hl hk stop (some fs)).2 = some []) (h1 : (rdX hl hk stop (some fs)).1.may = true) : decX hl hk stop fs = some (rdX hl hk stop (some fs)).1 := by
 unfold decX
 rw [if_pos]
 unfold isX
 rw [h,h1]
 rfl
theorem isEnd_some {s : Rs} (h : isEnd s = true) : s = some [] := by
 unfold isEnd at h
 split at h
 ·rfl
 ·cases h
theorem isEnd_not {s : Rs} (h : isEnd s = false) : s ≠ some [] := by
 rintro rfl
 cases h
def DecO (w : World) (l : List UInt8) (e : Ending) (w' : World) : Prop :=
 ∃ A n c A' n' c',e = .returned (.tuple #[txv (gotX (decT l)).lsn (gotX (decT l)).kind (gotX (decT l)).mark A n c A' n' c',.int .i64 (err (decT l))]) /\ w'.ownsRow w.heap.size 64 4 (.slice A n c) n (cv (gotX (decT l)).chs) /\ w'.ownsRow w.heap.size 9 1 (.slice A' n' c') n' (sv (gotX (decT l)).sigs) /\ Below w.heap.size w w'
theorem decO_no {w w' : World} {l : List UInt8} {e : Ending} {k : Nat} (h : decT l = .error k) (he : e = .returned (.tuple #[txv 0 0 0 none 0 0 none 0 0,.int .i64 k])) (hb : Below w.heap.size w w') : DecO w l e w' := by
 unfold DecO
 rw [h]
 exact ⟨none,0,0,none,0,0,he,World.ownsRow_nil _ _ _ _,World.ownsRow_nil _ _ _ _,hb⟩
theorem decode_own (B : Nat) (A : Option Addr) (n c : Nat) (l : List UInt8) (w : World) (hr : Bytes w B A n c l) (hB : B <= w.heap.size) :
 Calls Tryz.prog 51 #[.slice A n c] w (DecO w l) := by
 have HR := hid hr
 clear hr
 have HX0 : Hid (Blk (w.alloc (.cells txz 39)) w.heap.size 39 txz) := Blk.new _ _ _
 have HB0 : Hid (Below w.heap.size w (w.alloc (.cells txz 39))) := (Below.refl _ _).alloc (Nat.le_refl _) _
 go_enter Tryz.func51,Tryz.ntmps51
 go_wp2_with fail
 refine (open_any B A n c l _ (HR.out.alloc hB _) (by simp; omega)).mono ?_
 intro e w1 h1
 unfold Opened at h1
 cases hd : dec l with
 | error k =>
   rw [hd] at h1
   obtain ⟨rfl,hb1⟩ := h1
   have HX1 := hid (HX0.out.below hb1 HX0.out.lt)
   have HB1 := hid (held_two HB0.out hb1)
   have q0 : w1.cell? ⟨w.heap.size,0,none⟩ = some (.int .i64 0) := HX1.out.cell 0
   have q1 : w1.cell? ⟨w.heap.size,1,none⟩ = some (.int .i64 0) := HX1.out.cell 1
   have q2 : w1.cell? ⟨w.heap.size,2,none⟩ = some (.slice none 0 0) := HX1.out.cell 2
   have q3 : w1.cell? ⟨w.heap.size,3,none⟩ = some (.slice none 0 0) := HX1.out.cell 3
   have q4 : w1.cell? ⟨w.heap.size,4,none⟩ = some (.int .i64 0) := HX1.out.cell 4
   have r0 := HX1.out.frozen 0
   have r1 := HX1.out.frozen 1
   have r2 := HX1.out.frozen 2
   have r3 := HX1.out.frozen 3
   have r4 := HX1.out.frozen 4
   have hk0 : k ≠ 0 := by have := dec_why hd; omega
   have hk1 : ((k : Int) != 0) = true := by simp; omega
   have HD := hid (decT_err hd)
   clear hd hk0 hb1 HX0 HB0
   go_wp2
   refine bodyPost_ret (v := .tuple #[txv 0 0 0 none 0 0 none 0 0,.int .i64 k]) (by simp [txv,results,Tryz.results51,go_sem,q0,q1,q2,q3,q4]) rfl ?_
   exact decO_no HD.out rfl (five_below HB1.out _ _ _ _ _)
 | ok fs =>
   rw [hd] at h1
   obtain ⟨g,rfl,hge,hrd1,hb1⟩ := h1
   have HX1 := hid (HX0.out.below hb1 HX0.out.lt)
   have HB1 := hid (held_two HB0.out hb1)
   have HD := hid hd
   have hgl := hrd1.lt
   have hge2 : w.heap.size < g := by have : w.heap.size + 1 <= g := by simpa using hge
                                     omega
   have HRD1 := hid hrd1
   have hz1 : w.heap.size < w1.heap.size := HX1.out.lt
   clear hd hb1 hge hrd1 HX0 HB0
   go_wp2_with fail
   have HW2 : Hid (Rd (w1.alloc (.cells #[.pointer (some ⟨g,0,none⟩)] 186)) g g (some fs)) := HRD1.out.alloc _
   refine (txn_any g g (some fs) _ HW2.out).mono ?_
   rintro e w3 ⟨A2,n2,c2,A3,n3,c3,he,hoc,hos,hrd,hg3⟩
   generalize hq : rdX none none false (some fs) = q at he hoc hos hrd
   have HQ := hid hq
   clear hq
   unfold txv at he
   subst he
   have hx3 : Blk w3 w.heap.size 39 txz := Blk.kept (HX1.out.alloc _) hg3 (by omega)
   have HX3 := hid hx3
   have HP3 : Hid (Blk w3 w1.heap.size 186 #[.pointer (some ⟨g,0,none⟩)]) := Blk.kept (Blk.new w1 _ _) hg3 (by omega)
   have hp0 : w3.cell? ⟨w1.heap.size,0,none⟩ = some (.pointer (some ⟨g,0,none⟩)) := HP3.out.cell 0
   have HB3 : Hid (Below w.heap.size w w3) := (HB1.out.alloc (by omega) _).grown hg3 (by simp; omega) (fun x hx => by injection hx; omega)
   have HOC := hid hoc
   have HOS := hid hos
   have HRD := hid hrd
   have hpl : w1.heap.size < w3.heap.size := HP3.out.lt
   have hR3 : w.heap.size < w3.heap.size := hx3.lt
   clear hg3 hoc hos hrd HX1 hx3 HW2 HRD1
   have qb0 : w3.cell? ⟨w.heap.size,0,none⟩ = some (.int .i64 0) := HX3.out.cell 0
   have qb1 : w3.cell? ⟨w.heap.size,1,none⟩ = some (.int .i64 0) := HX3.out.cell 1
   have qb2 : w3.cell? ⟨w.heap.size,2,none⟩ = some (.slice none 0 0) := HX3.out.cell 2
   have qb3 : w3.cell? ⟨w.heap.size,3,none⟩ = some (.slice none 0 0) := HX3.out.cell 3
   have qb4 : w3.cell? ⟨w.heap.size,4,none⟩ = some (.int .i64 0) := HX3.out.cell 4
   have rb0 := HX3.out.frozen 0
   have rb1 := HX3.out.frozen 1
   have rb2 := HX3.out.frozen 2
   have rb3 := HX3.out.frozen 3
   have rb4 := HX3.out.frozen 4
   cases hend : isEnd q.2 with
   | false =>
     have HE := hid (decT_none HD.out (decX_off (by rw [HQ.out]; exact isEnd_not hend)))
     have HEND := hid hend
     clear hend
     go_wp2_with fail
     refine (done_any g g q.2 _ (HRD.out.alloc _)).mono ?_
     rintro e w4 ⟨rfl,rfl⟩
     rw [HEND.out]
     go_wp2
     refine bodyPost_ret (v := .tuple #[txv 0 0 0 none 0 0 none 0 0,.int .i64 3]) (by simp [txv,results,Tryz.results51,go_sem,hR3,qb0,qb1,qb2,qb3,qb4]) rfl ?_
     exact decO_no HE.out rfl ((five_below HB3.out _ _ _ _ _).alloc (by simpa using HB3.out.size) _)
   | true =>
     have HEN := hid (isEnd_some hend)
     have HEND := hid hend
     clear hend
     go_wp2_with fail
     refine (done_any g g q.2 _ (HRD.out.alloc _)).mono ?_
     rintro e w4 ⟨rfl,rfl⟩
     rw [HEND.out]
     go_wp2_with fail
     refine (may_any w3.heap.size q.1.lsn q.1.kind q.1.mark A2 n2 c2 q.1.chs A3 n3 c3 q.1.sigs _ (Row.alloc (Row.of_own HOC.out) (Nat.le_refl _) _) (Row.alloc (Row.of_own HOS.out) (Nat.le_refl _) _) (by simp)).mono ?_
     rintro e w5 ⟨rfl,hb5⟩
     have HX5 := hid ((HX3.out.alloc _).below hb5 (by simp; omega))
     have HB5 := hid (held_two (HB3.out.alloc HB3.out.size _) hb5)
     have HOC5 := hid (own_keep (own_keep HOC.out ((Below.refl _ _).alloc (Nat.le_refl _) _)) hb5)
     have HOS5 := hid (own_keep (own_keep HOS.out ((Below.refl _ _).alloc (Nat.le_refl _) _)) hb5)
     have hbx : Blk w5 w3.heap.size 39 #[.int .i64 q.1.lsn,.int .i64 q.1.kind,.slice A2 n2 c2,.slice A3 n3 c3,.int .i64 q.1.mark] := (Blk.new w3 _ _).below hb5 (by simp)
     have t0 : w5.cell? ⟨w3.heap.size,0,none⟩ = some (.int .i64 q.1.lsn) := hbx.cell 0
     have t1 : w5.cell? ⟨w3.heap.size,1,none⟩ = some (.int .i64 q.1.kind) := hbx.cell 1
     have t2 : w5.cell? ⟨w3.heap.size,2,none⟩ = some (.slice A2 n2 c2) := hbx.cell 2
     have t3 : w5.cell? ⟨w3.heap.size,3,none⟩ = some (.slice A3 n3 c3) := hbx.cell 3
     have t4 : w5.cell? ⟨w3.heap.size,4,none⟩ = some (.int .i64 q.1.mark) := hbx.cell 4
     clear hb5 hbx qb0 qb1 qb2 qb3 qb4 rb0 rb1 rb2 rb3 rb4
     have qc0 : w5.cell? ⟨w.heap.size,0,none⟩ = some (.int .i64 0) := HX5.out.cell 0
     have qc1 : w5.cell? ⟨w.heap.size,1,none⟩ = some (.int .i64 0) := HX5.out.cell 1
     have qc2 : w5.cell? ⟨w.heap.size,2,none⟩ = some (.slice none 0 0) := HX5.out.cell 2
     have qc3 : w5.cell? ⟨w.heap.size,3,none⟩ = some (.slice none 0 0) := HX5.out.cell 3
     have qc4 : w5.cell? ⟨w.heap.size,4,none⟩ = some (.int .i64 0) := HX5.out.cell 4
     have rc0 := HX5.out.frozen 0
     have rc1 := HX5.out.frozen 1
     have rc2 := HX5.out.frozen 2
     have rc3 := HX5.out.frozen 3
     have rc4 := HX5.out.frozen 4
     have hq1 : (⟨q.1.lsn,q.1.kind,q.1.chs,q.1.sigs,q.1.mark⟩ : Tx) = q.1 := rfl
     rw [hq1]
     clear hq1
     cases hm : Tx.may q.1 with
     | true =>
       have HE := hid (decT_some HD.out (decX_good (by rw [HQ.out,HEN.out]) (by rw [HQ.out]; exact hm)))
       rw [HQ.out] at HE
       clear hm
       go_wp2
       have hon := five_on w5 w.heap.size (.int .i64 q.1.lsn) (.int .i64 q.1.kind) (.slice A2 n2 c2) (.slice A3 n3 c3) (.int .i64 q.1.mark)
       refine bodyPost_ret (v := .tuple #[txv q.1.lsn q.1.kind q.1.mark A2 n2 c2 A3 n3 c3,.int .i64 0]) (by simp [txv,results,Tryz.results51,go_sem,qc0,qc1,qc2,qc3,qc4]) rfl ?_
       unfold DecO
       rw [HE.out]
       refine ⟨A2,n2,c2,A3,n3,c3,rfl,own_mono (HOC5.out.kept hon (.inr fun e => by have := (HOC5.out.lt _ e).1; simp at this; omega)) (by simp; omega),own_mono (HOS5.out.kept hon (.inr fun e => by have := (HOS5.out.lt _ e).1; simp at this; omega)) (by simp; omega),five_below HB5.out _ _ _ _ _⟩
     | false =>
       have HE := hid (decT_none HD.out (decX_bad (by rw [HQ.out]; exact hm)))
       clear hm
       go_wp2
       refine bodyPost_ret (v := .tuple #[txv 0 0 0 none 0 0 none 0 0,.int .i64 3]) (by simp [txv,results,Tryz.results51,go_sem,qc0,qc1,qc2,qc3,qc4]) rfl ?_
       exact decO_no HE.out rfl (five_below HB5.out _ _ _ _ _)
theorem decode_any (B : Nat) (A : Option Addr) (n c : Nat) (l : List UInt8) (w : World) (hr : Bytes w B A n c l) (hB : B <= w.heap.size) :
 Calls Tryz.prog 51 #[.slice A n c] w (DecT w l) := by
 refine (decode_own B A n c l w hr hB).mono ?_
 rintro e w' ⟨A1,n1,c1,A2,n2,c2,h1,h2,h3,h4⟩
 exact ⟨A1,n1,c1,A2,n2,c2,h1,Row.of_own h2,Row.of_own h3,h4⟩
end Txn
namespace Txn
open Go.RowKit Base FieldMath TxnMath
open Field (ret_bool)
theorem encT_val {w w' : World} {t : Tx} {e : Ending} (h : EncT w t e w') (hm : t.may = true) : ∃ A c,e = .returned (.tuple #[.slice A (FieldMath.encZ (flds t)).length c,.int .i64 0]) /\ w'.ownsRow w.heap.size 5 1 (.slice A (FieldMath.encZ (flds t)).length c) (FieldMath.encZ (flds t)).length (bv (FieldMath.encZ (flds t))) /\ Below w.heap.size w w' := by
 unfold EncT at h
 rw [encT_ok hm] at h
 obtain ⟨A,n,c,he,ho,hb⟩ := h
 have hn : n = (FieldMath.encZ (flds t)).length := by have := ho.1; rw [show got (Except.ok (FieldMath.encZ (flds t)) : Except Nat (List UInt8)) = FieldMath.encZ (flds t) from rfl,bv_length,Nat.mul_one] at this; exact this.symm
 subst hn
 exact ⟨A,c,he,ho,hb⟩
end Txn
end Go.Proofs.YtefnmnpfecfdaaaGreat
