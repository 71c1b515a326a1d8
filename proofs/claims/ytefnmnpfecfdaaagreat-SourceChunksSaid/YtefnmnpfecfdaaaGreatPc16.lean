/-
  Texts of one proof: PlayChg, TblChg, TblApply, IdxRef, IdxHelp, TblSeen, IdxOpen.
-/
import Derived.Test.YtefnmnpfecfdaaaGreatPc15
import Derived.Deep.RegionHeld3
set_option linter.all false
set_option maxRecDepth 100000
set_option maxHeartbeats 3200000
open Go.Lib (hid)
namespace Go.Proofs.YtefnmnpfecfdaaaGreat
namespace PChg
open Go.RowKit Base FieldMath TxnMath
open Field (modZ modZ_lt mod_any bigZ bigZ_lt playbig_any cut_any)
def gcells (c : Ch) : List Value := [.int .i64 c.tbl,.int .i64 c.key,.bool c.gone,.string c.val]
def gval (c : Ch) : Value := .agg #[.int .i64 c.tbl,.int .i64 c.key,.bool c.gone,.string c.val]
def gv (l : List Ch) : List Value := l.flatMap gcells
theorem gv_append (l m : List Ch) : gv (l ++ m) = gv l ++ gv m := List.flatMap_append
theorem gv_one (l : List Ch) : ∀ u ∈ gv l,u.oneCell' = true := by
 intro u hu
 obtain ⟨f,_,hf⟩ := List.mem_flatMap.1 hu
 simp only [gcells,List.mem_cons,List.not_mem_nil,or_false] at hf
 rcases hf with rfl | rfl | rfl | rfl <;> rfl
theorem gv_cons (x : Ch) (l : List Ch) : gv (x :: l) = .int .i64 x.tbl :: .int .i64 x.key :: .bool x.gone :: .string x.val :: gv l := rfl
theorem gv_length (l : List Ch) : (gv l).length = l.length * 4 := by
 induction l with
 | nil => rfl
 | cons f l ih => rw [gv_cons]; simp only [List.length_cons,ih]; omega
theorem gv_get (l : List Ch) (k : Nat) (f : Ch) (h : l[k]? = some f) : (gv l)[k * 4]? = some (.int .i64 f.tbl) /\ (gv l)[k * 4 + 1]? = some (.int .i64 f.key) /\ (gv l)[k * 4 + 2]? = some (.bool f.gone) /\ (gv l)[k * 4 + 3]? = some (.string f.val) := by
 induction l generalizing k with
 | nil => simp at h
 | cons g l ih =>
   rw [gv_cons]
   cases k with
   | zero =>
     simp only [List.getElem?_cons_zero,Option.some.injEq] at h
     subst h
     exact ⟨rfl,rfl,rfl,rfl⟩
   | succ k =>
     rw [List.getElem?_cons_succ] at h
     have := ih k h
     rw [show (k + 1) * 4 = k * 4 + 1 + 1 + 1 + 1 by omega]
     simpa using this
def Cs (w : World) (B : Nat) (A : Option Addr) (n c : Nat) (l : List Ch) : Prop := Row w B 4 A n c (gv l)
section
variable {w w' : World} {B B' n c : Nat} {A : Option Addr} {l : List Ch}
theorem Cs.len (h : Cs w B A n c l) : l.length = n := by have := h.1; rw [gv_length] at this; omega
theorem Cs.le (h : Cs w B A n c l) : n <= c /\ c <= 9223372036854775807 := ⟨h.2.1,h.2.2.1⟩
theorem Cs.below (h : Cs w B A n c l) (hb : Below B w w') : Cs w' B A n c l := Row.below h hb
theorem Cs.more (h : Cs w B A n c l) (hB : B <= B') : Cs w B' A n c l := Row.more h hB
theorem Cs.at_ (h : Cs w B A n c l) {k : Nat} (hk : k < n) :
 ∃ b off f,A = some ⟨b,off,none⟩ /\ b < B /\ w.cell? ⟨b,off + k * 4,none⟩ = some (.int .i64 f.tbl) /\ w.cell? ⟨b,off + k * 4 + 1,none⟩ = some (.int .i64 f.key) /\ w.cell? ⟨b,off + k * 4 + 2,none⟩ = some (.bool f.gone) /\ w.cell? ⟨b,off + k * 4 + 3,none⟩ = some (.string f.val) /\ l[k]? = some f /\ l.take (k + 1) = l.take k ++ [f] := by
 obtain ⟨b,off,e,hb,hc⟩ := h.2.2.2 (by omega)
 have hl : k < l.length := by rw [h.len]; exact hk
 have hg : l[k]? = some l[k] := List.getElem?_eq_getElem hl
 have := gv_get l k _ hg
 exact ⟨b,off,l[k],e,hb,hc _ _ this.1,hc _ _ this.2.1,hc _ _ this.2.2.1,hc _ _ this.2.2.2,hg,List.take_succ_eq_append_getElem hl⟩
end
theorem ech : Elem Tryz.prog 35 64 4 40 (.agg #[.int .i64 0,.int .i64 0,.bool false,.string ⟨#[]⟩]) := Elem.of Tryz.underlying35 (by kernel_rfl) rfl (by omega)
theorem one_ch (w : World) (f : Ch) {s : Nat} (hs : s = w.heap.size) : Row (w.alloc (.cells #[.int .i64 f.tbl,.int .i64 f.key,.bool f.gone,.string f.val] 64)) (w.heap.size + 1) 4 (some ⟨s,0,none⟩) 1 1 (gv [f]) :=
 Row.lit w #[.int .i64 f.tbl,.int .i64 f.key,.bool f.gone,.string f.val] _ (0,0) hs rfl (by omega)
theorem may_mk {n a k : Int} {g : Bool} {v : ByteArray} (h1 : 0 <= a) (h2 : a < n) (h3 : 1 <= k) (h4 : k <= 1099511627776) (h5 : g = true -> v.size = 0) (h6 : v.size <= 32) : Ch.may n ⟨a,k,g,v⟩ = true := by
 unfold Ch.may
 dsimp only
 rw [decide_eq_true h1,decide_eq_true h2,decide_eq_true h3,decide_eq_true h4]
 cases g with
 | true => simp [h5 rfl]
 | false => simp [h6]
def MadeCh (N : Nat) (w : World) (e : Ending) (w' : World) : Prop := ∃ c : Ch,e = .returned (gval c) /\ c.may N = true /\ Below w.heap.size w w'
def ChCut (w : World) (f : Ch) (a k : Int) (p : Value) (wx : World) : Prop := ∃ C,p = .pointer (some ⟨C,0,none⟩) /\ Blk wx C 64 #[.int .i64 a,.int .i64 k,.bool f.gone,.string ⟨#[]⟩] /\ Blk wx w.heap.size 64 #[.int .i64 f.tbl,.int .i64 f.key,.bool f.gone,.string f.val] /\ Blk wx (w.heap.size + 1) 64 #[.int .i64 0,.int .i64 0,.bool false,.string ⟨#[]⟩] /\ w.heap.size + 1 < C /\ Below w.heap.size w wx
theorem pchange_any (N : Nat) (hN : 1 <= N) (hN8 : N <= 8) (f : Ch) (w : World) (hs : f.val.size <= 9223372036854775807) :
 Calls Tryz.prog 41 #[gval f,.int .i64 N] w (MadeCh N w) := by
 obtain ⟨ft,fk,fg,fv⟩ := f
 unfold gval
 dsimp only at hs ⊢
 have C1 := fun w => mod_any ft N w (by omega) (by omega)
 have b1 := modZ_lt ft (n := N) (by omega)
 have C2 := fun w => playbig_any fk 12 w (by omega) (by omega)
 have b2 := bigZ_lt fk (n := 12) (by omega)
 have C3 := fun w => playbig_any fk 31 w (by omega) (by omega)
 have b3 := bigZ_lt fk (n := 31) (by omega)
 have C4 := fun w => playbig_any fk 1099511627776 w (by omega) (by omega)
 have b4 := bigZ_lt fk (n := 1099511627776) (by omega)
 generalize modZ ft N = a at C1 b1
 generalize bigZ fk 12 = k1 at C2 b2
 generalize bigZ fk 31 = k2 at C3 b3
 generalize bigZ fk 1099511627776 = k3 at C4 b4
 have D1 := hid C1
 have D2 := hid C2
 have D3 := hid C3
 have D4 := hid C4
 have B4 := hid b4
 clear C1 C2 C3 C4 b4
 have hcv : (str (fv.data.toList.take 32)).size <= 32 := by rw [str_size,List.length_take]; omega
 have CV := hid (fun w => cut_any fv 32 w hs (by omega))
 have HCV := hid hcv
 clear hcv
 have hwr : IntKind.i64.wrap (1 + (k1 : Int)) = 1 + (k1 : Int) := IntWalk.i64_in _ (by omega)
 have HWR := hid hwr
 clear hwr
 go_enter Tryz.func41,Tryz.ntmps41
 go_upto_region 1 with fail
 have hx : Blk ((w.alloc (.cells #[.int .i64 ft,.int .i64 fk,.bool fg,.string fv] 64)).alloc (.cells #[.int .i64 0,.int .i64 0,.bool false,.string ⟨#[]⟩] 64)) w.heap.size 64 #[.int .i64 ft,.int .i64 fk,.bool fg,.string fv] := (Blk.new _ _ _).alloc _
 have hy : Blk ((w.alloc (.cells #[.int .i64 ft,.int .i64 fk,.bool fg,.string fv] 64)).alloc (.cells #[.int .i64 0,.int .i64 0,.bool false,.string ⟨#[]⟩] 64)) (w.heap.size + 1) 64 #[.int .i64 0,.int .i64 0,.bool false,.string ⟨#[]⟩] := by have := Blk.new (w.alloc (.cells #[.int .i64 ft,.int .i64 fk,.bool fg,.string fv] 64)) 64 #[.int .i64 0,.int .i64 0,.bool false,.string ⟨#[]⟩]; simpa using this
 have hw : Below w.heap.size w ((w.alloc (.cells #[.int .i64 ft,.int .i64 fk,.bool fg,.string fv] 64)).alloc (.cells #[.int .i64 0,.int .i64 0,.bool false,.string ⟨#[]⟩] 64)) := ((Below.refl _ _).alloc (Nat.le_refl _) _).alloc (by simp) _
 generalize ((w.alloc (.cells #[.int .i64 ft,.int .i64 fk,.bool fg,.string fv] 64)).alloc (.cells #[.int .i64 0,.int .i64 0,.bool false,.string ⟨#[]⟩] 64)) = W at hx hy hw
 have HX := hid hx
 have HY := hid hy
 have HW := hid hw
 clear hx hy hw
 go_cut [5] (fun p wx => ChCut w ⟨ft,fk,fg,fv⟩ a (1 + (k1 : Int)) p wx)
 case first =>
  go_region_held3 (fun w' => w'.cell? ⟨w.heap.size,0,none⟩ = some (.int .i64 ft) /\ w'.cell? ⟨w.heap.size,1,none⟩ = some (.int .i64 fk) /\ w'.cell? ⟨w.heap.size,2,none⟩ = some (.bool fg))
   (first
     | exact ⟨HX.out.cell 0,HX.out.cell 1,HX.out.cell 2⟩
     | exact ⟨(HX.out.alloc _).cell 0,(HX.out.alloc _).cell 1,(HX.out.alloc _).cell 2⟩
     | assumption)
   (first
     | (go_at_call 12; refine (D1.out _).mono ?_; rintro e w1 ⟨rfl,rfl⟩)
     | (go_at_call 31; refine (D2.out _).mono ?_; rintro e w1 ⟨rfl,rfl⟩)
     | fail)
  all_goals (
   rw [HWR.out]
   go_wp2_with fail
   go_meet
   exact ⟨W.heap.size,rfl,Blk.new W _ _,HX.out.alloc _,HY.out.alloc _,HY.out.lt,(HW.out.alloc HW.out.size _).drew⟩)
 case rest =>
  obtain ⟨C,rfl,hc,hx2,hy2,hlt,hbel⟩ := hcut
  have x0 : wc.cell? ⟨w.heap.size,0,none⟩ = some (.int .i64 ft) := hx2.cell 0
  have x1 : wc.cell? ⟨w.heap.size,1,none⟩ = some (.int .i64 fk) := hx2.cell 1
  have x2 : wc.cell? ⟨w.heap.size,2,none⟩ = some (.bool fg) := hx2.cell 2
  have x3 : wc.cell? ⟨w.heap.size,3,none⟩ = some (.string fv) := hx2.cell 3
  have c0 : wc.cell? ⟨C,0,none⟩ = some (.int .i64 a) := hc.cell 0
  have c1 : wc.cell? ⟨C,1,none⟩ = some (.int .i64 (1 + (k1 : Int))) := hc.cell 1
  have c2 : wc.cell? ⟨C,2,none⟩ = some (.bool fg) := hc.cell 2
  have c3 : wc.cell? ⟨C,3,none⟩ = some (.string ⟨#[]⟩) := hc.cell 3
  have r0 : wc.cell? ⟨w.heap.size + 1,0,none⟩ = some (.int .i64 0) := hy2.cell 0
  have r1 : wc.cell? ⟨w.heap.size + 1,1,none⟩ = some (.int .i64 0) := hy2.cell 1
  have r2 : wc.cell? ⟨w.heap.size + 1,2,none⟩ = some (.bool false) := hy2.cell 2
  have r3 : wc.cell? ⟨w.heap.size + 1,3,none⟩ = some (.string ⟨#[]⟩) := hy2.cell 3
  have fc1 := hc.frozen 1
  have fc3 := hc.frozen 3
  have fr0 := hy2.frozen 0
  have fr1 := hy2.frozen 1
  have fr2 := hy2.frozen 2
  have fr3 := hy2.frozen 3
  have hRC : w.heap.size + 1 ≠ C := by omega
  have hCR : C ≠ w.heap.size + 1 := by omega
  have hXC : w.heap.size ≠ C := by omega
  have hCX : C ≠ w.heap.size := by omega
  have HB := hid hbel
  have hCw : w.heap.size <= C := by omega
  clear hc hx2 hy2 hbel
  by_cases h30 : k2 = 30
  ·have t1 : ((k2 : Int) == 30) = true := by simp; omega
   have hk3 : k3 < 1099511627776 := B4.out
   cases fg with
   | true =>
     go_wp2_with fail
     refine (D3.out _).mono ?_
     rintro e w1 ⟨rfl,rfl⟩
     go_wp2_with fail
     refine (D4.out _).mono ?_
     rintro e w1 ⟨rfl,rfl⟩
     go_wp2
     refine bodyPost_ret (v := gval ⟨a,1 + (k3 : Int),true,⟨#[]⟩⟩) (by simp [gval,results,Tryz.results41,go_sem,hRC,hCR,r0,r1,r2,r3]) rfl ⟨⟨a,1 + (k3 : Int),true,⟨#[]⟩⟩,rfl,may_mk (by omega) (by omega) (by omega) (by omega) (by intro h; first | rfl | cases h) (by first | exact HCV.out | exact Nat.zero_le _),?_⟩
     exact (((((HB.out.setCell (by exact hCw) _).setCell (by exact Nat.le_succ _) _).setCell (by exact Nat.le_succ _) _).setCell (by exact Nat.le_succ _) _).setCell (by exact Nat.le_succ _) _)
   | false =>
     go_wp2_with fail
     refine (D3.out _).mono ?_
     rintro e w1 ⟨rfl,rfl⟩
     go_wp2_with fail
     refine (D4.out _).mono ?_
     rintro e w1 ⟨rfl,rfl⟩
     go_wp2_with fail
     refine (CV.out _).mono ?_
     rintro e w1 ⟨rfl,rfl⟩
     go_wp2
     refine bodyPost_ret (v := gval ⟨a,1 + (k3 : Int),false,str (fv.data.toList.take 32)⟩) (by simp [gval,results,Tryz.results41,go_sem,hRC,hCR,r0,r1,r2,r3]) rfl ⟨⟨a,1 + (k3 : Int),false,str (fv.data.toList.take 32)⟩,rfl,may_mk (by omega) (by omega) (by omega) (by omega) (by intro h; first | rfl | cases h) (by first | exact HCV.out | exact Nat.zero_le _),?_⟩
     exact ((((((HB.out.setCell (by exact hCw) _).setCell (by exact hCw) _).setCell (by exact Nat.le_succ _) _).setCell (by exact Nat.le_succ _) _).setCell (by exact Nat.le_succ _) _).setCell (by exact Nat.le_succ _) _)
  ·have t1 : ((k2 : Int) == 30) = false := by simp; omega
   cases fg with
   | true =>
     go_wp2_with fail
     refine (D3.out _).mono ?_
     rintro e w1 ⟨rfl,rfl⟩
     go_wp2
     refine bodyPost_ret (v := gval ⟨a,1 + (k1 : Int),true,⟨#[]⟩⟩) (by simp [gval,results,Tryz.results41,go_sem,hRC,hCR,r0,r1,r2,r3]) rfl ⟨⟨a,1 + (k1 : Int),true,⟨#[]⟩⟩,rfl,may_mk (by omega) (by omega) (by omega) (by omega) (by intro h; first | rfl | cases h) (by first | exact HCV.out | exact Nat.zero_le _),?_⟩
     exact ((((HB.out.setCell (by exact Nat.le_succ _) _).setCell (by exact Nat.le_succ _) _).setCell (by exact Nat.le_succ _) _).setCell (by exact Nat.le_succ _) _)
   | false =>
     go_wp2_with fail
     refine (D3.out _).mono ?_
     rintro e w1 ⟨rfl,rfl⟩
     go_wp2_with fail
     refine (CV.out _).mono ?_
     rintro e w1 ⟨rfl,rfl⟩
     go_wp2
     refine bodyPost_ret (v := gval ⟨a,1 + (k1 : Int),false,str (fv.data.toList.take 32)⟩) (by simp [gval,results,Tryz.results41,go_sem,hRC,hCR,r0,r1,r2,r3]) rfl ⟨⟨a,1 + (k1 : Int),false,str (fv.data.toList.take 32)⟩,rfl,may_mk (by omega) (by omega) (by omega) (by omega) (by intro h; first | rfl | cases h) (by first | exact HCV.out | exact Nat.zero_le _),?_⟩
     exact (((((HB.out.setCell (by exact hCw) _).setCell (by exact Nat.le_succ _) _).setCell (by exact Nat.le_succ _) _).setCell (by exact Nat.le_succ _) _).setCell (by exact Nat.le_succ _) _)
theorem all_snoc {α : Type} {l : List α} {p : α -> Prop} {x : α} (h : ∀ y ∈ l,p y) (hx : p x) : ∀ y ∈ l ++ [x],p y := by
 intro y hy
 rcases List.mem_append.1 hy with hy | hy
 ·exact h y hy
 ·rw [List.mem_singleton] at hy
  subst hy
  exact hx
def SomeCh (N M : Nat) (w : World) (e : Ending) (w' : World) : Prop := ∃ (l : List Ch) (A : Option Addr) (n c : Nat),e = .returned (.slice A n c) /\ n <= M /\ w'.ownsRow w.heap.size 64 4 (.slice A n c) n (gv l) /\ (∀ f ∈ l,f.may N = true) /\ Below w.heap.size w w'
def SomeRel (N M : Nat) (w : World) (n : Nat) (v i : Value) (wr : World) : Prop := ∃ (k : Nat) (l : List Ch) (A : Option Addr) (c : Nat),k <= n /\ k <= M /\ i = .int .i64 k /\ v = .slice A k c /\ wr.ownsRow w.heap.size 64 4 (.slice A k c) k (gv l) /\ (∀ f ∈ l,f.may N = true) /\ Below w.heap.size w wr
theorem pchanges_any (N M : Nat) (hN : 1 <= N) (hN8 : N <= 8) (hM : M <= 1000) (B : Nat) (A : Option Addr) (n c : Nat) (l : List Ch) (w : World) (h : Cs w B A n c l) (hB : B <= w.heap.size) (hok : ∀ f ∈ l,f.val.size <= 9223372036854775807) :
 Calls Tryz.prog 13 #[.slice A n c,.int .i64 N,.int .i64 M] w (SomeCh N M w) := by
 have hle := h.le
 have HR := hid h
 have HOK := hid hok
 clear h hok
 go_enter Tryz.func13,Tryz.ntmps13
 go_wp2
 go_loopw [7,8] (fun v i wr => SomeRel N M w n v i wr) (fun _ i _ => n - (RowKit.intOf i).toNat)
 case atStart => exact ⟨0,[],none,0,by omega,by omega,rfl,rfl,World.ownsRow_nil _ _ _ _,(fun f hf => by cases hf),Below.refl _ _⟩
 case round =>
  obtain ⟨k,pre,A1,c1,hk,hk5,rfl,rfl,hown,hall,hbel⟩ := hrel
  have HO := hid hown
  have HA := hid hall
  have HB := hid hbel
  have hz := hbel.size
  clear hown hall hbel
  by_cases hgo : k < n /\ k < M
  ·obtain ⟨hlt,hlt5⟩ := hgo
   obtain ⟨b,off,f,rfl,hb,q0,q1,q2,q3,hget,_⟩ := (HR.out.below (HB.out.mono hB)).at_ hlt
   have HG := hid (HOK.out f (List.mem_of_getElem? hget))
   clear hget
   have l1 : (k : Int) < (n : Int) := by omega
   have l2 : (k : Int) < (M : Int) := by omega
   go_wp2_with fail
   refine (pchange_any N hN hN8 f _ HG.out).mono ?_
   rintro e w2 ⟨f2,rfl,hm2,hb2⟩
   have HM2 := hid hm2
   have HB2 := hid (held_call HB.out hb2 : Below w.heap.size w w2)
   have HO2 := hid (own_keep HO.out hb2)
   have hz2 : w.heap.size <= w2.heap.size := HB2.out.size
   clear hm2 hb2
   unfold gval
   go_wp2_with (first
    | (at_builtin
       refine wpList_append_row rfl (.tmp 20) (.tmp 27) rfl ech w.heap.size _ k (gv pre) rfl (own_keep HO2.out ((Below.refl _ _).alloc (Nat.le_refl _) _)) _ _ 1 1 (gv [f2]) rfl (one_ch w2 f2 rfl) (gv_one _) (by omega) (by omega) (by simp; omega) ?_
       intro A3 c3 w3 hown3 _ hb3
       rw [<- gv_append] at hown3
       have HO3 := hid hown3
       have HB3 := hid ((HB2.out.alloc hz2 _).trans hb3)
       clear hown3 hb3)
    | fail)
   go_roundw
   case rel => exact ⟨k + 1,pre ++ [f2],A3,c3,by omega,by omega,by go_num,rfl,HO3.out,all_snoc HA.out HM2.out,HB3.out⟩
   case measure => simp [RowKit.intOf]; omega
  ·by_cases hkn : k < n
   all_goals
    have h5 : k < n -> ¬ k < M := fun h h5 => hgo ⟨h,h5⟩
    clear hgo
   ·have l1 : (k : Int) < (n : Int) := by omega
    have l2 : ¬ (k : Int) < (M : Int) := by omega
    go_wp2
    go_ret
    exact ⟨pre,A1,k,c1,rfl,hk5,HO.out,HA.out,HB.out⟩
   ·have l1 : ¬ (k : Int) < (n : Int) := by omega
    go_wp2
    go_ret
    exact ⟨pre,A1,k,c1,rfl,hk5,HO.out,HA.out,HB.out⟩
end PChg
namespace Tbl
open Go.RowKit Base IdxMath Foot Idx
open PChg (gcells gval gv gv_cons gv_length gv_get Cs)
def Did (w : World) (F : Nat -> Prop) (p : Nat) (l : List Rw) (e : Ending) (w' : World) : Prop :=
 e = .returned (.tuple #[]) /\ IdxAt w' (Out F w w') p l /\ Turn F w w'
theorem out_from {F : Nat -> Prop} {w wa w1 : World} {i : Nat} (h : w.heap.size <= wa.heap.size) (hi : Out F wa w1 i) : Out F w w1 i := hi.imp id fun k => ⟨Nat.le_trans h k.1,k.2⟩
theorem apply_any (F : Nat -> Prop) (p : Nat) (l : List Rw) (c : Cg) (w : World) (h : IdxAt w F p l) (hsz : l.length <= 1099511627774) :
 Calls Tryz.prog 175 #[.agg #[.pointer (some ⟨p,0,none⟩)],gval c] w (Did w F p (one l c)) := by
 obtain ⟨t,k,gone,v⟩ := c
 have hb : Below w.heap.size w ((w.alloc (.cells #[.pointer (some ⟨p,0,none⟩)] 122)).alloc (.cells #[.int .i64 t,.int .i64 k,.bool gone,.string v] 64)) :=
  ((Below.refl _ _).alloc (Nat.le_refl _) _).alloc (by simp) _
 have HI := hid (h.new hb)
 have HT : Hid (Turn F w _) := Turn.new hb
 clear h hb
 unfold gval
 dsimp only
 cases gone with
 | true =>
   go_enter Tryz.func175,Tryz.ntmps175
   go_wp2_with fail
   refine (del_any F p l k _ HI.out hsz).mono ?_
   rintro e w1 ⟨rfl,h1,h2⟩
   have H1 := hid (And.intro h1 h2)
   clear h1 h2
   go_wp2
   go_end0
   exact ⟨rfl,H1.out.1.mono fun i hi hO => out_from HT.out.size hO,HT.out.trans H1.out.2 fun _ h => .inl h⟩
 | false =>
   go_enter Tryz.func175,Tryz.ntmps175
   go_wp2_with fail
   refine (put_any F p l k v _ HI.out hsz).mono ?_
   rintro e w1 ⟨rfl,h1,h2⟩
   have H1 := hid (And.intro h1 h2)
   clear h1 h2
   go_wp2
   go_end0
   exact ⟨rfl,H1.out.1.mono fun i hi hO => out_from HT.out.size hO,HT.out.trans H1.out.2 fun _ h => .inl h⟩
theorem hasAll_any (F : Nat -> Prop) (p : Nat) (T : List (List Rw)) (A : Option Addr) (n c : Nat) (l : List Cg) (w : World) (h : SetAt w F p T) (hl : Cs w w.heap.size A n c l) :
 Calls Tryz.prog 166 #[.pointer (some ⟨p,0,none⟩),.slice A n c] w fun e w' => e = .returned (.bool (allT T l)) /\ Below w.heap.size w w' := by
 have HS := hid h
 have HC := hid hl
 have hle := hl.le
 have HL := hid hl.len
 clear h hl
 go_enter Tryz.func166,Tryz.ntmps166
 go_wp2
 go_loopw [9] (fun vi wr => ∃ k : Nat,vi = .int .i64 k /\ k <= n /\ allT T (l.take k) = true /\ Below w.heap.size w wr) (fun vi _ => n - (RowKit.intOf vi).toNat)
 case atStart => exact ⟨0,rfl,Nat.zero_le _,rfl,Below.refl _ _⟩
 case round =>
  obtain ⟨k,rfl,hk,hall,hb⟩ := hrel
  have HB := hid hb
  have HA := hid hall
  clear hb hall
  by_cases hkn : k < n
  ·obtain ⟨b,off,f,rfl,hbB,c0,c1,c2,c3,hf,ht⟩ := (HC.out.below HB.out).at_ hkn
   have l1 : (k : Int) < (n : Int) := by omega
   have HT := hid ht
   have HF := hid hf
   obtain ⟨ft,fk,fg,fv⟩ := f
   dsimp only at c0 c1 c2 c3
   clear hf ht
   have HW1 : Hid (Below w.heap.size w (wr.alloc (.cells #[.int .i64 ft,.int .i64 fk,.bool fg,.string fv] 64))) := HB.out.alloc HB.out.size _
   go_wp2_with fail
   refine (has_any F p T ft _ (HS.out.new HW1.out)).mono ?_
   rintro e w1 ⟨rfl,rfl⟩
   cases hT : isT T ft with
   | true =>
     have HX : Hid (allT T (l.take (k + 1)) = true) := by show _ = _; rw [HT.out,allT_snoc,HA.out]; exact hT
     clear hT
     go_wp2
     refine ⟨⟨k + 1,by rw [Int.natCast_add]; rfl,hkn,HX.out,HW1.out⟩,?_⟩; simp only [RowKit.intOf,Int.toNat_natCast]; omega
   | false =>
     have HX := hid (allT_not HF.out hT)
     clear hT
     go_wp2
     go_ret
     exact ⟨by rw [HX.out]; rfl,HW1.out⟩
  ·have l1 : decide ((k : Int) < (n : Int)) = false := decide_eq_false (by omega)
   obtain rfl : k = n := by omega
   rw [show l.take k = l by rw [<- HL.out,List.take_length]] at HA
   go_wp2
   go_ret
   exact ⟨by rw [HA.out]; rfl,HB.out⟩
end Tbl
namespace Tbl
open Go.RowKit Base IdxMath Foot Idx
open PChg (gcells gval gv gv_cons gv_length gv_get Cs)
theorem Lie.step {w w' : World} {F : Nat -> Prop} {p b : Nat} {ps : List Nat} {G : Nat -> Nat -> Prop} {T : List (List Rw)} (h : Lie w F p b ps G T) {i : Nat} (hi : i < T.length) {q : Nat} {l' : List Rw}
 (hqi : ps[i]? = some q) (hq : IdxAt w' (Out (G i) w w') q l') (ht : Turn (G i) w w') : SetAt w' (Out F w w') p (T.set i l') /\ Turn F w w' := by
 have hplt := h.box.lt
 have hblt := h.row.lt
 have hsz := ht.size
 have hip : i < ps.length := by rw [h.len]; exact hi
 have hTF : Turn F w w' := ⟨ht.os,ht.tape,ht.output,ht.size,fun x hx hn => ht.block x hx fun hg => hn (h.ing i x hi hx hg).1⟩
 refine ⟨⟨b,ps,fun j x => if j = i then Out (G i) w w' x else G j x /\ x < w.heap.size,?_⟩,hTF⟩
 refine ⟨?_,?_,by rw [List.length_set,h.len],by rw [List.length_set]; exact h.most,by rw [List.length_set]; exact h.some_,.inl h.inp,.inl h.inb,h.ne,?_,?_,?_⟩
 ·rw [List.length_set]
  exact (ht.block p hplt fun hg => (h.ing i p hi hplt hg).2.1 rfl).trans h.box
 ·exact (ht.block b hblt fun hg => (h.ing i b hi hblt hg).2.2 rfl).trans h.row
 ·intro j q' l h1 h2
  by_cases hj : j = i
  ·subst hj
   rw [List.getElem?_set_self hi] at h2
   obtain rfl := Option.some.inj h2
   rw [hqi] at h1
   obtain rfl := Option.some.inj h1
   exact hq.mono fun x hx hG => by rw [if_pos rfl]; exact hG
  ·rw [List.getElem?_set_ne (fun e => hj e.symm)] at h2
   have hjl : j < T.length := (List.getElem?_eq_some_iff.1 h2).1
   refine ((h.each j q' l h1 h2).mono (F' := fun x => if j = i then Out (G i) w w' x else G j x /\ x < w.heap.size) fun x hx hG => ?_).keep fun x hx hG => ?_
   ·rw [if_neg hj]; exact ⟨hG,hx⟩
   ·rw [if_neg hj] at hG
    exact ht.block x hx fun hg => h.apart j i x hjl hi hj hx hG.1 hg
 ·intro j x hj hx hG
  rw [List.length_set] at hj
  by_cases hji : j = i
  ·rw [if_pos hji] at hG
   rcases Nat.lt_or_ge x w.heap.size with hxl | hxl
   ·rcases hG with hG | hG
    ·have := h.ing i x hi hxl hG
     exact ⟨.inl this.1,this.2⟩
    ·omega
   ·exact ⟨.inr ⟨hxl,hx⟩,by omega,by omega⟩
  ·rw [if_neg hji] at hG
   have := h.ing j x hj hG.2 hG.1
   exact ⟨.inl this.1,this.2⟩
 ·intro j k x hj hk hjk hx h1 h2
  rw [List.length_set] at hj hk
  by_cases hji : j = i
  ·rw [if_pos hji] at h1
   rw [if_neg (fun e => hjk (hji.trans e.symm))] at h2
   rcases h1 with h1 | h1
   ·exact h.apart i k x hi hk (fun e => hjk (hji.trans e)) h2.2 h1 h2.1
   ·omega
  ·rw [if_neg hji] at h1
   by_cases hki : k = i
   ·rw [if_pos hki] at h2
    rcases h2 with h2 | h2
    ·exact h.apart i j x hi hj (fun e => hji e.symm) h1.2 h2 h1.1
    ·omega
   ·rw [if_neg hki] at h2
    exact h.apart j k x hj hk hjk h1.2 h1.1 h2.1
theorem step_set {F : Nat -> Prop} {w wr wa w2 : World} {p : Nat} {T : List (List Rw)} (h1 : Turn F w wr) (h2 : Below wr.heap.size wr wa) (h3 : SetAt w2 (Out (Out F w wr) wa w2) p T) (h4 : wa.heap.size <= w2.heap.size) : SetAt w2 (Out F w w2) p T := by
 have e1 := h1.size
 have e2 := h2.size
 refine h3.mono fun i hi h => ?_
 rcases h with (h | h) | h
 ·exact .inl h
 ·exact .inr ⟨h.1,hi⟩
 ·exact .inr ⟨by omega,hi⟩
theorem apply_set (F : Nat -> Prop) (p : Nat) (T : List (List Rw)) (M : Nat) (A : Option Addr) (n c : Nat) (l : List Cg) (w : World) (h : SetAt w F p T) (hl : ∀ wr,Turn F w wr -> Cs wr wr.heap.size A n c l) (hM : Most T M) (hsz : M + n <= 1099511627774) :
 Calls Tryz.prog 105 #[.pointer (some ⟨p,0,none⟩),.slice A n c] w (SetTurned w F p (allT T l) (appl T l)) := by
 have HH := hid (hasAll_any F p T A n c l w h (hl w (.refl _ _)))
 have HS := hid h
 have HC := hid hl
 have HLEN := hid (hl w (.refl _ _)).len
 have hle := (hl w (.refl _ _)).le
 have HM := hid hM
 clear h hl hM
 cases ht : allT T l with
 | false =>
   have HT := hid ht
   clear ht
   go_enter Tryz.func105,Tryz.ntmps105
   go_wp2_with fail
   refine HH.out.mono ?_
   rintro e w1 ⟨rfl,hb⟩
   rw [HT.out]
   have HB1 := hid hb
   clear hb
   go_wp2
   go_ret
   refine ⟨rfl,?_,Turn.new HB1.out⟩
   unfold appl
   rw [HT.out]
   exact (HS.out.new HB1.out).mono fun i _ hi => .inl hi
 | true =>
   have HT := hid ht
   clear ht
   go_enter Tryz.func105,Tryz.ntmps105
   go_wp2_with fail
   refine HH.out.mono ?_
   rintro e w1 ⟨rfl,hb⟩
   rw [HT.out]
   have HB1 := hid hb
   clear hb
   go_wp2
   go_loopw [13,6] (fun vi _ wr => ∃ k : Nat,vi = .int .i64 k /\ k <= n /\ SetAt wr (Out F w wr) p (doAll T (l.take k)) /\ Most (doAll T (l.take k)) (M + k) /\ Turn F w wr) (fun vi _ _ => n - (RowKit.intOf vi).toNat)
   case atStart => exact ⟨0,rfl,Nat.zero_le _,(HS.out.new HB1.out).mono fun i _ hi => .inl hi,HM.out,Turn.new HB1.out⟩
   case round =>
    obtain ⟨k,rfl,hk,hset,hmost,hturn⟩ := hrel
    by_cases hkn : k < n
    ·obtain ⟨b,off,f,rfl,hbB,c0,c1,c2,c3,hf,ht⟩ := (HC.out wr hturn).at_ hkn
     have hft := allT_at HT.out hf
     obtain ⟨ft,fk,fg,fv⟩ := f
     dsimp only at c0 c1 c2 c3 hft
     obtain ⟨i,rfl,hi⟩ := isT_nat hft
     have hi2 : i < (doAll T (l.take k)).length := by rw [doAll_length]; exact hi
     have hnew : doAll T (l.take (k + 1)) = (doAll T (l.take k)).set i (one (tab (doAll T (l.take k)) (i : Int)) ⟨i,fk,fg,fv⟩) := by rw [ht,doAll_snoc,do1,Int.toNat_natCast]
     have hmost2 : Most (doAll T (l.take (k + 1))) (M + (k + 1)) := by
      rw [ht,doAll_snoc]
      exact hmost.do1 (by rw [isT_length (doAll_length _ _)]; exact hft)
     have hshort := hmost (i : Int)
     generalize hTT : doAll T (l.take k) = TT at *
     generalize hTN : doAll T (l.take (k + 1)) = TN at *
     have HTN := hid hTN
     clear hTN
     obtain ⟨bb,ps,G,hX⟩ := hset
     have hb01 : Below wr.heap.size wr (wr.alloc (.cells #[.int .i64 i,.int .i64 fk,.bool fg,.string fv] 64)).drew := ((Below.refl _ _).alloc (Nat.le_refl _) _).drew
     have hX1 := hX.keep hb01.size fun x hx _ => hb01.block x hx
     obtain ⟨q,l0,e1,e2,d1,hq0⟩ := hX.get hi2
     have d0 : wr.cell? ⟨p,0,none⟩ = some (.slice (some ⟨bb,0,none⟩) TT.length TT.length) := hX.box.cell 0
     have d2 : wr.cell? ⟨bb,i,none⟩ = some (.pointer (some ⟨q,0,none⟩)) := d1
     have hpl : p < wr.heap.size := hX.box.lt
     have hbl : bb < wr.heap.size := hX.row.lt
     have HQ := hid (hX1.each i q l0 e1 e2)
     have htab := tab_get hi2 e2
     rw [htab] at hnew hshort
     subst hnew
     have HX1 := hid (And.intro hX1 e1)
     have HTU := hid (And.intro hturn hb01)
     have HMO := hid hmost2
     have l1 : (k : Int) < (n : Int) := by omega
     have l2 : (i : Int) < (TT.length : Int) := by omega
     have hs0 : l0.length <= 1099511627774 := by omega
     clear hX hX1 e1 e2 d1 hq0 htab hturn hb01 hmost hmost2 hf ht hft hTT hshort
     go_wp2_with fail
     go_region_with (first
      | (go_at_call 175; refine (apply_any _ q l0 ⟨i,fk,fg,fv⟩ _ HQ.out hs0).mono ?_; rintro e w2 ⟨rfl,h1,h2⟩; have H2 := hid (And.intro h1 h2); clear h1 h2)
      | fail)
     all_goals (go_wp2; refine ⟨⟨k + 1,by rw [Int.natCast_add]; rfl,hkn,by rw [HTN.out]; exact step_set HTU.out.1 HTU.out.2 (HX1.out.1.step hi2 HX1.out.2 H2.out.1 H2.out.2).1 H2.out.2.size,by rw [HTN.out]; exact HMO.out,?_⟩,by simp only [RowKit.intOf,Int.toNat_natCast]; omega⟩)
     all_goals exact HTU.out.1.two ((Turn.new HTU.out.2).trans (HX1.out.1.step hi2 HX1.out.2 H2.out.1 H2.out.2).2 fun _ h => .inl h)
    ·have l1 : decide ((k : Int) < (n : Int)) = false := decide_eq_false (by omega)
     obtain rfl : k = n := by omega
     rw [show l.take k = l by rw [<- HLEN.out,List.take_length]] at hset
     have HSE := hid (And.intro hset hturn)
     clear hset hturn hmost
     go_wp2
     go_ret
     refine ⟨rfl,?_,HSE.out.2⟩
     unfold appl
     rw [HT.out]
     exact HSE.out.1
end Tbl
namespace Idx
open Go.RowKit Base IdxMath Foot
open Go.Sort (grow)
theorem one_row (w : World) (k : Int) (v : ByteArray) {s : Nat} (hs : s = w.heap.size) : Row (w.alloc (.cells #[.int .i64 k,.string v] 52)) (w.heap.size + 1) 2 (some ⟨s,0,none⟩) 1 1 (rv [⟨k,v⟩]) :=
 Row.lit w #[.int .i64 k,.string v] 52 (0,0) hs rfl (by omega)
end Idx
namespace Idx
open Go.RowKit Base IdxMath Foot
open Go.Sort (grow)
theorem ret_bool' {a b : Bool} (h : a = b) : Ending.returned (.bool a) = .returned (.bool b) := by rw [h]
theorem req_same (k : Int) (s : ByteArray) (w : World) :
 Calls Tryz.prog 59 #[.agg #[.int .i64 k,.string s],.agg #[.int .i64 k,.string s]] w fun e w' => e = .returned (.bool true) /\ Below w.heap.size w w' := by
 go_enter Tryz.func59,Tryz.ntmps59
 go_wp2
 go_ret
 exact ⟨ret_bool' (by simp),((Below.refl _ _).alloc (Nat.le_refl _) _).alloc (by simp) _⟩
theorem rsame_same (B B' : Nat) (A A' : Option Addr) (n c c' : Nat) (l : List Rw) (w : World) (h : Rs w B A n c l) (h' : Rs w B' A' n c' l) (hB : B <= w.heap.size) (hB' : B' <= w.heap.size) :
 Calls Tryz.prog 58 #[.slice A n c,.slice A' n c',.func (.func 59) #[] #[]] w fun e w' => e = .returned (.bool true) /\ Below w.heap.size w w' := by
 have hle := h.le
 have HR := hid h
 have HR' := hid h'
 clear h h'
 go_enter Tryz.func58,Tryz.ntmps58
 go_wp2
 go_loopw [7] (fun i wr => ∃ k : Nat,k <= n /\ i = .int .i64 k /\ Below w.heap.size w wr) (fun i _ => n - (RowKit.intOf i).toNat)
 case atStart => exact ⟨0,by omega,rfl,Below.refl _ _⟩
 case round =>
  obtain ⟨k,hk,rfl,hbel⟩ := hrel
  have HB := hid hbel
  clear hbel
  by_cases hlt : k < n
  ·obtain ⟨b,off,f,rfl,hb,q0,q1,hget,_⟩ := (HR.out.below (HB.out.mono hB)).at_ hlt
   obtain ⟨b',off',f',rfl,hb',p0,p1,hget',_⟩ := (HR'.out.below (HB.out.mono hB')).at_ hlt
   obtain rfl : f = f' := by rw [hget] at hget'; injection hget'
   clear hget hget'
   go_wp2
   go_still_tail 9,(by kernel_rfl)
   go_wp2_with fail
   refine (req_same _ _ _).mono ?_
   rintro e w2 ⟨rfl,hb2⟩
   have HB2 := hid (HB.out.drew.trans (hb2.mono HB.out.size))
   clear hb2
   go_wp2
   go_roundw
   case rel => exact ⟨k + 1,by omega,by go_num,HB2.out⟩
   case measure => simp [RowKit.intOf]; omega
  ·go_wp2
   go_ret
   exact ⟨rfl,HB.out⟩
theorem rplain_same (B B' : Nat) (A A' : Option Addr) (n n' c c' : Nat) (l : List Rw) (w : World) (h : Rs w B A n c l) (h' : Rs w B' A' n' c' l) (hB : B <= w.heap.size) (hB' : B' <= w.heap.size) :
 Calls Tryz.prog 22 #[.slice A n c,.slice A' n' c'] w fun e w' => e = .returned (.bool true) /\ Below w.heap.size w w' := by
 obtain rfl : n = n' := by rw [<- h.len,<- h'.len]
 go_enter Tryz.func22,Tryz.ntmps22
 go_wp2_with fail
 refine (rsame_same B B' A A' n c c' l _ h h' hB hB').mono ?_
 rintro e w2 ⟨rfl,hb2⟩
 have HB2 := hid hb2
 clear hb2
 go_wp2
 go_ret
 exact ⟨rfl,HB2.out⟩
end Idx
namespace Tbl
open Go.RowKit Base
open Go.Maps (Keyed)
open Go.ChangeShapes Go.WideShapes
def pk (a k : Int) : Value := .agg #[.int .i64 a,.int .i64 k]
theorem laidOutP : laidOutB Tryz.prog = true := by kernel_rfl
theorem rowP : (279 : TypeId) < Tryz.prog.types.size := of_decide_eq_true (by kernel_rfl)
theorem wideP : (match Tryz.prog.underlying 279 with | some (.array _ _) | some (.struct _) => true | _ => false) = true := by rw [Tryz.underlying279]
theorem lawP : Keyed Tryz.prog 279 := Keyed.of_law (deep_law_laid laidOutP (m := 2) (by omega) rowP (by kernel_rfl) wideP)
def In64 (k : Int) : Prop := -9223372036854775808 <= k /\ k <= 9223372036854775807
theorem In64.wf {k : Int} (h : In64 k) : (Lit.int .i64 k).wf = true := by
 simp only [Lit.wf,Bool.and_eq_true,decide_eq_true_eq]
 exact h
theorem keyLits_pk (d : Nat) {a k : Int} (ha : In64 a) (hk : In64 k) : Tryz.prog.keyLits (d + 2) 279 [.int .i64 a,.int .i64 k] = some [.int .i64 a,.int .i64 k] := by
 have h1 := ha.wf
 have h2 := hk.wf
 have c1 : Tryz.prog.cellsOf 279 = 2 := by kernel_rfl
 have c2 : Tryz.prog.cellsOf 3 = 1 := by kernel_rfl
 have c3 : Tryz.prog.cellsOf 2 = 1 := by kernel_rfl
 simp [Program.keyLits,Tryz.underlying279,Tryz.underlying3,Tryz.underlying2,h1,h2,c1,c2,c3]
theorem key_pk {a k : Int} (ha : In64 a) (hk : In64 k) : ∃ kl,keyOf Tryz.prog 279 (pk a k) = some kl := by
 have h0 : Tryz.prog.keyType 279 = true := by kernel_rfl
 have h1 : (pk a k).formed Tryz.prog 279 = true := by
  have c1 : Tryz.prog.cellsOf 279 = 2 := by kernel_rfl
  simp [pk,Value.formed,Tryz.underlying279,c1]
 have hsz : 0 < Tryz.prog.types.size := Nat.lt_of_le_of_lt (Nat.zero_le _) rowP
 obtain ⟨d,hd⟩ : ∃ d,Tryz.prog.types.size + 1 = d + 2 := ⟨Tryz.prog.types.size - 1,by omega⟩
 unfold keyOf
 rw [Tryz.underlying279]
 dsimp only
 rw [if_pos (by rw [h0,h1]; rfl),hd]
 have e : (pk a k).cells.toList = [.int .i64 a,.int .i64 k] := by simp [pk,Value.cells]
 rw [e,keyLits_pk d ha hk]
 exact ⟨_,rfl⟩
def Look (D : DataW Unit) (f : Int -> Int -> Option Bool) : Prop :=
 ∀ a k kl,keyOf Tryz.prog 279 (pk a k) = some kl -> (∀ v,f a k = some v -> ∀ zd,D.atKey kl zd = .lit (.bool v)) /\ (f a k = none -> ∀ zd,D.atKey kl zd = zd)
def Seen (w : World) (b n : Nat) (f : Int -> Int -> Option Bool) : Prop := ∃ D : DataW Unit,w.ownsMap Tryz.prog 279 (plainElem Tryz.prog 4) b n D /\ Maps.IsMap D /\ Look D f
theorem Seen.made (w : World) : Seen (w.alloc (.map #[] 0)) w.heap.size 0 (fun _ _ => none) :=
 ⟨.map [],World.ownsMap_made _ _ _ _,⟨_,rfl⟩,fun a k kl h => ⟨fun v hv => (by cases hv),fun _ zd => by simp [DataW.atKey]⟩⟩
section
variable {w w' : World} {b n : Nat} {f : Int -> Int -> Option Bool}
theorem Seen.lt (h : Seen w b n f) : b < w.heap.size := by obtain ⟨D,h1,_⟩ := h; exact h1.lt
theorem Seen.kept {row : Option Nat} (h : Seen w b n f) (hg : w.grownBy w' row) (hne : some b ≠ row) : Seen w' b n f := by obtain ⟨D,h1,h2⟩ := h; exact ⟨D,h1.kept hg hne,h2⟩
theorem Seen.same (h : Seen w b n f) (hk : w'.heap[b]? = w.heap[b]?) : Seen w' b n f := by
 obtain ⟨D,⟨es,clock,hb,r⟩,h2⟩ := h
 exact ⟨D,⟨es,clock,hk.trans hb,r⟩,h2⟩
end
def putF (f : Int -> Int -> Option Bool) (a k : Int) (v : Bool) (x y : Int) : Option Bool := if x = a /\ y = k then some v else f x y
theorem bool_inv {v : Value} {z : DataW Unit × List MemPlace} (h : plainElem Tryz.prog 4 v = some z) : ∃ x,v = .bool x /\ z = (.lit (.bool x),[]) := by
 unfold plainElem at h
 rw [Tryz.underlying4] at h
 split at h
 ·injection h with h; exact ⟨_,rfl,h.symm⟩
 ·rename_i h1; cases h1
 ·rename_i h1; cases h1
 ·cases h
theorem Seen.look {w : World} {b n : Nat} {f : Int -> Int -> Option Bool} (h : Seen w b n f) {a k : Int} (ha : In64 a) (hk : In64 k) :
 (Instr.lookup 277 (.map (some b)) (pk a k) true).run Tryz.prog w = .ok (.tuple #[.bool ((f a k).getD false),.bool (f a k).isSome]) w := by
 obtain ⟨D,⟨es,clock,hb,F,_,rfl⟩,hm,hl⟩ := h
 obtain ⟨kl,hkey⟩ := key_pk ha hk
 have hz : (zeroValue 4).run Tryz.prog w = .ok (.bool false) w := by kernel_rfl
 obtain ⟨l1,l2⟩ := hl a k kl hkey
 rcases Maps.fit_look true lawP Tryz.underlying277 hz hb F hkey with ⟨hrun,_,hat⟩ | ⟨e0,y,_,_,hrun,hRv,hat,_⟩
 ·cases hf : f a k with
  | none => exact hrun
  | some v =>
    have h1 := l1 v hf (.lit (.bool (!v)))
    rw [hat] at h1
    cases v <;> simp at h1
 ·obtain ⟨x,hx,rfl⟩ := bool_inv hRv
  cases hf : f a k with
  | none =>
    have h1 := l2 hf (.lit (.bool (!x)))
    rw [hat] at h1
    cases x <;> simp at h1
  | some v =>
    have h1 := l1 v hf (.lit (.bool v))
    rw [hat] at h1
    simp at h1
    subst h1
    rw [hx] at hrun
    exact hrun
theorem Seen.put {w : World} {b n : Nat} {f : Int -> Int -> Option Bool} (h : Seen w b n f) (hn : n < 9223372036854775807) {a k : Int} (ha : In64 a) (hk : In64 k) (v : Bool) :
 ∃ w',(Instr.mapUpdate 277 (.map (some b)) (pk a k) (.bool v)).run Tryz.prog w = .ok () w' /\ Seen w' b (n + 1) (putF f a k v) /\ w.grownBy w' (some b) := by
 obtain ⟨D,hown,hm,hl⟩ := h
 obtain ⟨kl,hkey⟩ := key_pk ha hk
 obtain ⟨w',hrun,r1,r2⟩ := hown.update lawP Tryz.underlying277 (by unfold maxLen; omega) hkey (plainElem_bool Tryz.underlying4 v)
 refine ⟨w',hrun,⟨_,r1,(by obtain ⟨es,rfl⟩ := hm; exact ⟨_,rfl⟩),fun x y kl' hkey' => ?_⟩,r2⟩
 unfold putF
 by_cases hxy : x = a /\ y = k
 ·rw [if_pos hxy]
  obtain ⟨rfl,rfl⟩ := hxy
  rw [hkey] at hkey'
  injection hkey' with hkey'
  subst hkey'
  exact ⟨fun v' hv' zd => by injection hv' with hv'; subst hv'; exact Maps.atKey_put_same hm (lawP.key hkey) _ _,fun h => by cases h⟩
 ·rw [if_neg hxy]
  have hne : kl' ≠ kl := by
   rintro rfl
   have := lawP.inj hkey hkey'
   simp [pk] at this
   exact hxy ⟨this.1.symm,this.2.symm⟩
  obtain ⟨l1,l2⟩ := hl x y kl' hkey'
  exact ⟨fun v' hv' zd => by rw [Maps.atKey_put_other hne]; exact l1 v' hv' zd,fun hf zd => by rw [Maps.atKey_put_other hne]; exact l2 hf zd⟩
end Tbl
namespace Idx
open Go.RowKit Base IdxMath Foot
open Go.ChangeShapes Go.WideShapes Go.Deep
section
variable {H : Type} {enc : TypeId × Value -> H} {W : World} {a : Option Addr} {len cap : Nat} {d : DataW H} {p : List MemPlace}
theorem wf_i64 {k : Int} (h : (Lit.int .i64 k).wf = true) : -9223372036854775808 <= k /\ k <= 9223372036854775807 := by
 simp only [Lit.wf,Bool.and_eq_true,decide_eq_true_eq] at h
 exact h
end
end Idx
end Go.Proofs.YtefnmnpfecfdaaaGreat
