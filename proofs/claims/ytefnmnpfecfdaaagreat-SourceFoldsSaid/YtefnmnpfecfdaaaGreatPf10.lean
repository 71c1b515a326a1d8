/-
  Texts of one proof: PlayMod, PlayCut, PlayBig, PlayChg, TxMem, RowMem, FoldMap.
-/
import Derived.Test.YtefnmnpfecfdaaaGreatRows
import Derived.WalkLawsBesides
import Derived.Deep.RegionHeld3
import Derived.Deep.DeepCutAuto
import Derived.Test.YtefnmnpfecfdaaaGreatPf04
import Derived.Shelf.SlSortCmp.QuietGrown
import Derived.Lib.Overlaps
import Derived.StillTailTactics
import Derived.Lib.SlKeysI
set_option linter.all false
set_option maxRecDepth 100000
set_option maxHeartbeats 3200000
open Go.Lib (hid)
namespace Go.Proofs.YtefnmnpfecfdaaaGreat
namespace Field
open Go.RowKit Base
def modZ (v : Int) (n : Nat) : Nat := ((v % 18446744073709551616) % n).toNat
theorem modZ_lt (v : Int) {n : Nat} (h : 0 < n) : modZ v n < n := by
 unfold modZ
 have h1 := Int.emod_nonneg (v % 18446744073709551616) (b := (n : Int)) (by omega)
 have h2 := Int.emod_lt_of_pos (v % 18446744073709551616) (b := (n : Int)) (by omega)
 omega
theorem mod_any (v : Int) (n : Nat) (w : World) (hn : 0 < n) (hm : n <= 1099511627776) :
 Calls Tryz.prog 12 #[.int .i64 v,.int .i64 n] w fun e w' => e = .returned (.int .i64 (modZ v n)) /\ w = w' := by
 have hne : ((n : Int) == 0) = false := by simp; omega
 go_enter Tryz.func12,Tryz.ntmps12
 go_wp2
 go_ret
 refine ⟨ret_int ?_,rfl⟩
 have hw : IntKind.u64.wrap v = v % 18446744073709551616 := by simp [IntKind.wrap,IntKind.bits,IntKind.signed]
 have h0 : 0 <= v % 18446744073709551616 := Int.emod_nonneg _ (by omega)
 rw [hw,Int.tmod_eq_emod_of_nonneg h0]
 unfold modZ
 generalize v % 18446744073709551616 = y at h0
 have h1 : 0 <= y % (n : Int) := Int.emod_nonneg _ (by omega)
 have h2 : y % (n : Int) < n := Int.emod_lt_of_pos _ (by omega)
 generalize y % (n : Int) = z at h1 h2
 rw [IntWalk.wrap64_in z (by omega)]
 omega
end Field
namespace Field
open Go.RowKit Base
theorem extract_take (s : ByteArray) (n : Nat) : s.extract 0 n = str (s.data.toList.take n) := by
 have h : (s.extract 0 n).data.toList = s.data.toList.take n := by simp [ByteArray.data_extract]
 rw [<- str_of (s.extract 0 n),h]
theorem cut_any (s : ByteArray) (n : Nat) (w : World) (_hs : s.size <= 9223372036854775807) (hn : n <= 1099511627776) :
 Calls Tryz.prog 100 #[.string s,.int .i64 n] w fun e w' => e = .returned (.string (str (s.data.toList.take n))) /\ w = w' := by
 by_cases hlt : n < s.size
 ·go_enter Tryz.func100,Tryz.ntmps100
  go_wp2
  go_ret
  exact ⟨by rw [<- extract_take]; rfl,rfl⟩
 ·have e : str (s.data.toList.take n) = s := by rw [List.take_of_length_le (by rw [size_list]; omega),str_of]
  rw [e]
  clear e
  go_enter Tryz.func100,Tryz.ntmps100
  go_wp2
  go_ret
  exact ⟨rfl,rfl⟩
end Field
namespace Field
open Go.RowKit Base
def bigZ (v : Int) (n : Nat) : Nat := ((v % 18446744073709551616) % n).toNat
theorem bigZ_lt (v : Int) {n : Nat} (h : 0 < n) : bigZ v n < n := by
 unfold bigZ
 have h1 := Int.emod_nonneg (v % 18446744073709551616) (b := (n : Int)) (by omega)
 have h2 := Int.emod_lt_of_pos (v % 18446744073709551616) (b := (n : Int)) (by omega)
 omega
theorem playbig_any (v : Int) (n : Nat) (w : World) (hn : 0 < n) (hm : n <= 1099511627776) :
 Calls Tryz.prog 31 #[.int .i64 v,.int .i64 n] w fun e w' => e = .returned (.int .i64 (bigZ v n)) /\ w = w' := by
 have hne : ((n : Int) == 0) = false := by simp; omega
 go_enter Tryz.func31,Tryz.ntmps31
 go_wp2
 go_ret
 refine ⟨ret_int ?_,rfl⟩
 have hw : IntKind.u64.wrap v = v % 18446744073709551616 := by simp [IntKind.wrap,IntKind.bits,IntKind.signed]
 have h0 : 0 <= v % 18446744073709551616 := Int.emod_nonneg _ (by omega)
 rw [hw,Int.tmod_eq_emod_of_nonneg h0]
 unfold bigZ
 generalize v % 18446744073709551616 = y at h0
 have h1 : 0 <= y % (n : Int) := Int.emod_nonneg _ (by omega)
 have h2 : y % (n : Int) < n := Int.emod_lt_of_pos _ (by omega)
 generalize y % (n : Int) = z at h1 h2
 rw [IntWalk.wrap64_in z (by omega)]
 omega
end Field
namespace PChg
open Go.RowKit Base FieldMath TxnMath
open Field (modZ modZ_lt mod_any bigZ bigZ_lt playbig_any cut_any)
def gcells (c : Ch) : List Value := [.int .i64 c.tbl,.int .i64 c.key,.bool c.gone,.string c.val]
def gval (c : Ch) : Value := .agg #[.int .i64 c.tbl,.int .i64 c.key,.bool c.gone,.string c.val]
def gv (l : List Ch) : List Value := l.flatMap gcells
theorem gv_append (l m : List Ch) : gv (l ++ m) = gv l ++ gv m := List.flatMap_append
theorem gv_one (l : List Ch) : ∀ u ∈ gv l,u.oneCell' = true := by
 intro u hu
 obtain ⟨f,_,hf⟩ := List.mem_flatMap.1 hu
 simp only [gcells,List.mem_cons,List.not_mem_nil,or_false] at hf
 rcases hf with rfl | rfl | rfl | rfl <;> rfl
theorem gv_cons (x : Ch) (l : List Ch) : gv (x :: l) = .int .i64 x.tbl :: .int .i64 x.key :: .bool x.gone :: .string x.val :: gv l := rfl
theorem gv_length (l : List Ch) : (gv l).length = l.length * 4 := by
 induction l with
 | nil => rfl
 | cons f l ih => rw [gv_cons]; simp only [List.length_cons,ih]; omega
theorem gv_get (l : List Ch) (k : Nat) (f : Ch) (h : l[k]? = some f) : (gv l)[k * 4]? = some (.int .i64 f.tbl) /\ (gv l)[k * 4 + 1]? = some (.int .i64 f.key) /\ (gv l)[k * 4 + 2]? = some (.bool f.gone) /\ (gv l)[k * 4 + 3]? = some (.string f.val) := by
 induction l generalizing k with
 | nil => simp at h
 | cons g l ih =>
   rw [gv_cons]
   cases k with
   | zero =>
     simp only [List.getElem?_cons_zero,Option.some.injEq] at h
     subst h
     exact ⟨rfl,rfl,rfl,rfl⟩
   | succ k =>
     rw [List.getElem?_cons_succ] at h
     have := ih k h
     rw [show (k + 1) * 4 = k * 4 + 1 + 1 + 1 + 1 by omega]
     simpa using this
def Cs (w : World) (B : Nat) (A : Option Addr) (n c : Nat) (l : List Ch) : Prop := Row w B 4 A n c (gv l)
section
variable {w w' : World} {B B' n c : Nat} {A : Option Addr} {l : List Ch}
theorem Cs.len (h : Cs w B A n c l) : l.length = n := by have := h.1; rw [gv_length] at this; omega
theorem Cs.le (h : Cs w B A n c l) : n <= c /\ c <= 9223372036854775807 := ⟨h.2.1,h.2.2.1⟩
theorem Cs.below (h : Cs w B A n c l) (hb : Below B w w') : Cs w' B A n c l := Row.below h hb
theorem Cs.more (h : Cs w B A n c l) (hB : B <= B') : Cs w B' A n c l := Row.more h hB
theorem Cs.at_ (h : Cs w B A n c l) {k : Nat} (hk : k < n) :
 ∃ b off f,A = some ⟨b,off,none⟩ /\ b < B /\ w.cell? ⟨b,off + k * 4,none⟩ = some (.int .i64 f.tbl) /\ w.cell? ⟨b,off + k * 4 + 1,none⟩ = some (.int .i64 f.key) /\ w.cell? ⟨b,off + k * 4 + 2,none⟩ = some (.bool f.gone) /\ w.cell? ⟨b,off + k * 4 + 3,none⟩ = some (.string f.val) /\ l[k]? = some f /\ l.take (k + 1) = l.take k ++ [f] := by
 obtain ⟨b,off,e,hb,hc⟩ := h.2.2.2 (by omega)
 have hl : k < l.length := by rw [h.len]; exact hk
 have hg : l[k]? = some l[k] := List.getElem?_eq_getElem hl
 have := gv_get l k _ hg
 exact ⟨b,off,l[k],e,hb,hc _ _ this.1,hc _ _ this.2.1,hc _ _ this.2.2.1,hc _ _ this.2.2.2,hg,List.take_succ_eq_append_getElem hl⟩
end
theorem ech : Elem Tryz.prog 35 64 4 40 (.agg #[.int .i64 0,.int .i64 0,.bool false,.string ⟨#[]⟩]) := Elem.of Tryz.underlying35 (by kernel_rfl) rfl (by omega)
theorem one_ch (w : World) (f : Ch) {s : Nat} (hs : s = w.heap.size) : Row (w.alloc (.cells #[.int .i64 f.tbl,.int .i64 f.key,.bool f.gone,.string f.val] 64)) (w.heap.size + 1) 4 (some ⟨s,0,none⟩) 1 1 (gv [f]) :=
 Row.lit w #[.int .i64 f.tbl,.int .i64 f.key,.bool f.gone,.string f.val] _ (0,0) hs rfl (by omega)
theorem may_mk {n a k : Int} {g : Bool} {v : ByteArray} (h1 : 0 <= a) (h2 : a < n) (h3 : 1 <= k) (h4 : k <= 1099511627776) (h5 : g = true -> v.size = 0) (h6 : v.size <= 32) : Ch.may n ⟨a,k,g,v⟩ = true := by
 unfold Ch.may
 dsimp only
 rw [decide_eq_true h1,decide_eq_true h2,decide_eq_true h3,decide_eq_true h4]
 cases g with
 | true => simp [h5 rfl]
 | false => simp [h6]
def MadeCh (N : Nat) (w : World) (e : Ending) (w' : World) : Prop := ∃ c : Ch,e = .returned (gval c) /\ c.may N = true /\ Below w.heap.size w w'
def ChCut (w : World) (f : Ch) (a k : Int) (p : Value) (wx : World) : Prop := ∃ C,p = .pointer (some ⟨C,0,none⟩) /\ Blk wx C 64 #[.int .i64 a,.int .i64 k,.bool f.gone,.string ⟨#[]⟩] /\ Blk wx w.heap.size 64 #[.int .i64 f.tbl,.int .i64 f.key,.bool f.gone,.string f.val] /\ Blk wx (w.heap.size + 1) 64 #[.int .i64 0,.int .i64 0,.bool false,.string ⟨#[]⟩] /\ w.heap.size + 1 < C /\ Below w.heap.size w wx
theorem pchange_any (N : Nat) (hN : 1 <= N) (hN8 : N <= 8) (f : Ch) (w : World) (hs : f.val.size <= 9223372036854775807) :
 Calls Tryz.prog 41 #[gval f,.int .i64 N] w (MadeCh N w) := by
 obtain ⟨ft,fk,fg,fv⟩ := f
 unfold gval
 dsimp only at hs ⊢
 have C1 := fun w => mod_any ft N w (by omega) (by omega)
 have b1 := modZ_lt ft (n := N) (by omega)
 have C2 := fun w => playbig_any fk 12 w (by omega) (by omega)
 have b2 := bigZ_lt fk (n := 12) (by omega)
 have C3 := fun w => playbig_any fk 31 w (by omega) (by omega)
 have b3 := bigZ_lt fk (n := 31) (by omega)
 have C4 := fun w => playbig_any fk 1099511627776 w (by omega) (by omega)
 have b4 := bigZ_lt fk (n := 1099511627776) (by omega)
 generalize modZ ft N = a at C1 b1
 generalize bigZ fk 12 = k1 at C2 b2
 generalize bigZ fk 31 = k2 at C3 b3
 generalize bigZ fk 1099511627776 = k3 at C4 b4
 have D1 := hid C1
 have D2 := hid C2
 have D3 := hid C3
 have D4 := hid C4
 have B4 := hid b4
 clear C1 C2 C3 C4 b4
 have hcv : (str (fv.data.toList.take 32)).size <= 32 := by rw [str_size,List.length_take]; omega
 have CV := hid (fun w => cut_any fv 32 w hs (by omega))
 have HCV := hid hcv
 clear hcv
 have hwr : IntKind.i64.wrap (1 + (k1 : Int)) = 1 + (k1 : Int) := IntWalk.i64_in _ (by omega)
 have HWR := hid hwr
 clear hwr
 go_enter Tryz.func41,Tryz.ntmps41
 go_upto_region 1 with fail
 have hx : Blk ((w.alloc (.cells #[.int .i64 ft,.int .i64 fk,.bool fg,.string fv] 64)).alloc (.cells #[.int .i64 0,.int .i64 0,.bool false,.string ⟨#[]⟩] 64)) w.heap.size 64 #[.int .i64 ft,.int .i64 fk,.bool fg,.string fv] := (Blk.new _ _ _).alloc _
 have hy : Blk ((w.alloc (.cells #[.int .i64 ft,.int .i64 fk,.bool fg,.string fv] 64)).alloc (.cells #[.int .i64 0,.int .i64 0,.bool false,.string ⟨#[]⟩] 64)) (w.heap.size + 1) 64 #[.int .i64 0,.int .i64 0,.bool false,.string ⟨#[]⟩] := by have := Blk.new (w.alloc (.cells #[.int .i64 ft,.int .i64 fk,.bool fg,.string fv] 64)) 64 #[.int .i64 0,.int .i64 0,.bool false,.string ⟨#[]⟩]; simpa using this
 have hw : Below w.heap.size w ((w.alloc (.cells #[.int .i64 ft,.int .i64 fk,.bool fg,.string fv] 64)).alloc (.cells #[.int .i64 0,.int .i64 0,.bool false,.string ⟨#[]⟩] 64)) := ((Below.refl _ _).alloc (Nat.le_refl _) _).alloc (by simp) _
 generalize ((w.alloc (.cells #[.int .i64 ft,.int .i64 fk,.bool fg,.string fv] 64)).alloc (.cells #[.int .i64 0,.int .i64 0,.bool false,.string ⟨#[]⟩] 64)) = W at hx hy hw
 have HX := hid hx
 have HY := hid hy
 have HW := hid hw
 clear hx hy hw
 go_cut [5] (fun p wx => ChCut w ⟨ft,fk,fg,fv⟩ a (1 + (k1 : Int)) p wx)
 case first =>
  go_region_held3 (fun w' => w'.cell? ⟨w.heap.size,0,none⟩ = some (.int .i64 ft) /\ w'.cell? ⟨w.heap.size,1,none⟩ = some (.int .i64 fk) /\ w'.cell? ⟨w.heap.size,2,none⟩ = some (.bool fg))
   (first
     | exact ⟨HX.out.cell 0,HX.out.cell 1,HX.out.cell 2⟩
     | exact ⟨(HX.out.alloc _).cell 0,(HX.out.alloc _).cell 1,(HX.out.alloc _).cell 2⟩
     | assumption)
   (first
     | (go_at_call 12; refine (D1.out _).mono ?_; rintro e w1 ⟨rfl,rfl⟩)
     | (go_at_call 31; refine (D2.out _).mono ?_; rintro e w1 ⟨rfl,rfl⟩)
     | fail)
  all_goals (
   rw [HWR.out]
   go_wp2_with fail
   go_meet
   exact ⟨W.heap.size,rfl,Blk.new W _ _,HX.out.alloc _,HY.out.alloc _,HY.out.lt,(HW.out.alloc HW.out.size _).drew⟩)
 case rest =>
  obtain ⟨C,rfl,hc,hx2,hy2,hlt,hbel⟩ := hcut
  have x0 : wc.cell? ⟨w.heap.size,0,none⟩ = some (.int .i64 ft) := hx2.cell 0
  have x1 : wc.cell? ⟨w.heap.size,1,none⟩ = some (.int .i64 fk) := hx2.cell 1
  have x2 : wc.cell? ⟨w.heap.size,2,none⟩ = some (.bool fg) := hx2.cell 2
  have x3 : wc.cell? ⟨w.heap.size,3,none⟩ = some (.string fv) := hx2.cell 3
  have c0 : wc.cell? ⟨C,0,none⟩ = some (.int .i64 a) := hc.cell 0
  have c1 : wc.cell? ⟨C,1,none⟩ = some (.int .i64 (1 + (k1 : Int))) := hc.cell 1
  have c2 : wc.cell? ⟨C,2,none⟩ = some (.bool fg) := hc.cell 2
  have c3 : wc.cell? ⟨C,3,none⟩ = some (.string ⟨#[]⟩) := hc.cell 3
  have r0 : wc.cell? ⟨w.heap.size + 1,0,none⟩ = some (.int .i64 0) := hy2.cell 0
  have r1 : wc.cell? ⟨w.heap.size + 1,1,none⟩ = some (.int .i64 0) := hy2.cell 1
  have r2 : wc.cell? ⟨w.heap.size + 1,2,none⟩ = some (.bool false) := hy2.cell 2
  have r3 : wc.cell? ⟨w.heap.size + 1,3,none⟩ = some (.string ⟨#[]⟩) := hy2.cell 3
  have fc1 := hc.frozen 1
  have fc3 := hc.frozen 3
  have fr0 := hy2.frozen 0
  have fr1 := hy2.frozen 1
  have fr2 := hy2.frozen 2
  have fr3 := hy2.frozen 3
  have hRC : w.heap.size + 1 ≠ C := by omega
  have hCR : C ≠ w.heap.size + 1 := by omega
  have hXC : w.heap.size ≠ C := by omega
  have hCX : C ≠ w.heap.size := by omega
  have HB := hid hbel
  have hCw : w.heap.size <= C := by omega
  clear hc hx2 hy2 hbel
  by_cases h30 : k2 = 30
  ·have t1 : ((k2 : Int) == 30) = true := by simp; omega
   have hk3 : k3 < 1099511627776 := B4.out
   cases fg with
   | true =>
     go_wp2_with fail
     refine (D3.out _).mono ?_
     rintro e w1 ⟨rfl,rfl⟩
     go_wp2_with fail
     refine (D4.out _).mono ?_
     rintro e w1 ⟨rfl,rfl⟩
     go_wp2
     refine bodyPost_ret (v := gval ⟨a,1 + (k3 : Int),true,⟨#[]⟩⟩) (by simp [gval,results,Tryz.results41,go_sem,hRC,hCR,r0,r1,r2,r3]) rfl ⟨⟨a,1 + (k3 : Int),true,⟨#[]⟩⟩,rfl,may_mk (by omega) (by omega) (by omega) (by omega) (by intro h; first | rfl | cases h) (by first | exact HCV.out | exact Nat.zero_le _),?_⟩
     exact (((((HB.out.setCell (by exact hCw) _).setCell (by exact Nat.le_succ _) _).setCell (by exact Nat.le_succ _) _).setCell (by exact Nat.le_succ _) _).setCell (by exact Nat.le_succ _) _)
   | false =>
     go_wp2_with fail
     refine (D3.out _).mono ?_
     rintro e w1 ⟨rfl,rfl⟩
     go_wp2_with fail
     refine (D4.out _).mono ?_
     rintro e w1 ⟨rfl,rfl⟩
     go_wp2_with fail
     refine (CV.out _).mono ?_
     rintro e w1 ⟨rfl,rfl⟩
     go_wp2
     refine bodyPost_ret (v := gval ⟨a,1 + (k3 : Int),false,str (fv.data.toList.take 32)⟩) (by simp [gval,results,Tryz.results41,go_sem,hRC,hCR,r0,r1,r2,r3]) rfl ⟨⟨a,1 + (k3 : Int),false,str (fv.data.toList.take 32)⟩,rfl,may_mk (by omega) (by omega) (by omega) (by omega) (by intro h; first | rfl | cases h) (by first | exact HCV.out | exact Nat.zero_le _),?_⟩
     exact ((((((HB.out.setCell (by exact hCw) _).setCell (by exact hCw) _).setCell (by exact Nat.le_succ _) _).setCell (by exact Nat.le_succ _) _).setCell (by exact Nat.le_succ _) _).setCell (by exact Nat.le_succ _) _)
  ·have t1 : ((k2 : Int) == 30) = false := by simp; omega
   cases fg with
   | true =>
     go_wp2_with fail
     refine (D3.out _).mono ?_
     rintro e w1 ⟨rfl,rfl⟩
     go_wp2
     refine bodyPost_ret (v := gval ⟨a,1 + (k1 : Int),true,⟨#[]⟩⟩) (by simp [gval,results,Tryz.results41,go_sem,hRC,hCR,r0,r1,r2,r3]) rfl ⟨⟨a,1 + (k1 : Int),true,⟨#[]⟩⟩,rfl,may_mk (by omega) (by omega) (by omega) (by omega) (by intro h; first | rfl | cases h) (by first | exact HCV.out | exact Nat.zero_le _),?_⟩
     exact ((((HB.out.setCell (by exact Nat.le_succ _) _).setCell (by exact Nat.le_succ _) _).setCell (by exact Nat.le_succ _) _).setCell (by exact Nat.le_succ _) _)
   | false =>
     go_wp2_with fail
     refine (D3.out _).mono ?_
     rintro e w1 ⟨rfl,rfl⟩
     go_wp2_with fail
     refine (CV.out _).mono ?_
     rintro e w1 ⟨rfl,rfl⟩
     go_wp2
     refine bodyPost_ret (v := gval ⟨a,1 + (k1 : Int),false,str (fv.data.toList.take 32)⟩) (by simp [gval,results,Tryz.results41,go_sem,hRC,hCR,r0,r1,r2,r3]) rfl ⟨⟨a,1 + (k1 : Int),false,str (fv.data.toList.take 32)⟩,rfl,may_mk (by omega) (by omega) (by omega) (by omega) (by intro h; first | rfl | cases h) (by first | exact HCV.out | exact Nat.zero_le _),?_⟩
     exact (((((HB.out.setCell (by exact hCw) _).setCell (by exact Nat.le_succ _) _).setCell (by exact Nat.le_succ _) _).setCell (by exact Nat.le_succ _) _).setCell (by exact Nat.le_succ _) _)
theorem all_snoc {α : Type} {l : List α} {p : α -> Prop} {x : α} (h : ∀ y ∈ l,p y) (hx : p x) : ∀ y ∈ l ++ [x],p y := by
 intro y hy
 rcases List.mem_append.1 hy with hy | hy
 ·exact h y hy
 ·rw [List.mem_singleton] at hy
  subst hy
  exact hx
def SomeCh (N M : Nat) (w : World) (e : Ending) (w' : World) : Prop := ∃ (l : List Ch) (A : Option Addr) (n c : Nat),e = .returned (.slice A n c) /\ n <= M /\ w'.ownsRow w.heap.size 64 4 (.slice A n c) n (gv l) /\ (∀ f ∈ l,f.may N = true) /\ Below w.heap.size w w'
def SomeRel (N M : Nat) (w : World) (n : Nat) (v i : Value) (wr : World) : Prop := ∃ (k : Nat) (l : List Ch) (A : Option Addr) (c : Nat),k <= n /\ k <= M /\ i = .int .i64 k /\ v = .slice A k c /\ wr.ownsRow w.heap.size 64 4 (.slice A k c) k (gv l) /\ (∀ f ∈ l,f.may N = true) /\ Below w.heap.size w wr
theorem pchanges_any (N M : Nat) (hN : 1 <= N) (hN8 : N <= 8) (hM : M <= 1000) (B : Nat) (A : Option Addr) (n c : Nat) (l : List Ch) (w : World) (h : Cs w B A n c l) (hB : B <= w.heap.size) (hok : ∀ f ∈ l,f.val.size <= 9223372036854775807) :
 Calls Tryz.prog 13 #[.slice A n c,.int .i64 N,.int .i64 M] w (SomeCh N M w) := by
 have hle := h.le
 have HR := hid h
 have HOK := hid hok
 clear h hok
 go_enter Tryz.func13,Tryz.ntmps13
 go_wp2
 go_loopw [7,8] (fun v i wr => SomeRel N M w n v i wr) (fun _ i _ => n - (RowKit.intOf i).toNat)
 case atStart => exact ⟨0,[],none,0,by omega,by omega,rfl,rfl,World.ownsRow_nil _ _ _ _,(fun f hf => by cases hf),Below.refl _ _⟩
 case round =>
  obtain ⟨k,pre,A1,c1,hk,hk5,rfl,rfl,hown,hall,hbel⟩ := hrel
  have HO := hid hown
  have HA := hid hall
  have HB := hid hbel
  have hz := hbel.size
  clear hown hall hbel
  by_cases hgo : k < n /\ k < M
  ·obtain ⟨hlt,hlt5⟩ := hgo
   obtain ⟨b,off,f,rfl,hb,q0,q1,q2,q3,hget,_⟩ := (HR.out.below (HB.out.mono hB)).at_ hlt
   have HG := hid (HOK.out f (List.mem_of_getElem? hget))
   clear hget
   have l1 : (k : Int) < (n : Int) := by omega
   have l2 : (k : Int) < (M : Int) := by omega
   go_wp2_with fail
   refine (pchange_any N hN hN8 f _ HG.out).mono ?_
   rintro e w2 ⟨f2,rfl,hm2,hb2⟩
   have HM2 := hid hm2
   have HB2 := hid (held_call HB.out hb2 : Below w.heap.size w w2)
   have HO2 := hid (own_keep HO.out hb2)
   have hz2 : w.heap.size <= w2.heap.size := HB2.out.size
   clear hm2 hb2
   unfold gval
   go_wp2_with (first
    | (at_builtin
       refine wpList_append_row rfl (.tmp 20) (.tmp 27) rfl ech w.heap.size _ k (gv pre) rfl (own_keep HO2.out ((Below.refl _ _).alloc (Nat.le_refl _) _)) _ _ 1 1 (gv [f2]) rfl (one_ch w2 f2 rfl) (gv_one _) (by omega) (by omega) (by simp; omega) ?_
       intro A3 c3 w3 hown3 _ hb3
       rw [<- gv_append] at hown3
       have HO3 := hid hown3
       have HB3 := hid ((HB2.out.alloc hz2 _).trans hb3)
       clear hown3 hb3)
    | fail)
   go_roundw
   case rel => exact ⟨k + 1,pre ++ [f2],A3,c3,by omega,by omega,by go_num,rfl,HO3.out,all_snoc HA.out HM2.out,HB3.out⟩
   case measure => simp [RowKit.intOf]; omega
  ·by_cases hkn : k < n
   all_goals
    have h5 : k < n -> ¬ k < M := fun h h5 => hgo ⟨h,h5⟩
    clear hgo
   ·have l1 : (k : Int) < (n : Int) := by omega
    have l2 : ¬ (k : Int) < (M : Int) := by omega
    go_wp2
    go_ret
    exact ⟨pre,A1,k,c1,rfl,hk5,HO.out,HA.out,HB.out⟩
   ·have l1 : ¬ (k : Int) < (n : Int) := by omega
    go_wp2
    go_ret
    exact ⟨pre,A1,k,c1,rfl,hk5,HO.out,HA.out,HB.out⟩
end PChg
namespace PTx
open Go.RowKit Base TxnMath
open PChg (Cs)
def Ss (w : World) (B : Nat) (A : Option Addr) (n c : Nat) (l : List ByteArray) : Prop := Row w B 1 A n c (l.map .string)
theorem Ss.len {w : World} {B : Nat} {A : Option Addr} {n c : Nat} {l : List ByteArray} (h : Ss w B A n c l) : l.length = n := by have := h.1; rw [List.length_map] at this; omega
theorem Ss.at_ {w : World} {B : Nat} {A : Option Addr} {n c : Nat} {m : List ByteArray} (h : Ss w B A n c m) {k : Nat} (hk : k < n) :
 ∃ b off s,A = some ⟨b,off,none⟩ /\ b < B /\ w.cell? ⟨b,off + k,none⟩ = some (.string s) /\ m[k]? = some s /\ m.take (k + 1) = m.take k ++ [s] := by
 obtain ⟨b,off,e,hb,hc⟩ := h.2.2.2 (by omega)
 have hl : k < m.length := by rw [h.len]; exact hk
 have hg : m[k]? = some m[k] := List.getElem?_eq_getElem hl
 exact ⟨b,off,m[k],e,hb,hc k _ (by rw [List.getElem?_map,hg]; rfl),hg,List.take_succ_eq_append_getElem hl⟩
def txval (lsn kind mark : Int) (A : Option Addr) (n c : Nat) (A' : Option Addr) (n' c' : Nat) : Value := .agg #[.int .i64 lsn,.int .i64 kind,.slice A n c,.slice A' n' c',.int .i64 mark]
def TxAt (w : World) (B b o : Nat) (x : Tx) : Prop := ∃ A n c A' n' c',w.cell? ⟨b,o,none⟩ = some (.int .i64 x.lsn) /\ w.cell? ⟨b,o + 1,none⟩ = some (.int .i64 x.kind) /\ w.cell? ⟨b,o + 2,none⟩ = some (.slice A n c) /\
 w.cell? ⟨b,o + 3,none⟩ = some (.slice A' n' c') /\ w.cell? ⟨b,o + 4,none⟩ = some (.int .i64 x.mark) /\ Cs w B A n c x.chs /\ Ss w B A' n' c' x.sigs
def Txs (w : World) (B : Nat) (A : Option Addr) (n c : Nat) (l : List Tx) : Prop := l.length = n /\ n <= c /\ c <= 9223372036854775807 /\
 ∀ i x,l[i]? = some x -> ∃ b off,A = some ⟨b,off,none⟩ /\ b < B /\ TxAt w B b (off + i * 5) x
section
variable {w w' : World} {B B' b o n c : Nat} {A : Option Addr} {l : List Tx} {x : Tx}
theorem TxAt.keep (h : TxAt w B b o x) (hb : b < B) (hk : ∀ p : Addr,p.block < B -> w'.cell? p = w.cell? p) : TxAt w' B b o x := by
 obtain ⟨A,n,c,A',n',c',h0,h1,h2,h3,h4,h5,h6⟩ := h
 exact ⟨A,n,c,A',n',c',(hk _ hb).trans h0,(hk _ hb).trans h1,(hk _ hb).trans h2,(hk _ hb).trans h3,(hk _ hb).trans h4,Row.keep h5 hk,Row.keep h6 hk⟩
theorem TxAt.more (h : TxAt w B b o x) (hB : B <= B') : TxAt w B' b o x := by
 obtain ⟨A,n,c,A',n',c',h0,h1,h2,h3,h4,h5,h6⟩ := h
 exact ⟨A,n,c,A',n',c',h0,h1,h2,h3,h4,Row.more h5 hB,Row.more h6 hB⟩
theorem Txs.len (h : Txs w B A n c l) : l.length = n := h.1
theorem Txs.le (h : Txs w B A n c l) : n <= c /\ c <= 9223372036854775807 := ⟨h.2.1,h.2.2.1⟩
theorem Txs.keep (h : Txs w B A n c l) (hk : ∀ p : Addr,p.block < B -> w'.cell? p = w.cell? p) : Txs w' B A n c l :=
 ⟨h.1,h.2.1,h.2.2.1,fun i x hx => by
  obtain ⟨b,off,e,hb,ht⟩ := h.2.2.2 i x hx
  exact ⟨b,off,e,hb,ht.keep hb hk⟩⟩
theorem Txs.below (h : Txs w B A n c l) (hb : Below B w w') : Txs w' B A n c l := h.keep fun _ hp => hb.cell hp
theorem Txs.more (h : Txs w B A n c l) (hB : B <= B') : Txs w B' A n c l :=
 ⟨h.1,h.2.1,h.2.2.1,fun i x hx => by
  obtain ⟨b,off,e,hb,ht⟩ := h.2.2.2 i x hx
  exact ⟨b,off,e,by omega,ht.more hB⟩⟩
theorem Txs.nil_ (w : World) (B : Nat) : Txs w B none 0 0 [] := ⟨rfl,by omega,by omega,fun i x hx => by simp at hx⟩
theorem Txs.at_ (h : Txs w B A n c l) {k : Nat} (hk : k < n) : ∃ b off x,A = some ⟨b,off,none⟩ /\ b < B /\ l[k]? = some x /\ TxAt w B b (off + k * 5) x := by
 have hg : l[k]? = some (l[k]'(by rw [h.1]; exact hk)) := List.getElem?_eq_getElem _
 obtain ⟨b,off,e,hb,ht⟩ := h.2.2.2 k _ hg
 exact ⟨b,off,_,e,hb,hg,ht⟩
end
theorem lit_one {w : World} {b : Nat} {T : TypeId} {x : Ch} (h : Blk w b T #[.int .i64 x.tbl,.int .i64 x.key,.bool x.gone,.string x.val]) : Cs w w.heap.size (some ⟨b,0,none⟩) 1 1 [x] := by
 refine ⟨rfl,by omega,by omega,fun _ => ⟨b,0,rfl,h.lt,fun j u hu => ?_⟩⟩
 rw [h.cell,Nat.zero_add]
 have : (PChg.gv [x])[j]? = #[Value.int .i64 x.tbl,.int .i64 x.key,.bool x.gone,.string x.val][j]? := by simp [PChg.gv,PChg.gcells]
 rw [<- this]
 exact hu
end PTx
namespace Idx
open Go.RowKit Base IdxMath
open Go.Sort (grow)
def rcells (x : Rw) : List Value := [.int .i64 x.key,.string x.val]
def rowv (x : Rw) : Value := .agg #[.int .i64 x.key,.string x.val]
def rv (l : List Rw) : List Value := l.flatMap rcells
theorem rv_append (l m : List Rw) : rv (l ++ m) = rv l ++ rv m := List.flatMap_append
theorem rv_cons (x : Rw) (l : List Rw) : rv (x :: l) = .int .i64 x.key :: .string x.val :: rv l := rfl
theorem rv_length (l : List Rw) : (rv l).length = l.length * 2 := by
 induction l with
 | nil => rfl
 | cons f l ih => rw [rv_cons,List.length_cons,List.length_cons,ih,List.length_cons]; omega
theorem rv_one (l : List Rw) : ∀ u ∈ rv l,u.oneCell' = true := by
 intro u hu
 obtain ⟨f,_,hf⟩ := List.mem_flatMap.1 hu
 simp only [rcells,List.mem_cons,List.not_mem_nil,or_false] at hf
 rcases hf with rfl | rfl <;> rfl
theorem rv_get (l : List Rw) (k : Nat) (f : Rw) (h : l[k]? = some f) : (rv l)[k * 2]? = some (.int .i64 f.key) /\ (rv l)[k * 2 + 1]? = some (.string f.val) := by
 induction l generalizing k with
 | nil => simp at h
 | cons g l ih =>
   rw [rv_cons]
   cases k with
   | zero =>
     simp only [List.getElem?_cons_zero,Option.some.injEq] at h
     subst h
     exact ⟨rfl,rfl⟩
   | succ k =>
     rw [List.getElem?_cons_succ] at h
     have := ih k h
     rw [show (k + 1) * 2 = k * 2 + 1 + 1 by omega]
     simpa using this
theorem rv_take (l : List Rw) (k : Nat) : (rv l).take (k * 2) = rv (l.take k) := by
 induction l generalizing k with
 | nil => simp [rv]
 | cons g l ih =>
   cases k with
   | zero => simp [rv]
   | succ k => rw [rv_cons,show (k + 1) * 2 = k * 2 + 1 + 1 by omega,List.take_succ_cons,List.take_succ_cons,List.take_succ_cons,rv_cons,ih]
theorem rv_drop (l : List Rw) (k : Nat) : (rv l).drop (k * 2) = rv (l.drop k) := by
 induction l generalizing k with
 | nil => simp [rv]
 | cons g l ih =>
   cases k with
   | zero => simp
   | succ k => rw [rv_cons,show (k + 1) * 2 = k * 2 + 1 + 1 by omega,List.drop_succ_cons,List.drop_succ_cons,List.drop_succ_cons,ih]
theorem rv_set (l : List Rw) (k : Nat) (y : Rw) : rv (l.set k y) = ((rv l).set (k * 2) (.int .i64 y.key)).set (k * 2 + 1) (.string y.val) := by
 induction l generalizing k with
 | nil => simp [rv]
 | cons g l ih =>
   cases k with
   | zero => rfl
   | succ k =>
     rw [List.set_cons_succ,rv_cons,rv_cons,ih,show (k + 1) * 2 = k * 2 + 1 + 1 by omega]
     simp
theorem er : Elem Tryz.prog 53 52 2 24 (.agg #[.int .i64 0,.string ⟨#[]⟩]) := Elem.of Tryz.underlying53 (by kernel_rfl) rfl (by omega)
def Rs (w : World) (B : Nat) (A : Option Addr) (n c : Nat) (l : List Rw) : Prop := Row w B 2 A n c (rv l)
section
variable {w w' : World} {B B' n c : Nat} {A : Option Addr} {l : List Rw}
theorem Rs.len (h : Rs w B A n c l) : l.length = n := by have := h.1; rw [rv_length] at this; omega
theorem Rs.le (h : Rs w B A n c l) : n <= c /\ c <= 9223372036854775807 := ⟨h.2.1,h.2.2.1⟩
theorem Rs.below (h : Rs w B A n c l) (hb : Below B w w') : Rs w' B A n c l := Row.below h hb
theorem Rs.nil_ (w : World) (B : Nat) : Rs w B none 0 0 [] := Row.nil_ w B 2
theorem Rs.at_ (h : Rs w B A n c l) {k : Nat} (hk : k < n) :
 ∃ b off f,A = some ⟨b,off,none⟩ /\ b < B /\ w.cell? ⟨b,off + k * 2,none⟩ = some (.int .i64 f.key) /\ w.cell? ⟨b,off + k * 2 + 1,none⟩ = some (.string f.val) /\ l[k]? = some f /\ l.take (k + 1) = l.take k ++ [f] := by
 obtain ⟨b,off,e,hb,hc⟩ := h.2.2.2 (by omega)
 have hl : k < l.length := by rw [h.len]; exact hk
 have hg : l[k]? = some l[k] := List.getElem?_eq_getElem hl
 have := rv_get l k _ hg
 exact ⟨b,off,l[k],e,hb,hc _ _ this.1,hc _ _ this.2,hg,List.take_succ_eq_append_getElem hl⟩
theorem Rs.of_own {base : Nat} {e : TypeId} (h : w.ownsRow base e 2 (.slice A n c) n (rv l)) : Rs w w.heap.size A n c l := Row.of_own h
end
def Arr (w : World) (b c : Nat) (l : List Rw) : Prop := ∃ cur : Array Value,Blk w b 52 cur /\ l.length <= c /\ c <= maxLen /\ cur.size = c * 2 /\ cur.toList.take (l.length * 2) = rv l
section
variable {w w' : World} {b c : Nat} {l : List Rw}
theorem Arr.own (h : Arr w b c l) {base : Nat} (hb : base <= b) : w.ownsRow base 52 2 (.slice (some ⟨b,0,none⟩) l.length c) l.length (rv l) := by
 obtain ⟨cur,h1,h2,h3,h4,h5⟩ := h
 exact ⟨rv_length l,.inr ⟨b,c,cur,rfl,hb,h1,h2,h3,h4,h5⟩⟩
theorem Arr.lt (h : Arr w b c l) : b < w.heap.size := by obtain ⟨cur,h1,_⟩ := h; exact h1.lt
theorem Arr.le (h : Arr w b c l) : l.length <= c /\ c <= 9223372036854775807 := by obtain ⟨cur,h1,h2,h3,_⟩ := h; unfold maxLen at h3; exact ⟨h2,by omega⟩
theorem Arr.same (h : Arr w b c l) (hk : w'.heap[b]? = w.heap[b]?) : Arr w' b c l := by
 obtain ⟨cur,h1,h2⟩ := h
 exact ⟨cur,hk.trans h1,h2⟩
theorem Arr.drewN (h : Arr w b c l) (n : Nat) : Arr (w.drewN n) b c l := h
theorem Arr.grown (h : Arr w b c l) (n : Nat) (os : Array Obj) : Arr (grow (w.drewN n) os) b c l := h.same (Go.Sort.heap_grow_old (w.drewN n) os h.lt)
theorem Arr.get (h : Arr w b c l) {k : Nat} {x : Rw} (hx : l[k]? = some x) : w.cell? ⟨b,k * 2,none⟩ = some (.int .i64 x.key) /\ w.cell? ⟨b,k * 2 + 1,none⟩ = some (.string x.val) := by
 obtain ⟨cur,h1,h2,h3,h4,h5⟩ := h
 have hk : k < l.length := (List.getElem?_eq_some_iff.1 hx).1
 obtain ⟨e1,e2⟩ := rv_get l k x hx
 rw [<- h5,List.getElem?_take_of_lt (by omega),Array.getElem?_toList] at e1 e2
 rw [h1.cell,h1.cell]
 exact ⟨e1,e2⟩
theorem Arr.frozen (h : Arr w b c l) (i : Nat) : w.frozen? ⟨b,i,none⟩ = false := by obtain ⟨cur,h1,_⟩ := h; exact h1.frozen i
theorem Arr.set (h : Arr w b c l) (k : Nat) (y : Rw) : Arr ((w.setCell ⟨b,k * 2,none⟩ (.int .i64 y.key)).setCell ⟨b,k * 2 + 1,none⟩ (.string y.val)) b c (l.set k y) := by
 obtain ⟨cur,h1,h2,h3,h4,h5⟩ := h
 refine ⟨_,(h1.set_ _ _).set_ _ _,by rw [List.length_set]; exact h2,h3,by simp [h4],?_⟩
 rw [Array.toList_setIfInBounds,Array.toList_setIfInBounds,List.length_set,List.take_set,List.take_set,h5,rv_set]
end
theorem below_grow (w : World) (n : Nat) (os : Array Obj) : Below w.heap.size w (grow (w.drewN n) os) :=
 ⟨rfl,rfl,rfl,by simp,fun i hi => Go.Sort.heap_grow_old (w.drewN n) os hi⟩
def NewRows (w : World) (l : List Rw) (e : Ending) (w' : World) : Prop :=
 ∃ A c,e = .returned (.slice A l.length c) /\ w'.ownsRow w.heap.size 52 2 (.slice A l.length c) l.length (rv l) /\ Below w.heap.size w w'
end Idx
namespace Fold
open Go.RowKit Base IdxMath
def rdS (v : Value) : Option (DataW Unit × List MemPlace) :=
 match v with
 | .string s => some (.lit (.string s.data.toList),[])
 | _ => none
def ent (x : Rw) : Lit × DataW Unit := (.int .i64 x.key,.lit (.string x.val.data.toList))
def ents (l : List Rw) : List (Lit × DataW Unit) := l.map ent
theorem ents_cons (x : Rw) (r : List Rw) : ents (x :: r) = ent x :: ents r := rfl
theorem ents_keys (l : List Rw) : intKeys (DataW.map (ents l)) = l.map (·.key) := by
 show (ents l).map _ = _
 rw [ents,List.map_map]
 rfl
theorem ents_size (l : List Rw) : Maps.size (DataW.map (ents l)) = l.length := List.length_map _
theorem same_ent (x : Rw) (k : Int) : (ent x).1.sameKey (.int .i64 k) = decide (x.key = k) := by simp [ent,Lit.sameKey]
theorem filter_high {r : List Rw} {k : Int} (h : ∀ z ∈ r,k < z.key) : (ents r).filter (fun p => !p.1.sameKey (.int .i64 k)) = ents r := by
 rw [List.filter_eq_self]
 intro p hp
 obtain ⟨z,hz,rfl⟩ := List.mem_map.1 hp
 have := h z hz
 rw [same_ent,decide_eq_false (by omega)]
 rfl
theorem ents_put {l : List Rw} (h : Rise l) (k : Int) (v : ByteArray) : (DataW.map (ents l)).put (.int .i64 k) (.lit (.string v.data.toList)) = .map (ents (put l k v)) := by
 show DataW.map (DataW.insert _ _) = _
 congr 1
 induction l with
 | nil => rfl
 | cons x r ih =>
   have hr : Rise r := List.Pairwise.of_cons h
   have hx := fun z hz => List.rel_of_pairwise_cons h (a' := z) hz
   have hb : ∀ y : Rw,(Lit.int .i64 k).before (ent y).1 = decide (k < y.key) := fun y => rfl
   rw [ents_cons,List.filter_cons,same_ent]
   unfold put
   by_cases h1 : x.key < k
   ·rw [decide_eq_false (by omega),if_pos h1,ents_cons,<- ih hr]
    show DataW.insert _ (ent x :: _) = _
    rw [DataW.insert,if_neg (by rw [hb]; simp; omega)]
   ·rw [if_neg h1]
    by_cases h2 : x.key = k
    ·rw [decide_eq_true h2,if_pos h2]
     show DataW.insert _ ((ents r).filter _) = _
     rw [filter_high (fun z hz => by have := hx z hz; omega)]
     cases r with
     | nil => rfl
     | cons y s =>
       have := hx y List.mem_cons_self
       rw [ents_cons,DataW.insert,if_pos (by rw [hb]; simp; omega)]
       rfl
    ·rw [decide_eq_false h2,if_neg h2]
     show DataW.insert _ (ent x :: _) = _
     rw [filter_high (fun z hz => by have := hx z hz; omega),DataW.insert,if_pos (by rw [hb]; simp; omega)]
     rfl
theorem ents_del {l : List Rw} (h : Rise l) (k : Int) : (DataW.map (ents l)).del (.int .i64 k) = .map (ents (del l k)) := by
 show DataW.map _ = _
 congr 1
 rw [del_find h]
 induction l with
 | nil => rfl
 | cons x r ih =>
   have hr : Rise r := List.Pairwise.of_cons h
   have hx := fun z hz => List.rel_of_pairwise_cons h (a' := z) hz
   rw [ents_cons,List.filter_cons,same_ent]
   by_cases h2 : x.key = k
   ·rw [decide_eq_true h2,List.eraseP_cons_of_pos (by simpa using h2)]
    show (ents r).filter _ = _
    exact filter_high (fun z hz => by have := hx z hz; omega)
   ·rw [decide_eq_false h2,List.eraseP_cons_of_neg (by simpa using h2),ents_cons,<- ih hr]
    rfl
theorem ents_at (l : List Rw) (k : Int) (zd : DataW Unit) : (DataW.map (ents l)).atKey (.int .i64 k) zd = match get l k with | some v => .lit (.string v.data.toList) | none => zd := by
 unfold DataW.atKey
 dsimp only
 induction l with
 | nil => simp [ents,IdxMath.get]
 | cons x r ih =>
   rw [ents_cons,List.find?_cons,same_ent,get_cons]
   by_cases h2 : x.key = k
   ·rw [decide_eq_true h2,if_pos h2]
    rfl
   ·rw [decide_eq_false h2,if_neg h2]
    exact ih
def In64 (k : Int) : Prop := -9223372036854775808 <= k /\ k <= 9223372036854775807
theorem In64.wf {k : Int} (h : In64 k) : (Lit.int .i64 k).wf = true := by
 simp only [Lit.wf,Bool.and_eq_true,decide_eq_true_eq]
 exact h
theorem key_of {k : Int} (h : In64 k) : keyOf Tryz.prog 2 (.int .i64 k) = some (.int .i64 k) := by
 have h1 := h.wf
 simp only [keyOf,Tryz.underlying2,mapKey]
 rw [if_pos (by simpa using h1)]
def MapAt (w : World) (b n : Nat) (l : List Rw) : Prop := w.ownsMap Tryz.prog 2 rdS b n (.map (ents l))
theorem MapAt.lt {w : World} {b n : Nat} {l : List Rw} (h : MapAt w b n l) : b < w.heap.size := World.ownsMap.lt h
theorem MapAt.same {w w' : World} {b n : Nat} {l : List Rw} (h : MapAt w b n l) (hk : w'.heap[b]? = w.heap[b]?) : MapAt w' b n l := by
 obtain ⟨es,clock,hb,r⟩ := h
 exact ⟨es,clock,hk.trans hb,r⟩
theorem MapAt.look {w : World} {b n : Nat} {l : List Rw} (h : MapAt w b n l) {k : Int} (hk : In64 k) {v : ByteArray} (hv : get l k = some v) : (Instr.lookup 198 (.map (some b)) (.int .i64 k) false).run Tryz.prog w = .ok (.string v) w := by
 have hz : (zeroValue 9).run Tryz.prog w = .ok (.string ⟨#[]⟩) w := by kernel_rfl
 obtain ⟨x,ps,hrun,hx⟩ := World.ownsMap.lookup h (Maps.int_keyed Tryz.underlying2) Tryz.underlying198 hz (zd := .lit (.string [])) (zp := []) rfl (key_of hk)
 rw [ents_at,hv] at hx
 cases x <;> simp [rdS] at hx
 rename_i s
 rw [hrun]
 obtain rfl : s = v := by
  obtain ⟨ds⟩ := s
  obtain ⟨dv⟩ := v
  have := hx.1
  congr 1
 rfl
theorem MapAt.made {w : World} {s : Nat} (hs : s = w.heap.size) : MapAt (w.alloc (.map #[] 0)) s 0 [] := by subst hs; exact World.ownsMap_made _ _ _ _
end Fold
end Go.Proofs.YtefnmnpfecfdaaaGreat
