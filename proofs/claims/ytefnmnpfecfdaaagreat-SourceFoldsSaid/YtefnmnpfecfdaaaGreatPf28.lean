/-
  Texts of one proof: WalBegin.
-/
import Derived.Test.YtefnmnpfecfdaaaGreatPf27
set_option linter.all false
set_option maxRecDepth 100000
set_option maxHeartbeats 3200000
open Go.Lib (hid)
namespace Go.Proofs.YtefnmnpfecfdaaaGreat
namespace Wal
open Go.RowKit Base WalMath
open Disk (DiskAt I64 Fits)
open Foot (Turn Out own_same own_type)
open DiskMath (Fl Dk)
theorem load_files {f0 : Int} : ∀ {fs : List Fl} {j : Nat} {acc segs : List Sg},WalMath.load f0 j acc fs = some segs -> ∃ k,k <= fs.length /\ segs = acc ++ (fs.take k).map segOf
 | [],j,acc,segs,h => by
   unfold WalMath.load at h
   injection h with h
   exact ⟨0,Nat.le_refl _,by simp [h]⟩
 | x :: r,j,acc,segs,h => by
   unfold WalMath.load at h
   split at h
   ·cases h
   ·split at h
    ·injection h with h
     exact ⟨0,Nat.zero_le _,by simp [h]⟩
    ·split at h
     ·cases h
     ·obtain ⟨k,hk,e⟩ := load_files h
      exact ⟨k + 1,by simpa using hk,by rw [e,List.take_succ_cons,List.map_cons,List.append_assoc]; rfl⟩
theorem loads_files {fs : List Fl} {segs : List Sg} (h : loads fs = some segs) : ∃ k,k <= fs.length /\ segs = (fs.take k).map segOf := by
 rw [loads_eq] at h
 obtain ⟨k,hk,e⟩ := load_files h
 exact ⟨k,hk,by simpa using e⟩
theorem mend_any (T : Nat -> Prop) (g gd : Nat) (l : Lg) (d : Dk) (fs : List Fl) (m k M : Nat) (A : Option Addr) (n c : Nat) (w : World) (h : Both T w g gd l d) (hT : New T w) (hc : Cap k M d) (hk : k <= 10000000) (ho : ∀ s ∈ l.segs,SgOk s) (hm : m <= fs.length) (hsg : l.segs = (fs.take m).map segOf) (hN : fs.length <= 16384) (hfs : ∀ x ∈ fs,0 <= x.id /\ x.id < 16384)
 (hr : Row w w.heap.size 1 A n c (iv (fs.map (·.id)))) :
 Calls Tryz.prog 96 #[.pointer (some ⟨g,0,none⟩),.slice A n c] w (Did T w g gd (.int .i64 (mend d fs l.segs).1) l (mend d fs l.segs).2) := by
 have hfn : fs.length = n := by have := hr.len; rw [iv_length,List.length_map,Nat.mul_one] at this; exact this
 have hsl : l.segs.length = m := by rw [hsg,List.length_map,List.length_take]; omega
 have hrle := hr.le
 obtain ⟨F,hdk,hF,HK⟩ := h.disk hT
 have HD := hid hdk
 have HNT := hid hT
 have HFt := hid (cap_fits hc (by omega))
 have HB := hid h
 obtain ⟨_,G,_,hlog,_⟩ := h
 have HLOG := hid hlog
 obtain ⟨Al,nl,cl,qs,lp,hL⟩ := hlog
 have c0 := hL.cells.1
 have c1 := hL.cells.2.1
 have hnl := hL.len
 rw [hsl] at hnl
 subst hnl
 generalize hmd : mend d fs l.segs = r
 have HMD := hid hmd
 clear hmd hdk hF hT hc
 by_cases hlt : m < n
 ·have hx := List.getElem?_eq_getElem (l := fs) (i := m) (by omega)
  obtain ⟨x,hxe⟩ : ∃ x,x = fs[m]'(by omega) := ⟨_,rfl⟩
  rw [<- hxe] at hx
  have HE := hid (show r = DiskMath.remove d x.id by rw [<- HMD.out,mend,hsl,hx])
  obtain ⟨b1,o1,rfl,hb1,hc1⟩ := Row.num hr hlt
  have y1 : w.cell? ⟨b1,o1 + m,none⟩ = some (.int .i64 x.id) := by
   rw [hc1,List.getD_eq_getElem?_getD,List.getElem?_map,hx]
   rfl
  clear hL hr hc1 hx hxe hsg hsl ho hfs HMD hfn
  have hd1 : decide ((m : Int) < (n : Int)) = true := by simp; omega
  go_enter Tryz.func96,Tryz.ntmps96
  go_wp2
  go_still_tail 8,(by kernel_rfl)
  go_wp2_with fail
  refine (Disk.remove_any F gd d x.id _ (HD.out.drewN 1) HFt.out).mono ?_
  rintro e w1 ⟨rfl,hd1,ht1⟩
  have HR := hid (HK.out w1 _ hd1 ⟨ht1.os,ht1.tape,ht1.output,ht1.size,ht1.block⟩)
  clear hd1 ht1
  go_wp2
  go_ret
  rw [HE.out]
  exact ⟨rfl,HR.out.1,HR.out.2⟩
 ·obtain rfl : m = n := by omega
  have hnone : fs[m]? = none := List.getElem?_eq_none (by omega)
  rcases List.eq_nil_or_concat l.segs with hnil | ⟨pre,s,hcon⟩
  ·have HE := hid (show r = (0,d) by rw [<- HMD.out,mend,hsl,hnone]; simp [hnil])
   rw [hnil] at hsl
   obtain rfl : 0 = m := hsl
   clear hL hr hsg ho hfs HMD hnone hnil
   go_enter Tryz.func96,Tryz.ntmps96
   go_wp2
   go_ret
   rw [HE.out]
   exact ⟨rfl,HB.out,Turn.refl _ _⟩
  ·rw [List.concat_eq_append] at hcon
   have hgl : l.segs.getLast? = some s := by rw [hcon]; simp
   have hpl : pre.length + 1 = m := by rw [<- hsl,hcon]; simp
   have hsk := ho s (by rw [hcon]; simp)
   have hEq : r = if (s.size : Int) < DiskMath.size d s.file then DiskMath.cut d s.file s.size else (0,d) := by rw [<- HMD.out,mend,hsl,hnone,hgl]
   have HEq := hid hEq
   obtain ⟨b2,q,rfl,_,_,_,hpn,⟨hnc,hcm⟩,_,k0,k1,k2,k3⟩ := hL.at_ (k := pre.length) (s := s) (by rw [hcon]; simp)
   -- the last file's number
   have hfl : (fs.map (·.id)).getD pre.length 0 = s.file := by
    have h1 : l.segs[pre.length]? = some s := by rw [hcon]; simp
    rw [hsg,List.getElem?_map,List.getElem?_take,if_pos (by omega)] at h1
    rw [List.getD_eq_getElem?_getD,List.getElem?_map]
    cases hq : fs[pre.length]? with
    | none => rw [hq] at h1; cases h1
    | some x =>
      rw [hq] at h1
      injection h1 with h1
      rw [<- h1]
      rfl
   obtain ⟨b1,o1,rfl,hb1,hc1⟩ := Row.num hr (k := pre.length) (by omega)
   have y1 : w.cell? ⟨b1,o1 + pre.length,none⟩ = some (.int .i64 s.file) := by rw [hc1,hfl]
   have HTN := hid (istorn_any F G g gd l d s.file s.first q.A s.rows.length q.c s.size w HLOG.out HD.out ⟨by have := hsk.1; omega,by have := hsk.2.1; omega⟩)
   have hz := hsk.2.2.2.2.1
   clear hL hr hc1 hsg hsl ho hfs HMD hnone hgl hcon hsk hEq hfl
   generalize hpp : pre.length = pp at *
   have hwp : IntKind.i64.wrap ((m : Int) - 1) = pp := by rw [IntWalk.i64_in _ (by omega)]; omega
   have hd1 : decide (0 < (m : Int)) = true := by simp; omega
   have hm0 : 0 < m := by omega
   clear hpl hpp hlt
   by_cases htn : (s.size : Int) < DiskMath.size d s.file
   ·have HE := hid (show r = DiskMath.cut d s.file s.size by rw [HEq.out,if_pos htn])
    have hdt : decide ((s.size : Int) < DiskMath.size d s.file) = true := by simpa using htn
    rw [hdt] at HTN
    clear htn hdt HEq
    generalize s.file = f at *
    generalize s.first = x at *
    generalize s.rows.length = rr at *
    generalize s.size = z at *
    go_enter Tryz.func96,Tryz.ntmps96
    go_wp2_with fail
    refine HTN.out.mono ?_
    rintro e w1 ⟨rfl,hb1'⟩
    replace c0 := held_cell hb1' c0
    replace c1 := held_cell hb1' c1
    replace k3 := held_cell hb1' k3
    replace y1 := held_cell hb1' y1
    have HD1 := hid (HD.out.new hb1')
    have HBw := hid hb1'
    have HB1 := hid (HB.out.new hb1')
    clear hb1' k0 k1 k2
    go_wp2
    obtain ⟨F2,hdk2,hF2,HK2⟩ := HB1.out.disk (HNT.out.le HBw.out.size)
    have HD2 := hid hdk2
    clear hdk2 hF2
    go_still_tail 19,(by kernel_rfl)
    go_wp2_with fail
    refine (Disk.cut_any F2 gd d f z _ (HD2.out.drewN 1) HFt.out).mono ?_
    rintro e w2 ⟨rfl,hd2,ht2⟩
    have HR := hid (HK2.out w2 _ hd2 ⟨ht2.os,ht2.tape,ht2.output,ht2.size,ht2.block⟩)
    clear hd2 ht2
    go_wp2
    go_ret
    rw [HE.out]
    exact ⟨rfl,HR.out.1,(Turn.new HBw.out).trans (F' := T) HR.out.2 fun _ hi => .inl hi⟩
   ·have HE := hid (show r = (0,d) by rw [HEq.out,if_neg htn])
    have hdt : decide ((s.size : Int) < DiskMath.size d s.file) = false := by simpa using htn
    rw [hdt] at HTN
    clear htn hdt HEq
    generalize s.file = f at *
    generalize s.first = x at *
    generalize s.rows.length = rr at *
    generalize s.size = z at *
    go_enter Tryz.func96,Tryz.ntmps96
    go_wp2_with fail
    refine HTN.out.mono ?_
    rintro e w1 ⟨rfl,hb1'⟩
    have HBw := hid hb1'
    clear hb1'
    go_wp2
    go_ret
    rw [HE.out]
    exact ⟨rfl,HB.out.new HBw.out,Turn.new HBw.out⟩
end Wal
namespace Wal
open Go.RowKit Base WalMath
open Disk (DiskAt I64 Fits)
open Foot (Turn Out own_same own_type)
open DiskMath (Fl Dk)
def DiskT (T : Nat -> Prop) (w : World) (gd : Nat) (d : Dk) : Prop := ∃ F,DiskAt F w gd d /\ ∀ i,F i -> T i /\ i < w.heap.size
theorem Both.onDisk {T : Nat -> Prop} {w : World} {g gd : Nat} {l : Lg} {d : Dk} (h : Both T w g gd l d) : DiskT T w gd d := by
 obtain ⟨F,G,h1,_,_,h4,_⟩ := h
 exact ⟨F,h1,h4⟩
theorem DiskT.new {T : Nat -> Prop} {w w' : World} {gd : Nat} {d : Dk} (h : DiskT T w gd d) (hb : Below w.heap.size w w') : DiskT T w' gd d := by
 obtain ⟨F,h1,h4⟩ := h
 exact ⟨F,h1.new hb,fun i hi => ⟨(h4 i hi).1,Nat.lt_of_lt_of_le (h4 i hi).2 hb.size⟩⟩
theorem DiskT.mono {T T' : Nat -> Prop} {w : World} {gd : Nat} {d : Dk} (h : DiskT T w gd d) (hT : ∀ i,T i -> T' i) : DiskT T' w gd d := by
 obtain ⟨F,h1,h4⟩ := h
 exact ⟨F,h1,fun i hi => ⟨hT i (h4 i hi).1,(h4 i hi).2⟩⟩
def Opened (T : Nat -> Prop) (w : World) (gd : Nat) (r : WalMath.Op) (e : Ending) (w' : World) : Prop := match r.l with
 | none => e = .returned (.tuple #[.pointer none,.int .i64 r.e]) /\ DiskT T w' gd r.d /\ Turn T w w'
 | some l => ∃ g,e = .returned (.tuple #[.pointer (some ⟨g,0,none⟩),.int .i64 0]) /\ Both T w' g gd l r.d /\ (∀ s ∈ l.segs,SgOk s) /\ Turn T w w'
theorem laid_new {T : Nat -> Prop} {w : World} {gd : Nat} {d : Dk} (h : DiskT T w gd d) (hT : New T w) (ba sz : Int) :
 Both T (w.alloc (.cells #[.slice none 0 0,.pointer (some ⟨gd,0,none⟩),.int .i64 ba,.int .i64 sz,.pointer none] 107)) w.heap.size gd ⟨[],ba,sz,none⟩ d := by
 obtain ⟨F,h1,h4⟩ := h
 refine ⟨F,fun i => i = w.heap.size,h1.alloc _,⟨none,0,0,[],none,rfl,Blk.new _ _ _,rfl,⟨World.ownsRow_nil _ _ _ _,(fun b hb => by cases hb),(fun x hx => by cases hx),List.Pairwise.nil⟩,trivial⟩,fun i hi hg => ?_,fun i hi => ⟨(h4 i hi).1,?_⟩,fun i hi => ?_⟩
 ·have := (h4 i hi).2
  omega
 ·have := (h4 i hi).2
  rw [World.size_alloc]
  omega
 ·subst hi
  exact ⟨hT _ (Nat.le_refl _),by rw [World.size_alloc]; omega⟩
theorem open_no (T : Nat -> Prop) (gd : Nat) (d : Dk) (ba sz : Int) (w : World) (h : DiskT T w gd d) (hb : ba < 0 \/ 12288 < ba \/ sz < 64 \/ 65536 < sz) :
 Calls Tryz.prog 37 #[.pointer (some ⟨gd,0,none⟩),.int .i64 ba,.int .i64 sz] w (Opened T w gd (open_ d ba sz)) := by
 have HE := hid (show open_ d ba sz = ⟨1,none,d⟩ by unfold open_; rw [if_pos hb])
 have HD := hid h
 clear h
 by_cases h1 : ba < 0
 ·clear hb
  go_enter Tryz.func37,Tryz.ntmps37
  go_wp2
  go_ret2
  rw [HE.out]
  exact ⟨rfl,HD.out,Turn.refl _ _⟩
 ·by_cases h2 : 12288 < ba
  ·clear hb
   go_enter Tryz.func37,Tryz.ntmps37
   go_wp2
   go_ret2
   rw [HE.out]
   exact ⟨rfl,HD.out,Turn.refl _ _⟩
  ·by_cases h3 : sz < 64
   ·clear hb
    go_enter Tryz.func37,Tryz.ntmps37
    go_wp2
    go_ret2
    rw [HE.out]
    exact ⟨rfl,HD.out,Turn.refl _ _⟩
   ·have h4 : 65536 < sz := by omega
    clear hb
    go_enter Tryz.func37,Tryz.ntmps37
    go_wp2
    go_ret2
    rw [HE.out]
    exact ⟨rfl,HD.out,Turn.refl _ _⟩
theorem open_yes (T : Nat -> Prop) (gd : Nat) (d : Dk) (k M : Nat) (ba sz : Int) (w : World) (h : DiskT T w gd d) (hT : New T w) (hc : Cap k M d) (hk : k <= 1000000) (hM : M <= 35184372088832) (hb : ¬ (ba < 0 \/ 12288 < ba \/ sz < 64 \/ 65536 < sz)) :
 Calls Tryz.prog 37 #[.pointer (some ⟨gd,0,none⟩),.int .i64 ba,.int .i64 sz] w (Opened T w gd (open_ d ba sz)) := by
 have HD := hid h
 have HT := hid hT
 have HC := hid hc
 generalize hop : open_ d ba sz = r
 have HOP := hid (show r = if d.off then ⟨8,none,d⟩ else match loads (own d ba) with
  | none => ⟨3,none,d⟩
  | some segs => mended ba sz segs (mend d (own d ba) segs) by rw [<- hop]; unfold open_; rw [if_neg hb]; rfl)
 clear hop
 have h1 : decide (ba < 0) = false := by simp; omega
 have h2 : decide (12288 < ba) = false := by simp; omega
 have h3 : decide (sz < 64) = false := by simp; omega
 have h4 : decide (65536 < sz) = false := by simp; omega
 have hb0 : 0 <= ba := by omega
 have hb1 : ba <= 12288 := by omega
 obtain ⟨F,hdk,hF⟩ := h
 have HDW := hid (Disk.down_any F gd d w hdk)
 have hup := hdk.up
 have HFS : Hid (∀ x ∈ own d ba,DiskMath.seek d.files x.id = some x /\ 0 <= x.id /\ x.id < 16384 /\ x.b.length <= 35184372088832) := fun x hx => by
  have hx2 := (List.mem_filter.1 hx).1
  have := hup.mem x hx2
  exact ⟨DiskMath.seek_of hup hx2,this.1,this.2.1,Nat.le_trans (hc.2.2 x hx2) hM⟩
 have HN : Hid ((own d ba).length <= 16384) := Nat.le_trans (List.length_filter_le _ _) hup.le
 clear hb hdk hF hup hc hT
 cases hoff : d.off with
 | true =>
   have HE := hid (show r = ⟨8,none,d⟩ by rw [HOP.out,hoff]; rfl)
   rw [hoff] at HDW
   clear hoff
   go_enter Tryz.func37,Tryz.ntmps37
   go_wp2_with fail
   refine HDW.out.mono ?_
   rintro e w1 ⟨rfl,rfl⟩
   go_wp2
   go_ret2
   rw [HE.out]
   exact ⟨rfl,HD.out,Turn.refl _ _⟩
 | false =>
   have HOP2 := hid (show r = match loads (own d ba) with
    | none => ⟨3,none,d⟩
    | some segs => mended ba sz segs (mend d (own d ba) segs) by rw [HOP.out,hoff]; rfl)
   rw [hoff] at HDW
   clear hoff
   have HB0 := hid (laid_new HD.out HT.out ba sz)
   have HBl : Hid (Below w.heap.size w (w.alloc (.cells #[.slice none 0 0,.pointer (some ⟨gd,0,none⟩),.int .i64 ba,.int .i64 sz,.pointer none] 107))) := (Below.refl _ _).alloc (Nat.le_refl _) _
   go_enter Tryz.func37,Tryz.ntmps37
   go_wp2_with fail
   refine HDW.out.mono ?_
   rintro e w1 ⟨rfl,rfl⟩
   go_wp2_with fail
   generalize w.alloc (.cells #[.slice none 0 0,.pointer (some ⟨gd,0,none⟩),.int .i64 ba,.int .i64 sz,.pointer none] 107) = W at HB0 HBl ⊢
   generalize w.heap.size = g at HB0 ⊢
   obtain ⟨F1,G1,hdk1,hlog1,_,_,_⟩ := HB0.out
   refine (files_any F1 G1 g gd ⟨[],ba,sz,none⟩ d W hlog1 hdk1 hb0 hb1).mono ?_
   rintro e w2 ⟨A2,c2,rfl,hr2,hl2,hb2⟩
   have HR2 := hid hr2
   have HBW2 := hid (HB0.out.win hb2)
   have HNW2 := hid ((HT.out.le HBl.out.size).win hb2.size)
   have HLI : Hid (Lies (fun i => ¬ Win T W.heap.size w2.heap.size i) A2 ((own d ba).map (·.id)).length) := fun hn b off e hw => by
    have a := hl2 hn b off e
    obtain ⟨b',off',e',hb',_⟩ := hr2.2.2.2 hn
    rw [e] at e'
    injection e' with e'
    injection e' with e1 _
    subst e1
    have := hw.2
    omega
   have HT2 : Hid (Turn T w w2) := (Turn.new HBl.out).trans (F' := T) (Turn.new hb2) fun _ hi => .inl hi
   clear hr2 hl2 hb2 hdk1 hlog1
   have HW1 : Hid (∀ i,Win T W.heap.size w2.heap.size i -> T i) := fun i hi => hi.1
   generalize Win T W.heap.size w2.heap.size = T2 at *
   generalize hks : ((own d ba).map (·.id)).length = kl at *
   have HKS := hid hks
   clear hks
   go_wp2_with fail
   refine (load_any T2 g gd ⟨[],ba,sz,none⟩ d (own d ba) A2 kl c2 w2 HBW2.out HNW2.out rfl HFS.out HN.out HR2.out HLI.out).mono ?_
   intro e w3 hld
   cases hlo : loads (own d ba) with
   | none =>
     rw [hlo] at hld
     obtain ⟨rfl,⟨l',hb3⟩,ht3⟩ := hld
     have HE := hid (show r = ⟨3,none,d⟩ by rw [HOP2.out,hlo])
     have HB3 := hid hb3
     have HT3 := hid (HT2.out.trans (F' := T) (ht3.mono HW1.out) fun _ hi => .inl hi)
     clear hb3 ht3 hlo
     go_wp2
     go_ret2
     rw [HE.out]
     exact ⟨rfl,HB3.out.onDisk.mono HW1.out,HT3.out⟩
   | some segs =>
     rw [hlo] at hld
     obtain ⟨rfl,hb3,hok3,ht3⟩ := hld
     have HE := hid (show r = mended ba sz segs (mend d (own d ba) segs) by rw [HOP2.out,hlo])
     obtain ⟨m,hm,hsg⟩ := loads_files hlo
     have HB3 := hid hb3
     have HOK := hid hok3
     have HT3 := hid (HT2.out.trans (F' := T) (ht3.mono HW1.out) fun _ hi => .inl hi)
     have HN3 := hid (New.le HNW2.out ht3.size)
     have hr3 : Row w3 w3.heap.size 1 A2 kl c2 (iv ((own d ba).map (·.id))) := Row.same HR2.out fun hn b off e hb => ⟨Nat.lt_of_lt_of_le hb ht3.size,ht3.block b hb (HLI.out hn b off e)⟩
     have HMD := hid (mend_any T2 g gd ⟨segs,ba,sz,none⟩ d (own d ba) m k M A2 kl c2 w3 hb3 HN3.out HC.out (by omega) hok3 hm hsg HN.out (fun x hx => ⟨(HFS.out x hx).2.1,(HFS.out x hx).2.2.1⟩) hr3)
     clear hb3 hok3 ht3 hlo hr3 hsg hm
     generalize hmm : mend d (own d ba) segs = mm at *
     obtain ⟨e4,d4⟩ := mm
     clear hmm
     dsimp only at *
     go_wp2_with fail
     refine HMD.out.mono ?_
     rintro e w4 ⟨rfl,hb4,ht4⟩
     have HB4 := hid hb4
     have HT4 := hid (HT3.out.trans (F' := T) (ht4.mono HW1.out) fun _ hi => .inl hi)
     clear hb4 ht4 HMD
     by_cases h0 : e4 = 0
     ·subst h0
      go_wp2
      go_ret2
      rw [HE.out]
      exact ⟨g,rfl,HB4.out.mono HW1.out,HOK.out,HT4.out⟩
     ·have HE2 := hid (show r = ⟨e4,none,d4⟩ by rw [HE.out]; exact if_neg h0)
      have hne : (e4 != 0) = true := by simpa using h0
      clear h0
      go_wp2
      go_ret2
      rw [HE2.out]
      exact ⟨rfl,HB4.out.onDisk.mono HW1.out,HT4.out⟩
theorem open_any (T : Nat -> Prop) (gd : Nat) (d : Dk) (k M : Nat) (ba sz : Int) (w : World) (h : DiskT T w gd d) (hT : New T w) (hc : Cap k M d) (hk : k <= 1000000) (hM : M <= 35184372088832) :
 Calls Tryz.prog 37 #[.pointer (some ⟨gd,0,none⟩),.int .i64 ba,.int .i64 sz] w (Opened T w gd (open_ d ba sz)) := by
 by_cases hb : ba < 0 \/ 12288 < ba \/ sz < 64 \/ 65536 < sz
 ·exact open_no T gd d ba sz w h hb
 ·exact open_yes T gd d k M ba sz w h hT hc hk hM hb
end Wal
end Go.Proofs.YtefnmnpfecfdaaaGreat
