/-
  Texts of one proof: WalDelete, WalTrim, SrcSave.
-/
import Derived.Test.YtefnmnpfecfdaaaGreatPf39
set_option linter.all false
set_option maxRecDepth 100000
set_option maxHeartbeats 6400000
open Go.Lib (hid)
namespace Go.Proofs.YtefnmnpfecfdaaaGreat
namespace Wal
open Go.RowKit Base WalMath
open Disk (DiskAt I64 Fits)
open Foot (Turn Out own_same own_type)
open DiskMath (Fl Dk)
theorem setMany_blk {b : Nat} {t : TypeId} : ∀ (vs : List Value) (o : Nat) (w : World) (cs : Array Value),Blk w b t cs -> o + vs.length <= cs.size -> ∃ cs',Blk (w.setCells b o vs) b t cs' /\ cs'.toList = cs.toList.take o ++ vs ++ cs.toList.drop (o + vs.length)
 | [],o,w,cs,h,_ => ⟨cs,h,by simp⟩
 | v :: r,o,w,cs,h,hl => by
   rw [List.length_cons] at hl
   obtain ⟨cs',h1,h2⟩ := setMany_blk r (o + 1) _ _ (h.set_ o v) (by rw [Array.size_setIfInBounds]; omega)
   refine ⟨cs',h1,?_⟩
   rw [h2,Array.toList_setIfInBounds,List.length_cons]
   have hlen : o < cs.toList.length := by rw [Array.length_toList]; omega
   rw [List.set_eq_take_append_cons_drop,if_pos hlen]
   have hto : (cs.toList.take o).length = o := by rw [List.length_take]; omega
   rw [List.take_append,List.take_of_length_le (l := cs.toList.take o) (by omega),hto,show o + 1 - o = 1 by omega,List.take_succ_cons,List.take_zero,List.drop_append,List.drop_of_length_le (l := cs.toList.take o) (by omega),hto,show o + 1 + r.length - o = r.length + 1 by omega,List.drop_succ_cons,List.drop_drop,List.nil_append,show o + 1 + r.length = o + (r.length + 1) by omega]
   simp
theorem setMany_grown (b : Nat) : ∀ (vs : List Value) (o : Nat) (w : World),w.grownBy (w.setCells b o vs) (some b)
 | [],_,w => World.grownBy.refl _ _
 | v :: r,o,w => by
   have h := setMany_grown b r (o + 1) (w.setCell ⟨b,o,none⟩ v)
   refine ⟨h.os,h.tape,h.output,by have := h.size; rw [World.size_setCell] at this; exact this,fun i hi hne => ?_⟩
   exact (h.block i (by simpa using hi) hne).trans (Below.heap_setCell w ⟨b,o,none⟩ v i fun e => hne (by rw [e]))
def zseg : Array Value := #[.int .i64 0,.int .i64 0,.slice none 0 0,.int .i64 0]
theorem run_clear_one (w : World) (ty : TypeId) (b o c : Nat) (hc : ∀ j,j < 4 -> (w.cell? ⟨b,o + j,none⟩).isSome = true) (hf : ∀ j,j < 4 -> w.frozen? ⟨b,o + j,none⟩ = false) :
 (Builtin.clear_ #[102] ty #[.slice (some ⟨b,o,none⟩) 1 c]).run Tryz.prog w = .ok (.tuple #[]) (w.setCells b o zseg.toList) := by
 have hv : ∀ w,(zeroValue 172).run Tryz.prog w = .ok (.agg zseg) w := Tryz.zeroValue172
 have hzc : (Builtin.zeroCells (Value.agg zseg).cells 1).toList = zseg.toList := by first | kernel_rfl | (simp [Builtin.zeroCells,Value.cells,zseg]; done) | (unfold Builtin.zeroCells; rfl)
 have hst := run_storeCells_cells (P := Tryz.prog) b o zseg.toList 0 w (by simpa [zseg] using hc) (by simpa [zseg] using hf) (by intro v hv'; simp [zseg] at hv'; rcases hv' with rfl | rfl | rfl | rfl <;> rfl)
 simp only [Nat.add_zero] at hst
 simp [Builtin.clear_,run_underlying Tryz.underlying102,hv,hzc,hst]
theorem delete_any (base b n c : Nat) (x : Sg × Sp) (rest : List (Sg × Sp)) (w : World) (ho : w.ownsRow base 172 4 (.slice (some ⟨b,0,none⟩) n c) n (flat (x :: rest))) (hn : 2 <= n) :
 Calls Tryz.prog 110 #[.slice (some ⟨b,0,none⟩) n c,.int .i64 0,.int .i64 1] w fun e w' => e = .returned (.slice (some ⟨b,0,none⟩) (n - 1) c) /\ w'.ownsRow base 172 4 (.slice (some ⟨b,0,none⟩) (n - 1) c) (n - 1) (flat rest) /\ w.grownBy w' (some b) := by
 obtain ⟨k,rfl⟩ : ∃ k,n = k + 1 := ⟨n - 1,by omega⟩
 rw [Nat.add_sub_cancel]
 obtain ⟨h1,hh⟩ := ho
 rw [flat_length,List.length_cons] at h1
 have hrl : rest.length = k := by omega
 rcases hh with ⟨_,h0⟩ | ⟨b',cap,cur,hv,hbase,hblk,hnc,hcm,hcs,htake⟩
 ·omega
 simp only [Value.slice.injEq,Option.some.injEq] at hv
 obtain ⟨hbb,_,hcc⟩ := hv
 injection hbb with hbb
 subst hbb hcc
 have hcm' : c <= 9223372036854775807 := by unfold maxLen at hcm; omega
 have hB : Blk w.drew b 172 cur := hblk
 have hfl : (flat rest).length = k * 4 := by rw [flat_length,hrl]
 have hcur : ∀ j,j < k * 4 -> cur[4 + j]? = (flat rest)[j]? := fun j hj => by
  have e : (cur.toList.take ((k + 1) * 4))[4 + j]? = cur.toList[4 + j]? := List.getElem?_take_of_lt (by omega)
  rw [htake,flat_cons,List.getElem?_append_right (by simp [sgv])] at e
  rw [<- Array.getElem?_toList,<- e]
  congr 1
  simp [sgv]
 have S1 : Hid ((flat rest).length = k * 4) := hfl
 have S2 := hid (sgv_one rest)
 have hsrc : Hid (∀ j u,(flat rest)[j]? = some u -> w.drew.cell? ((⟨b,4,none⟩ : Addr).add j) = some u) := fun j u hu => by
  have hj : j < k * 4 := by rw [<- hfl]; exact (List.getElem?_eq_some_iff.1 hu).1
  rw [add_none,hB.cell,hcur j hj]
  exact hu
 have S3 : Hid (∀ j,j < (flat rest).length -> (w.drew.cell? ⟨b,0 + 0 * 4 + j,none⟩).isSome = true /\ w.drew.frozen? ⟨b,0 + 0 * 4 + j,none⟩ = false) := fun j hj => by
  rw [hfl] at hj
  refine ⟨?_,hB.frozen _⟩
  rw [hB.cell,Array.getElem?_eq_getElem (by omega)]
  rfl
 obtain ⟨cs1,hB1,hl1⟩ := setMany_blk (flat rest) 0 _ _ hB (by rw [hfl]; omega)
 obtain ⟨W1,hW1⟩ : ∃ W1,W1 = w.drew.setCells b (0 + 0 * 4) (flat rest) := ⟨_,rfl⟩
 have HW := hid hW1
 have hB1' : Blk W1 b 172 cs1 := by rw [hW1]; exact hB1
 have hsz1 : cs1.size = cur.size := by
  rw [<- Array.length_toList,hl1,List.length_append,List.length_append,List.length_take,List.length_drop,Array.length_toList,hfl]
  omega
 obtain ⟨cs2,hB2,hl2⟩ := setMany_blk zseg.toList (k * 4) W1 cs1 hB1' (by show k * 4 + 4 <= _; omega)
 have hg1 : w.grownBy W1 (some b) := by
  rw [hW1]
  have := setMany_grown b (flat rest) (0 + 0 * 4) w.drew
  exact ⟨this.os,this.tape,this.output,this.size,this.block⟩
 have hg2 := setMany_grown b zseg.toList (k * 4) W1
 have HOWN : Hid ((W1.setCells b (k * 4) zseg.toList).ownsRow base 172 4 (.slice (some ⟨b,0,none⟩) k c) k (flat rest)) := by
  have hsz2 : cs2.size = cs1.size := by
   rw [<- Array.length_toList,hl2,List.length_append,List.length_append,List.length_take,List.length_drop,Array.length_toList]
   show min (k * 4) cs1.size + 4 + (cs1.size - (k * 4 + 4)) = _
   omega
  refine ⟨hfl,.inr ⟨b,c,cs2,rfl,hbase,hB2,by omega,hcm,by rw [hsz2,hsz1,hcs],?_⟩⟩
  have e1 : cs1.toList.take (k * 4) = flat rest := by
   rw [hl1,List.take_zero,List.nil_append]
   exact FieldMath.take_app (flat rest) _ hfl
  rw [hl2,List.append_assoc,e1]
  exact FieldMath.take_app (flat rest) _ hfl
 have HGR := hid (show w.grownBy (W1.setCells b (k * 4) zseg.toList) (some b) from ⟨hg2.os.trans hg1.os,hg2.tape.trans hg1.tape,hg2.output.trans hg1.output,Nat.le_trans hg1.size hg2.size,fun i hi hne => (hg2.block i (Nat.lt_of_lt_of_le hi hg1.size) hne).trans (hg1.block i hi hne)⟩)
 have hcl := fun ty => run_clear_one W1 ty b (k * 4) (c - k) (fun j hj => by rw [hB1'.cell,Array.getElem?_eq_getElem (by omega)]; rfl) (fun j hj => hB1'.frozen _)
 obtain ⟨i0,t22,hi0,hz,hs4,hby,_,_⟩ := sg
 have hc1 : ¬ c = 1 := by omega
 have hc2 : k + 1 <= c := hnc
 have hk0 : 0 < k := by omega
 have h1k : (1 : Int) <= (k : Int) + 1 := by omega
 have h1c : (k : Int) + 1 <= (c : Int) := by omega
 have hkc : ¬ c = k := by omega
 have hkk : (k : Int) <= (k : Int) + 1 := by omega
 have hcl2 : ∀ ty,(Builtin.clear_ #[102] ty #[.slice (some ⟨b,k * 4,none⟩) 1 (c - k)]).run Tryz.prog W1 = .ok (.tuple #[]) (W1.setCells b (k * 4) zseg.toList) := hcl
 clear hcl hg1 hg2 hl1 hl2 hB1 hB2 hB1' hW1 hsz1 hcur hfl hB hblk htake hcs hbase
 generalize W1.setCells b (k * 4) zseg.toList = W2 at *
 go_enter Tryz.func110,Tryz.ntmps110
 go_wp2_with fail
 go_region_law (refine step_append_room rfl (.tmp 22) (.tmp 25) 102 rfl 172 i0 4 t22 hi0 hs4 b 0 0 c (by simp [Act.eval,Act.put]) ⟨b,4,none⟩ k (c - 1) (flat rest) (by simp [Act.eval,Act.put]) S1.out hsrc.out S2.out (by omega) S3.out ?_; rw [<- HW.out])
 go_wp2
 go_ret
 exact ⟨rfl,HOWN.out,HGR.out⟩
end Wal
namespace Wal
open Go.RowKit Base WalMath
open Disk (DiskAt I64 Fits)
open Foot (Turn Out own_same own_type)
open DiskMath (Fl Dk)
theorem Laid.pop {G : Nat -> Prop} {w w1 : World} {g gd n c b : Nat} {l : Lg} {x : Sg × Sp} {rest : List (Sg × Sp)} {lp : Option Nat} (h : Laid G w g gd l (some ⟨b,0,none⟩) n c (x :: rest) lp) {n' : Nat} (hown : w1.ownsRow 0 172 4 (.slice (some ⟨b,0,none⟩) n' c) n' (flat rest)) (hg : w.grownBy w1 (some b)) :
 Laid G (w1.setCell ⟨g,0,none⟩ (.slice (some ⟨b,0,none⟩) n' c)) g gd { l with segs := rest.map (·.1) } (some ⟨b,0,none⟩) n' c rest lp /\ Turn G w (w1.setCell ⟨g,0,none⟩ (.slice (some ⟨b,0,none⟩) n' c)) := by
 obtain ⟨h1,h2,h3,⟨h4,h5,h6,h7⟩,h8⟩ := h
 have hk : ∀ (i : Nat) (cur : Array Value) (e : TypeId),e ≠ 172 -> w.heap[i]? = some (.cells cur e (0,0)) -> w1.heap[i]? = some (.cells cur e (0,0)) := fun i cur e hne hi => kept_type hg (fun b' hb => own_type h4 (by rw [<- hb]; rfl)) hne hi
 have hbk : Blk w1 g 107 _ := hk g _ _ (by decide) h2
 have hk2 : ∀ (i : Nat) (cur : Array Value) (e : TypeId),e ≠ 172 -> e ≠ 107 -> w.heap[i]? = some (.cells cur e (0,0)) -> (w1.setCell ⟨g,0,none⟩ (.slice (some ⟨b,0,none⟩) n' c)).heap[i]? = w.heap[i]? := fun i cur e hne hne2 hi => (other_block (p := ⟨g,0,none⟩) hbk (hk i cur e hne hi) hne2).trans hi.symm
 have hz : w.heap.size <= (w1.setCell ⟨g,0,none⟩ (.slice (some ⟨b,0,none⟩) n' c)).heap.size := by simpa using hg.size
 refine ⟨⟨rfl,Blk.set_ hbk 0 _,h3,⟨?_,fun b' hb => h5 b' (by rw [<- hb]; rfl),fun y hy => ?_,?_⟩,h8.keepT fun i cur hi => hk2 i cur _ (by decide) (by decide) hi⟩,(Turn.grown hg fun b' hb => h5 b' (by rw [<- hb]; rfl)).setCell (.inl h3) _⟩
 ·refine own_same hown fun b' hb => ?_
  obtain ⟨cur,hc⟩ := own_type hown hb
  exact (other_block (p := ⟨g,0,none⟩) hbk hc (by decide)).trans hc.symm
 ·exact ListsIn.keep2 (h6 y (List.mem_cons_of_mem _ hy)) hz (fun b cur _ hb => hk2 b cur _ (by decide) (by decide) hb) (fun b cur hb => hk2 b cur _ (by decide) (by decide) hb)
 ·exact (List.pairwise_cons.1 h7).2
theorem Laid.blk {G : Nat -> Prop} {w w1 : World} {g gd n c b : Nat} {l : Lg} {qs : List (Sg × Sp)} {lp : Option Nat} (h : Laid G w g gd l (some ⟨b,0,none⟩) n c qs lp) (hg : w.grownBy w1 (some b)) : Blk w1 g 107 #[.slice (some ⟨b,0,none⟩) n c,.pointer (some ⟨gd,0,none⟩),.int .i64 l.base,.int .i64 l.size,leftV lp] :=
 kept_type hg (fun b' hb => own_type h.2.2.2.1.1 (by rw [<- hb]; rfl)) (by decide) h.2.1
def sliceLen : Option Value -> Nat
 | some (.slice _ n _) => n
 | _ => 0
def TrimRel (T : Nat -> Prop) (w : World) (g gd : Nat) (l : Lg) (d : Dk) (lsn : Int) (k M : Nat) (wr : World) : Prop :=
 ∃ (segs : List Sg) (d1 : Dk),Both T wr g gd { l with segs := segs } d1 /\ trimS lsn segs d1 = trimS lsn l.segs d /\ (∀ s ∈ segs,SgOk s) /\ Cap (k + (l.segs.length - segs.length)) M d1 /\ segs.length <= l.segs.length /\ Turn T w wr
theorem trim_on (T : Nat -> Prop) (g gd : Nat) (l : Lg) (d : Dk) (k M : Nat) (lsn : Int) (w : World) (h : Both T w g gd l d) (hT : New T w) (ho : ∀ s ∈ l.segs,SgOk s) (hN : l.segs.length <= 16384) (hc : Cap k M d) (hk : k <= 1000000) (hoff : d.off = false) :
 Calls Tryz.prog 45 #[.pointer (some ⟨g,0,none⟩),.int .i64 lsn] w (Wrote T w g gd (trim l d lsn)) := by
 have HB := hid h
 have HT := hid hT
 have HO := hid ho
 have HC := hid hc
 obtain ⟨F,G,hdk,⟨A,n,c,qs,lp,hl⟩,_,_,_⟩ := h
 have HDW := hid (Disk.down_any F gd d w hdk)
 rw [hoff] at HDW
 have y1 := hl.cells.2.1
 have HE := hid (show trim l d lsn = ((trimS lsn l.segs d).1,{ l with segs := (trimS lsn l.segs d).2.1 },(trimS lsn l.segs d).2.2) by unfold trim; rw [hoff]; rfl)
 clear hT ho hc hdk hl hoff
 go_enter Tryz.func45,Tryz.ntmps45
 go_wp2_with fail
 refine HDW.out.mono ?_
 rintro e w1 ⟨rfl,rfl⟩
 clear y1
 go_wp2
 go_loopw [5] (fun _ wr => TrimRel T w g gd l d lsn k M wr) (fun _ wr => sliceLen (wr.cell? ⟨g,0,none⟩))
 case atStart => exact ⟨l.segs,d,HB.out,rfl,HO.out,HC.out.mono (by omega) (Nat.le_refl _),Nat.le_refl _,Turn.refl _ _⟩
 case round =>
  obtain ⟨segs,d1,hbo,htr,hok,hcap,hle,htu⟩ := hrel
  have HBO := hid hbo
  have HTR := hid htr
  have HOK := hid hok
  have HCA := hid hcap
  have HTU := hid htu
  have HNW := hid (HT.out.le htu.size)
  obtain ⟨F1,G1,hdk,⟨A,n,c,qs,lp,hl⟩,hFG,hF,hG⟩ := hbo
  have y0 := hl.cells.1
  have y1 := hl.cells.2.1
  have hlen : segs.length = n := hl.len
  clear htr hok hcap htu
  match segs,hlen with
  | [],hlen =>
    obtain rfl : 0 = n := hlen
    clear hdk hl hFG hF hG
    go_wp2
    go_ret
    rw [HE.out,<- HTR.out]
    exact ⟨rfl,HBO.out,HTU.out⟩
  | [s],hlen =>
    obtain rfl : 1 = n := hlen
    clear hdk hl hFG hF hG
    go_wp2
    go_ret
    rw [HE.out,<- HTR.out]
    exact ⟨rfl,HBO.out,HTU.out⟩
  | s :: t :: r,hlen =>
    obtain ⟨b,q,rfl,hq0,hGb,hb,hpn,⟨hnc,hcm⟩,_,k0,k1,k2,k3⟩ := hl.at_ (k := 0) (s := s) rfl
    rw [Nat.zero_mul] at k0 k1 k2 k3
    rw [Nat.zero_add] at k1 k2 k3
    have hs := HOK.out s List.mem_cons_self
    have hbd := hs.bd
    obtain ⟨hf0,hf1,hx1,hla,_⟩ := hs
    have hn2 : decide ((1 : Int) < (n : Int)) = true := by simp at hlen ⊢; omega
    have hn3 : 2 <= n := by simp at hlen; omega
    obtain ⟨x0,rest,hqs⟩ : ∃ x0 rest,qs = x0 :: rest := by
     cases qs with
     | nil => simp at hq0
     | cons x0 rest => exact ⟨x0,rest,rfl⟩
    subst hqs
    have hmap : x0.1 = s /\ rest.map (·.1) = t :: r := by
     have := hl.1
     simpa using this
    have HMAP := hid hmap
    clear hmap hq0 hla
    have HLEN : Hid ((s :: t :: r).length = n) := hlen
    clear hlen
    by_cases hle2 : last s <= lsn
    ·have HTS := hid (show trimS lsn (s :: t :: r) d1 = if (DiskMath.remove d1 s.file).1 = 0 then trimS lsn (t :: r) (DiskMath.remove d1 s.file).2 else ((DiskMath.remove d1 s.file).1,s :: t :: r,(DiskMath.remove d1 s.file).2) by rw [trimS,if_pos hle2])
     have hla : s.first + s.rows.length - 1 <= lsn := hle2
     clear hle2
     have HCC := hid (show Cap (k + 16384) M d1 from HCA.out.mono (by omega) (Nat.le_refl _))
     obtain ⟨sfile,sfirst,srows,ssize⟩ := s
     dsimp only at *
     have HLA := hid (fun w => last_any sfile sfirst q.A srows.length q.c ssize w (by omega) (by omega))
     generalize hsr : srows.length = sr at *
     have HSR := hid hsr
     have HY0 := hid y0
     clear hsr hdk hl hFG hF hG
     go_wp2_with fail
     refine (HLA.out _).mono ?_
     rintro e w2 ⟨rfl,hb2⟩
     have HB2 := hid (HBO.out.new hb2)
     have HT2 : Hid (Turn T w w2) := HTU.out.trans (F' := T) (Turn.new hb2) fun _ hi => .inl hi
     have HN2 := hid (HNW.out.le hb2.size)
     clear hb2 y0 y1 k0 k1 k2 k3 hb hGb HMAP
     obtain ⟨F2,hd2,hF2,HK2⟩ := HB2.out.disk HN2.out
     obtain ⟨_,G2,_,⟨A2,n2,c2,qs2,lp2,hl2⟩,_,_,_⟩ := HB2.out
     have y0 := hl2.cells.1
     have y1 := hl2.cells.2.1
     obtain ⟨b2,q2,rfl,_,_,hb2,hpn2,⟨hnc2,hcm2⟩,_,k0,_,_,_⟩ := hl2.at_ (k := 0) (s := ⟨sfile,sfirst,srows,ssize⟩) rfl
     rw [Nat.zero_mul] at k0
     have HRM := hid (Disk.remove_any F2 gd d1 sfile w2.drew (hd2.drewN 1) (cap_fits HCC.out (by omega)))
     clear hl2 hd2 hF2
     go_wp2
     go_still_tail 12,(by kernel_rfl)
     go_wp2_with fail
     refine HRM.out.mono ?_
     rintro e w3 ⟨rfl,hd3,ht3⟩
     have hr3 := HK2.out w3 _ hd3 ⟨ht3.os,ht3.tape,ht3.output,ht3.size,ht3.block⟩
     have HB3 := hid hr3.1
     have HT3 := hid (HT2.out.trans (F' := T) hr3.2 fun _ hi => .inl hi)
     have HN3 := hid (HN2.out.le hr3.2.size)
     have HC3 := hid (HCA.out.remove sfile)
     clear hd3 ht3 hr3 HRM HK2 y0 y1 k0
     generalize DiskMath.remove d1 sfile = rm at *
     obtain ⟨e3,d3⟩ := rm
     dsimp only at *
     by_cases he3 : e3 = 0
     ·subst he3
      rw [if_pos rfl] at HTS
      obtain ⟨F3,G3,hdk3,⟨A3,n3,c3,qs3,lp3,hl3⟩,hFG3,hF3,hG3⟩ := HB3.out
      have y0 := hl3.cells.1
      have hlen3 : r.length + 2 = n3 := by have := hl3.len; simpa using this
      obtain ⟨b3,q3,rfl,hq3,_,_,_,_⟩ := hl3.at_ (k := 0) (s := ⟨sfile,sfirst,srows,ssize⟩) rfl
      obtain ⟨x3,rest3,hqs⟩ : ∃ x0 rest,qs3 = x0 :: rest := by
       cases qs3 with
       | nil => simp at hq3
       | cons x0 rest => exact ⟨x0,rest,rfl⟩
      subst hqs
      have hmap : rest3.map (·.1) = t :: r := by
       have := hl3.1
       simp at this
       exact this.2
      have HD := hid (delete_any 0 b3 n3 c3 x3 rest3 w3 hl3.2.2.2.1.1 (by omega))
      have HL3 := hid hl3
      have HLN := hid hlen3
      clear hl3 hq3 hlen3
      go_wp2_with fail
      refine HD.out.mono ?_
      rintro e w4 ⟨rfl,hown4,hg4⟩
      have hbk := HL3.out.blk hg4
      have z0 : w4.cell? ⟨g,0,none⟩ = some _ := hbk.cell 0
      have zf : w4.frozen? ⟨g,0,none⟩ = false := hbk.frozen 0
      have hpop := HL3.out.pop hown4 hg4
      rw [hmap] at hpop
      have hbo4 := Both.log hdk3 hF3 hFG3 hG3 HN3.out hpop.2 ⟨_,_,_,_,_,hpop.1⟩ (fun i hi => .inl hi)
      have HB4 := hid hbo4.1
      have HT4 := hid (HT3.out.trans (F' := T) hbo4.2 fun _ hi => .inl hi)
      have HY4 := hid hpop.1.cells.1
      clear hown4 hg4 hbk hpop hbo4 hdk3 hF3 hFG3 hG3 HD hmap
      go_wp2
      go_roundw
      case rel =>
       refine ⟨t :: r,d3,HB4.out,?_,fun u hu => HOK.out u (List.mem_cons_of_mem _ hu),?_,?_,HT4.out⟩
       ·rw [<- HTR.out,HTS.out]
       ·refine HC3.out.mono ?_ (Nat.le_refl _)
        simp at hle ⊢
        omega
       ·simp at hle ⊢
        omega
      case measure =>
       rw [HY4.out,HY0.out]
       show n3 - 1 < n
       have h1 := HLN.out
       have h2 : r.length + 2 = n := by have := HLEN.out; simpa using this
       omega
     ·rw [if_neg he3] at HTS
      have hne : (e3 != 0) = true := by simpa using he3
      clear he3
      go_wp2
      go_ret
      rw [HE.out,<- HTR.out,HTS.out]
      exact ⟨rfl,HB3.out,HT3.out⟩
    ·have HTS := hid (show trimS lsn (s :: t :: r) d1 = (0,s :: t :: r,d1) by rw [trimS,if_neg hle2])
     have hla : ¬ s.first + s.rows.length - 1 <= lsn := hle2
     clear hle2 hdk hl hFG hF hG
     obtain ⟨sfile,sfirst,srows,ssize⟩ := s
     dsimp only at *
     have HLA := hid (fun w => last_any sfile sfirst q.A srows.length q.c ssize w (by omega) (by omega))
     generalize hsr : srows.length = sr at *
     have HSR := hid hsr
     clear hsr
     go_wp2_with fail
     refine (HLA.out _).mono ?_
     rintro e w2 ⟨rfl,hb2⟩
     have HB2 := hid hb2
     clear hb2
     go_wp2
     go_ret
     rw [HE.out,<- HTR.out,HTS.out]
     exact ⟨rfl,HBO.out.new HB2.out,HTU.out.trans (F' := T) (Turn.new HB2.out) fun _ hi => .inl hi⟩
end Wal
namespace Src
open Go.RowKit Base
open Foot (Turn Out)
open DiskMath (Fl Dk)
open WalMath (Lg Sg Cap)
open SrcMath (Sc other lay)
open ImgMath (Im imgB)
open IdxMath (Rw)
open Wal (New Win)
open Disk (DiskAt I64)
open Img (EncI Tabs)
open Idx (NewRows rv)
open Tbl (tab)
def SavK (w : World) (T : List (List Rw)) (tb n k : Nat) (wr : World) : Prop := ∃ arr : Array Value,Blk wr tb 53 arr /\ arr.size = n /\ (∀ (i : Nat) l,i < k -> T[i]? = some l -> ∃ A' n' c',arr[i]? = some (.slice A' n' c') /\ wr.ownsRow (tb + 1) 52 2 (.slice A' n' c') n' (rv l)) /\ Below w.heap.size w wr
theorem erw : Elem Tryz.prog 48 53 1 24 (.slice none 0 0) := .of (by rfl) (by rfl) rfl (by omega)
theorem SavK.start {w w1 : World} {T : List (List Rw)} {n : Nat} (ho : w1.ownsRow w.heap.size 53 1 (.slice (some ⟨w.heap.size,0,none⟩) n n) n (List.replicate n (.slice none 0 0))) (hb : Below w.heap.size w w1) (hn : 1 <= n) : SavK w T w.heap.size n 0 w1 := by
 rcases ho.2 with ⟨hv,h0⟩ | ⟨b,cap,cur,hv,hbase,hg,h1,h2,h3,h4⟩
 ·omega
 ·simp only [Value.slice.injEq,Option.some.injEq,Addr.mk.injEq] at hv
  obtain ⟨⟨rfl,_⟩,_,rfl⟩ := hv
  exact ⟨cur,hg,by omega,fun i l hi _ => absurd hi (by omega),hb⟩
theorem SavK.tabs {w wr : World} {T : List (List Rw)} {tb n : Nat} (h : SavK w T tb n n wr) (hn : T.length = n) (h8 : n <= 8) : Tabs wr wr.heap.size (some ⟨tb,0,none⟩) n n T := by
 obtain ⟨arr,hb,hs,hr,_⟩ := h
 refine ⟨arr.toList,⟨by rw [Array.length_toList,hs,Nat.mul_one],Nat.le_refl _,by omega,fun _ => ⟨tb,0,rfl,hb.lt,fun i u hu => ?_⟩⟩,by rw [Array.length_toList,hs,hn],fun i v l hv hl => ?_⟩
 ·rw [hb.cell,Nat.zero_add,<- Array.getElem?_toList]
  exact hu
 ·have hi : i < n := by
   have := (List.getElem?_eq_some_iff.1 hl).1
   omega
  obtain ⟨A',n',c',e,ho⟩ := hr i l hi hl
  rw [Array.getElem?_toList,e] at hv
  injection hv with hv
  exact ⟨A',n',c',hv.symm,Idx.Rs.of_own ho⟩
theorem SavK.step {w wr w2 : World} {T : List (List Rw)} {tb n k : Nat} {l : List Rw} {A : Option Addr} {m c : Nat} (h : SavK w T tb n k wr) (hk : k < n) (hl : T[k]? = some l) (hw : w.heap.size <= tb) (ho : w2.ownsRow wr.heap.size 52 2 (.slice A m c) m (rv l)) (hb2 : Below wr.heap.size wr w2) :
 SavK w T tb n (k + 1) (w2.setCell ⟨tb,k,none⟩ (.slice A m c)) := by
 obtain ⟨arr,hb,hs,hr,hbel⟩ := h
 have hbl := hb.lt
 have hg : w2.grownBy (w2.setCell ⟨tb,k,none⟩ (.slice A m c)) (some tb) := only_setCell (p := ⟨tb,k,none⟩) (World.grownBy.refl w2 (some tb)) (.inl rfl) _
 have hb3 := hb.below hb2 hbl
 refine ⟨arr.setIfInBounds k (.slice A m c),hb3.set_ k _,by rw [Array.size_setIfInBounds,hs],fun i l2 hi hl2 => ?_,(hbel.trans (hb2.mono hbel.size)).setCell (by exact hw) _⟩
 by_cases hik : i = k
 ·subst hik
  rw [hl] at hl2
  injection hl2 with hl2
  subst hl2
  exact ⟨A,m,c,by rw [Array.getElem?_setIfInBounds_self_of_lt (by omega)],Img.own_off (own_mono ho (by omega)) (by omega) hg⟩
 ·obtain ⟨A',n',c',e,ho'⟩ := hr i l2 (by omega) hl2
  exact ⟨A',n',c',by rw [Array.getElem?_setIfInBounds_ne (by omega)]; exact e,Img.own_off (own_keep ho' hb2) (by omega) hg⟩
theorem lay_on {d : Dk} {f : Int} {b : List UInt8} (h : (lay d f b).1 = 0) : (lay d f b).2.off = false := by
 unfold lay at h ⊢
 split
 ·next h1 =>
  rw [if_pos h1] at h
  unfold DiskMath.sync at h ⊢
  split
  ·next h2 =>
   rw [if_pos h2] at h
   unfold DiskMath.oper at h ⊢
   split
   ·next h3 => rw [if_pos h3] at h; cases h
   ·next h3 => exact decide_eq_false h3
  ·next h2 =>
   rw [if_neg h2] at h
   exact absurd h h2
 ·next h1 =>
  rw [if_neg h1] at h
  exact absurd h h1
theorem encI_ok {w w' : World} {x : Im} {e : Ending} (h : EncI w x e w') (hm : x.may = true) : ∃ A n c,e = .returned (.tuple #[.slice A n c,.int .i64 0]) /\ w'.ownsRow w.heap.size 5 1 (.slice A n c) n (bv (imgB x)) /\ Below w.heap.size w w' := by
 obtain ⟨A,n,c,he,ho,hb⟩ := h
 have : ImgMath.encI x = .ok (imgB x) := by unfold ImgMath.encI; rw [if_pos hm]
 rw [this] at he ho
 exact ⟨A,n,c,he,ho,hb⟩
theorem save_any (T : Nat -> Prop) (s p g gd : Nat) (S : Sc) (d : Dk) (k M : Nat) (w : World) (h : SrcAt T w s p g gd S d) (hT : New T w) (ho : LOk S.l) (hc : Cap k M d) (hk : k <= 1000000) (hM : M <= 35184372088832) (hmay : (Im.mk (WalMath.hd S.l.segs) S.T).may = true) :
 Calls Tryz.prog 44 #[.pointer (some ⟨s,0,none⟩)] w (Wrote T w s p g gd S d (WalMath.hd S.l.segs) (imgB ⟨WalMath.hd S.l.segs,S.T⟩)) := by
 have HS := hid h
 have HT := hid hT
 have HC := hid hc
 have HMAY := hid hmay
 have hit := SrcMath.imTabs_of hmay
 have HIT := hid hit
 obtain ⟨hn1,hn8⟩ : 1 <= S.T.length /\ S.T.length <= 8 := by
  have h2 := hmay
  unfold Im.may at h2
  simp only [Bool.and_eq_true,decide_eq_true_eq] at h2
  omega
 have hsl := h.lt
 have HCL := hid (fun wx (hx : Below w.heap.size w wx) => (h.new hx).cells)
 have HHD := hid (fun wx (hx : Below w.heap.size w wx) => head_any T s p g gd S d wx (h.new hx) ho)
 obtain ⟨K,hset,_⟩ := h.set
 have HTA := hid (Tbl.tables_any K p S.T w hset)
 have HRO := hid (fun wx (hx : Below w.heap.size w wx) (t : Int) => Tbl.rows_any K p S.T t wx (hset.new hx) (Nat.le_trans (SrcMath.most_tabs hit.few t) (by omega)))
 have c0 := h.cells.1
 have HLEN : Hid (S.T.length = S.T.length) := rfl
 generalize hN : S.T.length = n at *
 have HN := hid hN
 generalize hhh : WalMath.hd S.l.segs = hd at *
 clear h hT ho hc hmay hit hset hN HLEN
 go_enter Tryz.func44,Tryz.ntmps44
 go_wp2_with fail
 refine HTA.out.mono ?_
 rintro e w1 ⟨rfl,rfl⟩
 clear HTA
 go_wp2_with (first
  | (refine wpList_make_elem _ rfl (.tmp 11) (.tmp 11) rfl erw w.heap.size .i64 .i64 _ _ n rfl rfl rfl rfl (by omega) (by omega) (Nat.le_refl _) ?_
     intro w1 ho1 hb1
     replace ho1 : w1.ownsRow w.heap.size 53 1 (.slice (some ⟨w.heap.size,0,none⟩) n n) n (madeCells #[.slice none 0 0] (n * 1)).toList := ho1
     rw [Nat.mul_one,toList_madeCells_one] at ho1
     have HP : Hid (SavK w S.T w.heap.size n 0 w1) := SavK.start ho1 hb1 hn1
     clear ho1 hb1)
  | fail)
 go_loopw [15] (fun vi wr => ∃ k : Nat,vi = .int .i64 k /\ k <= n /\ SavK w S.T w.heap.size n k wr) (fun vi _ => n - (RowKit.intOf vi).toNat)
 case atStart => exact ⟨0,rfl,Nat.zero_le _,HP.out⟩
 case round =>
  clear HP c0
  obtain ⟨i,rfl,hi,hsv⟩ := hrel
  have HV := hid hsv
  obtain ⟨arr,hblk,hsz,_,hbel⟩ := hsv
  have HB := hid hbel
  by_cases hin : i < n
  ·have c0 := (HCL.out _ hbel).1
   obtain ⟨li,hget⟩ : ∃ li,S.T[i]? = some li := ⟨_,List.getElem?_eq_getElem (by rw [HN.out]; exact hin)⟩
   have htab : tab S.T (i : Int) = li := Tbl.tab_get (by rw [HN.out]; exact hin) hget
   have HRI := hid (HRO.out wr hbel (i : Int))
   rw [htab] at HRI
   have HG := hid hget
   have hlt : w.heap.size < wr.heap.size := hblk.lt
   have hfz := hblk.frozen i
   have HA := hid hblk
   clear hblk hbel hget htab
   go_wp2_with fail
   refine HRI.out.mono ?_
   rintro e w2 ⟨A2,c2,rfl,ho2,hb2⟩
   have HV2 := hid (HV.out.step hin HG.out (Nat.le_refl _) ho2 hb2)
   have hblk2 := HA.out.below hb2 HA.out.lt
   have hfz2 := hblk2.frozen i
   obtain ⟨uu,huu⟩ : ∃ uu,arr[i]? = some uu := ⟨_,Array.getElem?_eq_getElem (by omega)⟩
   have hcz2 : w2.cell? ⟨w.heap.size,i,none⟩ = some uu := (hblk2.cell i).trans huu
   clear ho2 hb2 hfz hblk2 c0 HRI huu hsz
   go_wp2
   go_roundw
   case rel => exact ⟨i + 1,by go_num,by omega,HV2.out⟩
   case measure => simp [RowKit.intOf]; omega
  ·obtain rfl : i = n := by omega
   clear hblk hsz hbel
   have HTB := hid (HV.out.tabs HN.out hn8)
   go_wp2_with fail
   refine (HHD.out _ HB.out).mono ?_
   rintro e w2 ⟨rfl,hb2⟩
   have HB2 := hid (held_two HB.out hb2)
   have HTB2 := hid (HTB.out.below hb2)
   have hz2 := hb2.size
   clear hb2
   go_wp2_with fail
   refine (Img.encode_any _ hd _ _ _ S.T w2 HTB2.out hz2).mono ?_
   intro e w3 hen
   obtain ⟨Ab,nb,cb,rfl,hob,hb3⟩ := encI_ok hen HMAY.out
   have HB3 := hid (held_two HB2.out hb3)
   have hnb : nb <= 1048584 := by
    have h1 := (Bytes.of_own hob).len
    have h2 := SrcMath.imgB_len HMAY.out
    omega
   have HYB := hid (own_mono hob HB2.out.size)
   have hsw := HS.out.win HB3.out
   have HSW := hid hsw
   have HNW := hid (new_win HT.out HB3.out.size)
   have HWR : Hid (∀ wx,Below w3.heap.size w3 wx -> Calls Tryz.prog 107 #[.pointer (some ⟨s,3,none⟩),.int .i64 hd,.slice Ab nb cb] wx (Wrote (Win T w.heap.size w3.heap.size) wx s p g gd S d hd (imgB ⟨hd,S.T⟩))) := fun wx hx =>
    write_any (Win T w.heap.size w3.heap.size) s p g gd S d hd k M Ab nb cb _ wx (HSW.out.new hx) (HNW.out.le hx.size) HC.out hk hM (Bytes.of_own (own_keep HYB.out hx)) (fun hn0 b off e hw => by
     have h3 := HYB.out.lt b (by rw [e]; rfl)
     have h5 : b < w.heap.size \/ w3.heap.size <= b := hw.2
     have h7 := h3.1
     have h8 := h3.2
     omega) (by omega)
   generalize imgB ⟨hd,S.T⟩ = ib at *
   clear hen hob hb3 hsw HTB HTB2
   go_upto_region 10 with fail
   go_region_with (first
    | (go_at_call 17; refine (HHD.out _ (by first | exact HB3.out | exact below_drewN HB3.out _)).mono ?_; rintro e w4 ⟨rfl,hb4⟩; have HB4 : Hid (Below w3.heap.size w3 w4) := (by first | exact hb4 | exact held_two ((Below.refl w3.heap.size w3).drew) hb4 | exact held_two (below_drewN (Below.refl w3.heap.size w3) _) hb4); clear hb4)
    | (go_at_call 107; refine (HWR.out _ HB4.out).mono ?_; rintro e w5 ⟨rfl,h5,h6⟩; have H5 := hid (And.intro h5 h6); clear h5 h6)
    | fail)
   all_goals (
    go_wp2
    go_ret
    exact ⟨rfl,H5.out.1.mono fun i hi => hi.1,(Turn.new (held_two HB3.out HB4.out)).trans H5.out.2 fun i hi => .inl hi.1⟩)
def Trimmed (T : Nat -> Prop) (w : World) (s p g gd : Nat) (r : Int × Sc × Dk) (e : Ending) (w' : World) : Prop := e = .returned (.int .i64 r.1) /\ SrcAt T w' s p g gd r.2.1 r.2.2 /\ Turn T w w'
theorem logtrim (T : Nat -> Prop) (s p g gd : Nat) (S : Sc) (d : Dk) (lsn : Int) (k M : Nat) (w : World) (h : SrcAt T w s p g gd S d) (hT : New T w) (ho : LOk S.l) (hc : Cap k M d) (hk : k <= 1000000) (hoff : d.off = false) :
 Calls Tryz.prog 45 #[.pointer (some ⟨g,0,none⟩),.int .i64 lsn] w (Trimmed T w s p g gd (SrcMath.trims S d lsn)) := by
 obtain ⟨L,hbo,hnl,_,_,hback⟩ := h.logs hT
 refine (Wal.trim_on L g gd S.l d k M lsn w hbo hnl ho.ok.2.2.2.2 ho.len hc hk hoff).mono ?_
 rintro e w' ⟨h1,h2,h3⟩
 exact ⟨h1,hback.out _ _ _ h2 h3⟩
theorem trim_any (T : Nat -> Prop) (s p g gd : Nat) (S : Sc) (d : Dk) (lsn : Int) (k M : Nat) (w : World) (h : SrcAt T w s p g gd S d) (hT : New T w) (ho : LOk S.l) (hc : Cap k M d) (hk : k <= 100000) (hM : M <= 17592186044416) (hmay : (Im.mk (WalMath.hd S.l.segs) S.T).may = true) :
 Calls Tryz.prog 15 #[.pointer (some ⟨s,0,none⟩),.int .i64 lsn] w (Trimmed T w s p g gd (SrcMath.trim S d lsn)) := by
 have HS := hid h
 have HT := hid hT
 have HO := hid ho
 have hsl := h.lt
 have HCL := hid (fun wx (hx : Below w.heap.size w wx) => (h.new hx).cells)
 have HHD := hid (fun wx (hx : Below w.heap.size w wx) => head_any T s p g gd S d wx (h.new hx) ho)
 have HIM := hid (fun wx (hx : Below w.heap.size w wx) => image_any T s p g gd S d wx (h.new hx))
 have HSV := hid (fun wx (hx : Below w.heap.size w wx) => save_any T s p g gd S d k M wx (h.new hx) (hT.le hx.size) ho hc (by omega) (by omega) hmay)
 have HLT := hid (fun (hoff : d.off = false) wx (hx : Below w.heap.size w wx) => logtrim T s p g gd S d lsn k M wx (h.new hx) (hT.le hx.size) ho hc (by omega) hoff)
 have hcl := SrcMath.cap_lay hc (other S.file) (imgB ⟨WalMath.hd S.l.segs,S.T⟩)
 have HCL2 := hid hcl
 obtain ⟨F,hd0,_⟩ := h.dsk
 have HDN := hid (fun wx (hx : Below w.heap.size w wx) => Disk.down_any F gd d wx (hd0.new hx))
 have hbb := Wal.hd_bd ho.ok.2.2.2.2
 have HE : Hid (SrcMath.trim S d lsn = if lsn < 0 \/ WalMath.hd S.l.segs < lsn then (1,S,d) else if d.off then (8,S,d) else if lsn <= S.lsn then SrcMath.trims S d lsn
  else if (lay d (other S.file) (imgB ⟨WalMath.hd S.l.segs,S.T⟩)).1 = 0 then SrcMath.trims { S with file := other S.file,lsn := WalMath.hd S.l.segs } (lay d (other S.file) (imgB ⟨WalMath.hd S.l.segs,S.T⟩)).2 lsn
  else ((lay d (other S.file) (imgB ⟨WalMath.hd S.l.segs,S.T⟩)).1,S,(lay d (other S.file) (imgB ⟨WalMath.hd S.l.segs,S.T⟩)).2)) := rfl
 rw [HE.out]
 clear HE h hT ho hc hmay hd0 hcl
 generalize hhh : WalMath.hd S.l.segs = hd at *
 have HHH := hid hhh
 clear hhh
 by_cases hneg : lsn < 0
 ·rw [if_pos (.inl hneg)]
  go_enter Tryz.func15,Tryz.ntmps15
  go_wp2
  go_ret
  exact ⟨rfl,HS.out,Turn.refl _ _⟩
 by_cases hgt : hd < lsn
 ·rw [if_pos (.inr hgt)]
  go_enter Tryz.func15,Tryz.ntmps15
  go_wp2_with fail
  refine (HHD.out _ (Below.refl _ _)).mono ?_
  rintro e w1 ⟨rfl,hb⟩
  have HB := hid hb
  clear hb
  go_wp2
  go_ret
  exact ⟨rfl,HS.out.new HB.out,Turn.new HB.out⟩
 rw [if_neg (by omega)]
 cases hoff : d.off with
 | true =>
   rw [if_pos rfl]
   rw [hoff] at HDN
   clear hoff HLT
   go_enter Tryz.func15,Tryz.ntmps15
   go_wp2_with fail
   refine (HHD.out _ (Below.refl _ _)).mono ?_
   rintro e w1 ⟨rfl,hb⟩
   have HB := hid hb
   have c1 := (HCL.out _ hb).2.1
   clear hb
   go_wp2_with fail
   refine (HDN.out _ HB.out).mono ?_
   rintro e w2 ⟨rfl,rfl⟩
   go_wp2
   go_ret
   exact ⟨rfl,HS.out.new HB.out,Turn.new HB.out⟩
 | false =>
   rw [if_neg (by simp)]
   rw [hoff] at HDN
   have HLT2 := hid (HLT.out hoff)
   clear hoff HLT
   by_cases hle : lsn <= S.lsn
   ·rw [if_pos hle]
    have hd1 : decide (S.lsn < lsn) = false := decide_eq_false (by omega)
    generalize SrcMath.trims S d lsn = r at *
    generalize S.lsn = sl at *
    go_enter Tryz.func15,Tryz.ntmps15
    go_wp2_with fail
    refine (HHD.out _ (Below.refl _ _)).mono ?_
    rintro e w1 ⟨rfl,hb⟩
    have HB := hid hb
    have c1 := (HCL.out _ hb).2.1
    have c2 := (HCL.out _ hb).2.2.1
    clear hb
    go_wp2_with fail
    refine (HDN.out _ HB.out).mono ?_
    rintro e w2 ⟨rfl,rfl⟩
    go_wp2_with fail
    refine (HIM.out _ HB.out).mono ?_
    rintro e w2 ⟨rfl,rfl⟩
    go_wp2_with fail
    refine (HLT2.out _ HB.out).mono ?_
    rintro e w3 ⟨rfl,h1,h2⟩
    have H1 := hid (And.intro h1 h2)
    clear h1 h2
    go_wp2
    go_ret
    exact ⟨rfl,H1.out.1,(Turn.new HB.out).trans H1.out.2 fun i hi => .inl hi⟩
   ·rw [if_neg hle]
    have hd1 : decide (S.lsn < lsn) = true := decide_eq_true (by omega)
    by_cases hl0 : (lay d (other S.file) (imgB ⟨hd,S.T⟩)).1 = 0
    ·rw [if_pos hl0]
     have HON := hid (lay_on hl0)
     have HL0 := hid hl0
     have HWS : Hid (wrote S d hd (imgB ⟨hd,S.T⟩) = { S with file := other S.file,lsn := hd }) := by show _ = _; unfold wrote; rw [if_pos hl0]
     have HLG := hid (fun wx (h1 : SrcAt T wx s p g gd { S with file := other S.file,lsn := hd } (lay d (other S.file) (imgB ⟨hd,S.T⟩)).2) (h2 : w.heap.size <= wx.heap.size) => logtrim T s p g gd _ _ lsn (k + 3) _ wx h1 (HT.out.le h2) HO.out HCL2.out (by omega) HON.out)
     generalize SrcMath.trims { S with file := other S.file,lsn := hd } (lay d (other S.file) (imgB ⟨hd,S.T⟩)).2 lsn = r at *
     have HZ := hid hl0
     clear hl0 HLT2
     go_enter Tryz.func15,Tryz.ntmps15
     go_wp2_with fail
     refine (HHD.out _ (Below.refl _ _)).mono ?_
     rintro e w1 ⟨rfl,hb⟩
     have HB := hid hb
     have c1 := (HCL.out _ hb).2.1
     clear hb
     go_wp2_with fail
     refine (HDN.out _ HB.out).mono ?_
     rintro e w2 ⟨rfl,rfl⟩
     go_wp2_with fail
     refine (HIM.out _ HB.out).mono ?_
     rintro e w2 ⟨rfl,rfl⟩
     clear c1
     go_wp2_with fail
     refine (HSV.out _ HB.out).mono ?_
     rintro e w3 ⟨rfl,h1,h2⟩
     rw [HWS.out] at h1
     rw [HZ.out]
     have H1 := hid (And.intro h1 h2)
     have c2 := h1.cells.2.2.1
     have HLG2 := hid (HLG.out w3 h1 (Nat.le_trans HB.out.size h2.size))
     clear h1 h2
     go_wp2_with fail
     refine HLG2.out.mono ?_
     rintro e w4 ⟨rfl,h1,h2⟩
     have H2 := hid (And.intro h1 h2)
     clear h1 h2
     go_wp2
     go_ret
     exact ⟨rfl,H2.out.1,((Turn.new HB.out).trans H1.out.2 fun i hi => .inl hi).trans H2.out.2 fun i hi => .inl hi⟩
    ·rw [if_neg hl0]
     have HWS : Hid (wrote S d hd (imgB ⟨hd,S.T⟩) = S) := by show _ = _; unfold wrote; rw [if_neg hl0]
     have hne : ((lay d (other S.file) (imgB ⟨hd,S.T⟩)).1 != 0) = true := by simpa using hl0
     unfold Wrote at HSV
     generalize lay d (other S.file) (imgB ⟨hd,S.T⟩) = r at *
     clear hl0 HLT2
     go_enter Tryz.func15,Tryz.ntmps15
     go_wp2_with fail
     refine (HHD.out _ (Below.refl _ _)).mono ?_
     rintro e w1 ⟨rfl,hb⟩
     have HB := hid hb
     have c1 := (HCL.out _ hb).2.1
     clear hb
     go_wp2_with fail
     refine (HDN.out _ HB.out).mono ?_
     rintro e w2 ⟨rfl,rfl⟩
     go_wp2_with fail
     refine (HIM.out _ HB.out).mono ?_
     rintro e w2 ⟨rfl,rfl⟩
     clear c1
     go_wp2_with fail
     refine (HSV.out _ HB.out).mono ?_
     rintro e w3 ⟨rfl,h1,h2⟩
     rw [HWS.out] at h1
     have H1 := hid (And.intro h1 h2)
     clear h1 h2
     go_wp2
     go_ret
     exact ⟨rfl,H1.out.1,(Turn.new HB.out).trans H1.out.2 fun i hi => .inl hi⟩
end Src
end Go.Proofs.YtefnmnpfecfdaaaGreat
