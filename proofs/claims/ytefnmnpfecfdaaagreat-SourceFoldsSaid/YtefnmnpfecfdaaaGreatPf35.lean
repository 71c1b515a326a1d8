/-
  Texts of one proof: SrcAsk, SrcMay, IdxRef, IdxHelp, TblSeen, TblApart, TblMost, TblGrow.
-/
import Derived.Test.YtefnmnpfecfdaaaGreatPf30
import Derived.Test.YtefnmnpfecfdaaaGreatPf34
set_option linter.all false
set_option maxRecDepth 100000
set_option maxHeartbeats 3200000
open Go.Lib (hid)
namespace Go.Proofs.YtefnmnpfecfdaaaGreat
namespace Src
open Go.RowKit Base
open Foot (Turn Out)
open DiskMath (Fl Dk)
open WalMath (Lg Sg Cap)
open SrcMath (Sc)
open TxnMath (Tx Ch)
open IdxMath (Rw)
open Wal (Both New LogAt DiskT SgOk Ok Small ReadS)
open Disk (DiskAt)
open Tbl (SetAt)
open Txn (Chs Sigs txv)
open Idx (NewRows)
section
variable (T : Nat -> Prop) (s p g gd : Nat) (S : Sc) (d : Dk) (w : World)
theorem head_any (h : SrcAt T w s p g gd S d) (ho : LOk S.l) :
 Calls Tryz.prog 17 #[.pointer (some ⟨s,0,none⟩)] w fun e w' => e = .returned (.int .i64 (WalMath.hd S.l.segs)) /\ Below w.heap.size w w' := by
 obtain ⟨c0,c1,c2,c3,c4,c5⟩ := h.cells
 obtain ⟨G,hl,_⟩ := h.log
 have HL := hid hl
 have HO := hid ho.ok.2.2.2.2
 clear hl h ho
 go_enter Tryz.func17,Tryz.ntmps17
 go_wp2_with fail
 refine (Wal.head_any G g gd S.l w HL.out HO.out).mono ?_
 rintro e w1 ⟨rfl,hb⟩
 have HB := hid hb
 clear hb
 go_wp2
 go_ret
 exact ⟨rfl,HB.out⟩
theorem low_any (h : SrcAt T w s p g gd S d) :
 Calls Tryz.prog 18 #[.pointer (some ⟨s,0,none⟩)] w fun e w' => e = .returned (.int .i64 (WalMath.low S.l.segs)) /\ w = w' := by
 obtain ⟨c0,c1,c2,c3,c4,c5⟩ := h.cells
 obtain ⟨G,hl,_⟩ := h.log
 have HL := hid hl
 clear hl h
 go_enter Tryz.func18,Tryz.ntmps18
 go_wp2_with fail
 refine (Wal.low_any G g gd S.l w HL.out).mono ?_
 rintro e w1 ⟨rfl,rfl⟩
 go_wp2
 go_ret
 exact ⟨rfl,rfl⟩
theorem image_any (h : SrcAt T w s p g gd S d) :
 Calls Tryz.prog 39 #[.pointer (some ⟨s,0,none⟩)] w fun e w' => e = .returned (.int .i64 S.lsn) /\ w = w' := by
 obtain ⟨c0,c1,c2,c3,c4,c5⟩ := h.cells
 clear h
 go_enter Tryz.func39,Tryz.ntmps39
 go_wp2
 go_ret
 exact ⟨rfl,rfl⟩
end
def ReadT (w : World) (r : Option (List UInt8)) (e : Ending) (w' : World) : Prop := match r with
 | none => e = .returned (.tuple #[txv 0 0 0 none 0 0 none 0 0,.int .i64 5]) /\ Below w.heap.size w w'
 | some b => Txn.DecO w b e w'
theorem read_any (T : Nat -> Prop) (s p g gd : Nat) (S : Sc) (d : Dk) (lsn : Int) (w : World) (h : SrcAt T w s p g gd S d) (ho : LOk S.l) :
 Calls Tryz.prog 19 #[.pointer (some ⟨s,0,none⟩),.int .i64 lsn] w (ReadT w (Wal.entry S.l.segs lsn)) := by
 have hsl := h.lt
 have HX0 : Hid (Blk (w.alloc (.cells Txn.txz 39)) w.heap.size 39 Txn.txz) := Blk.new _ _ _
 have HB0 : Hid (Below w.heap.size w (w.alloc (.cells Txn.txz 39))) := (Below.refl _ _).alloc (Nat.le_refl _) _
 have hcl := (h.new HB0.out).cells
 have c2 := hcl.2.2.1
 obtain ⟨G,hl,_⟩ := (h.new HB0.out).log
 have HR := hid (Wal.read_any G g gd S.l lsn _ hl ho.ok.2.2.2.2 ho.len ho.runs)
 clear hl h ho hcl
 unfold Txn.txz at HX0 HB0 c2 HR
 go_enter Tryz.func19,Tryz.ntmps19
 go_wp2_with fail
 refine HR.out.mono ?_
 generalize Wal.entry S.l.segs lsn = r at *
 clear HR c2
 intro e w1 hr
 cases r with
 | none =>
   obtain ⟨rfl,hb⟩ := hr
   have HX1 := hid (HX0.out.below hb HX0.out.lt)
   have HB1 := hid (held_two HB0.out hb)
   have q0 : w1.cell? ⟨w.heap.size,0,none⟩ = some (.int .i64 0) := HX1.out.cell 0
   have q1 : w1.cell? ⟨w.heap.size,1,none⟩ = some (.int .i64 0) := HX1.out.cell 1
   have q2 : w1.cell? ⟨w.heap.size,2,none⟩ = some (.slice none 0 0) := HX1.out.cell 2
   have q3 : w1.cell? ⟨w.heap.size,3,none⟩ = some (.slice none 0 0) := HX1.out.cell 3
   have q4 : w1.cell? ⟨w.heap.size,4,none⟩ = some (.int .i64 0) := HX1.out.cell 4
   have r0 := HX1.out.frozen 0
   have r1 := HX1.out.frozen 1
   have r2 := HX1.out.frozen 2
   have r3 := HX1.out.frozen 3
   have r4 := HX1.out.frozen 4
   clear hb HX0 HB0
   go_wp2
   refine bodyPost_ret (v := .tuple #[txv 0 0 0 none 0 0 none 0 0,.int .i64 5]) (by simp [txv,results,Tryz.results19,go_sem,q0,q1,q2,q3,q4]) rfl ?_
   exact ⟨rfl,Txn.five_below HB1.out _ _ _ _ _⟩
 | some b =>
   obtain ⟨A,c,rfl,hown,hb⟩ := hr
   have HX1 := hid (HX0.out.below hb HX0.out.lt)
   have HB1 := hid (held_two HB0.out hb)
   have HY := hid (Bytes.of_own hown)
   have hz1 : w.heap.size < w1.heap.size := HX1.out.lt
   clear hb hown HX0 HB0
   go_wp2_with fail
   refine (Txn.decode_own w1.heap.size A b.length c b w1 HY.out (Nat.le_refl _)).mono ?_
   unfold Txn.DecO
   generalize hq1 : FieldMath.err (TxnMath.decT b) = er
   generalize hq2 : Txn.gotX (TxnMath.decT b) = x
   have HQ1 := hid hq1
   have HQ2 := hid hq2
   clear hq1 hq2
   rintro e w2 ⟨A1,n1,c1,A2,n2,c2,rfl,h1,h2,hb2⟩
   have HX2 := hid (HX1.out.below hb2 HX1.out.lt)
   have HB2 := hid (held_two HB1.out hb2)
   have H1 := hid h1
   have H2 := hid h2
   have q0 : w2.cell? ⟨w.heap.size,0,none⟩ = some (.int .i64 0) := HX2.out.cell 0
   have q1 : w2.cell? ⟨w.heap.size,1,none⟩ = some (.int .i64 0) := HX2.out.cell 1
   have q2 : w2.cell? ⟨w.heap.size,2,none⟩ = some (.slice none 0 0) := HX2.out.cell 2
   have q3 : w2.cell? ⟨w.heap.size,3,none⟩ = some (.slice none 0 0) := HX2.out.cell 3
   have q4 : w2.cell? ⟨w.heap.size,4,none⟩ = some (.int .i64 0) := HX2.out.cell 4
   have r0 := HX2.out.frozen 0
   have r1 := HX2.out.frozen 1
   have r2 := HX2.out.frozen 2
   have r3 := HX2.out.frozen 3
   have r4 := HX2.out.frozen 4
   clear hb2 h1 h2
   unfold txv
   go_wp2
   have hon := Txn.five_on w2 w.heap.size (.int .i64 x.lsn) (.int .i64 x.kind) (.slice A1 n1 c1) (.slice A2 n2 c2) (.int .i64 x.mark)
   refine bodyPost_ret (v := .tuple #[txv x.lsn x.kind x.mark A1 n1 c1 A2 n2 c2,.int .i64 er]) (by simp [txv,results,Tryz.results19,go_sem,q0,q1,q2,q3,q4]) rfl ?_
   show Txn.DecO w b _ _
   unfold Txn.DecO
   rw [HQ1.out,HQ2.out]
   exact ⟨A1,n1,c1,A2,n2,c2,rfl,own_mono (H1.out.kept hon (.inr fun e => by have := (H1.out.lt _ e).1; omega)) (Nat.le_of_lt hz1),own_mono (H2.out.kept hon (.inr fun e => by have := (H2.out.lt _ e).1; omega)) (Nat.le_of_lt hz1),Txn.five_below HB2.out _ _ _ _ _⟩
end Src
namespace Src
open Go.RowKit Base
open Foot (Turn Out)
open DiskMath (Fl Dk)
open WalMath (Lg Sg Cap)
open SrcMath (Sc mayS)
open TxnMath (Tx Ch)
open Tbl (SetAt)
open Txn (Chs Sigs txv all_take all_not take_all)
open Field (ret_bool)
def MayRel (w : World) (N : Int) (l : List Ch) (n : Nat) (i : Value) (wr : World) : Prop := ∃ k : Nat,k <= n /\ i = .int .i64 k /\ (∀ f ∈ l.take k,f.may N = true) /\ Below w.heap.size w wr
theorem may_any (T : Nat -> Prop) (s p g gd : Nat) (S : Sc) (d : Dk) (B : Nat) (lsn kind mark : Int) (A : Option Addr) (n c : Nat) (l : List Ch) (A' : Option Addr) (n' c' : Nat) (m : List ByteArray) (w : World) (h : SrcAt T w s p g gd S d) (h1 : Chs w B A n c l) (h2 : Sigs w B A' n' c' m) (hB : B <= w.heap.size) :
 Calls Tryz.prog 101 #[.pointer (some ⟨s,0,none⟩),txv lsn kind mark A n c A' n' c'] w fun e w' => e = .returned (.bool (mayS S.T.length ⟨lsn,kind,l,m,mark⟩)) /\ Below w.heap.size w w' := by
 obtain ⟨c0,c1,c2,c3,c4,c5⟩ := h.cells
 obtain ⟨K,hs,_⟩ := h.set
 have hsl := h.lt
 have hlen := h1.len
 have hnle : n <= 9223372036854775807 := Nat.le_trans h1.le.1 h1.le.2
 have HL := hid hlen
 have HS := hid hs
 have HC0 := hid (fun wx (hx : Below w.heap.size w wx) => (hx.cell (p := ⟨s,0,none⟩) hsl).trans c0)
 have HR := hid h1
 have HW : Hid (Below w.heap.size w (w.alloc (.cells #[.int .i64 lsn,.int .i64 kind,.slice A n c,.slice A' n' c',.int .i64 mark] 39))) := (Below.refl _ _).alloc (Nat.le_refl _) _
 have HX : Hid (Blk (w.alloc (.cells #[.int .i64 lsn,.int .i64 kind,.slice A n c,.slice A' n' c',.int .i64 mark] 39)) w.heap.size 39 #[.int .i64 lsn,.int .i64 kind,.slice A n c,.slice A' n' c',.int .i64 mark]) := Blk.new _ _ _
 have HM := hid (Txn.may_any B lsn kind mark A n c l A' n' c' m _ (h1.below (HW.out.mono hB)) (h2.below (HW.out.mono hB)) (Nat.le_trans hB HW.out.size))
 generalize S.T = T0 at *
 generalize hN : T0.length = N at *
 have HTA := hid (fun wx (hx : Below w.heap.size w wx) => Tbl.tables_any K p T0 wx (HS.out.new hx))
 rw [hN] at HTA
 clear h h1 h2 hs hlen
 unfold txv
 cases hm : Tx.may ⟨lsn,kind,l,m,mark⟩ with
 | false =>
   have HE := hid (show mayS N ⟨lsn,kind,l,m,mark⟩ = false by unfold mayS; rw [hm]; rfl)
   rw [hm] at HM
   clear hm
   go_enter Tryz.func101,Tryz.ntmps101
   go_wp2_with fail
   refine HM.out.mono ?_
   rintro e w1 ⟨rfl,hb⟩
   have HB := hid (held_two HW.out hb)
   clear hb
   go_wp2
   go_ret
   exact ⟨ret_bool (a := false) HE.out.symm,HB.out⟩
 | true =>
   have HE := hid (show mayS N ⟨lsn,kind,l,m,mark⟩ = l.all (Ch.may N) by unfold mayS; rw [hm]; rfl)
   rw [hm] at HM
   clear hm
   go_enter Tryz.func101,Tryz.ntmps101
   go_wp2_with fail
   refine HM.out.mono ?_
   rintro e w1 ⟨rfl,hb⟩
   have HB1 := hid (held_two HW.out hb)
   have HX1 := hid (HX.out.below hb (by simp))
   have x2 : w1.cell? ⟨w.heap.size,2,none⟩ = some (.slice A n c) := HX1.out.cell 2
   clear hb
   go_wp2
   go_loopw [13] (fun i wr => MayRel w N l n i wr) (fun i _ => n - (RowKit.intOf i).toNat)
   case atStart => exact ⟨0,Nat.zero_le _,rfl,(fun f hf => by simp at hf),HB1.out⟩
   case round =>
    obtain ⟨k,hk,rfl,hall,hbel⟩ := hrel
    have HA := hid hall
    have HB := hid hbel
    clear hall hbel x2
    by_cases hlt : k < n
    ·obtain ⟨b,off,f,rfl,hb,y0,y1,y2,y3,hget,htake⟩ := (HR.out.below (HB.out.mono hB)).at_ hlt
     have HG := hid hget
     have HT := hid htake
     clear hget htake
     obtain ⟨t,ky,gg,v⟩ := f
     dsimp only at y0 y1 y2 y3
     have HBl := hid (show Below w.heap.size w (wr.alloc (.cells #[.int .i64 t,.int .i64 ky,.bool gg,.string v] 64)) from HB.out.alloc HB.out.size _)
     have hbz := HBl.out.size
     have c0' := HC0.out _ HBl.out
     have HQ : Hid (Blk (wr.alloc (.cells #[.int .i64 t,.int .i64 ky,.bool gg,.string v] 64)) wr.heap.size 64 #[.int .i64 t,.int .i64 ky,.bool gg,.string v]) := Blk.new _ _ _
     generalize hq : wr.heap.size = q at HQ
     have HM2 : Hid (∀ wx,Calls Tryz.prog 165 #[.agg #[.int .i64 t,.int .i64 ky,.bool gg,.string v],.int .i64 N] wx fun e w' => e = .returned (.bool (Ch.may N ⟨t,ky,gg,v⟩)) /\ Below wx.heap.size wx w') := fun wx => Txn.maychange_any t ky gg v N wx
     generalize hm : Ch.may N ⟨t,ky,gg,v⟩ = bm at HM2
     have HBM := hid hm
     have hqw := hbz
     clear hm hbz
     go_upto_region 6 with fail
     have HQS := hid hq
     clear hq
     generalize wr.alloc (.cells #[.int .i64 t,.int .i64 ky,.bool gg,.string v] 64) = W at *
     have HH : Hid (∀ wx,Below W.heap.size W wx -> wx.cell? ⟨s,0,none⟩ = some (.pointer (some ⟨p,0,none⟩)) /\ wx.cell? ⟨q,0,none⟩ = some (.int .i64 t) /\ wx.cell? ⟨q,1,none⟩ = some (.int .i64 ky) /\ wx.cell? ⟨q,2,none⟩ = some (.bool gg) /\ wx.cell? ⟨q,3,none⟩ = some (.string v) /\ Below W.heap.size W wx) := fun wx hx =>
      have hb := HQ.out.below hx HQ.out.lt
      ⟨HC0.out _ (held_two HBl.out hx),hb.cell 0,hb.cell 1,hb.cell 2,hb.cell 3,hx⟩
     have HTA2 : Hid (∀ wx,Below W.heap.size W wx -> Calls Tryz.prog 40 #[.pointer (some ⟨p,0,none⟩)] wx fun e w' => e = .returned (.int .i64 N) /\ wx = w') := fun wx hx => HTA.out wx (held_two HBl.out hx)
     go_cut [24] (fun v wx => v = .bool (!bm) /\ Below W.heap.size W wx)
     case first =>
      go_region_held3 (fun wx => wx.cell? ⟨s,0,none⟩ = some (.pointer (some ⟨p,0,none⟩)) /\ wx.cell? ⟨q,0,none⟩ = some (.int .i64 t) /\ wx.cell? ⟨q,1,none⟩ = some (.int .i64 ky) /\ wx.cell? ⟨q,2,none⟩ = some (.bool gg) /\ wx.cell? ⟨q,3,none⟩ = some (.string v) /\ Below W.heap.size W wx)
       (first | exact HH.out _ (held_start W) | assumption | exact HH.out _ (held_call (by assumption) hbc) | (go_split_ands; exact HH.out _ (held_call (by assumption) hbc)) | fail)
       (first
         | (go_at_call 40; go_split_ands; refine (HTA2.out _ (by assumption)).mono ?_; rintro e wc ⟨rfl,rfl⟩)
         | (go_at_call 165; go_split_ands; refine (HM2.out _).mono ?_; rintro e wc ⟨rfl,hbc⟩)
         | fail)
      all_goals (
       go_wp2_with fail
       go_meet
       exact ⟨rfl,by first | assumption | exact held_call (by assumption) hbc⟩)
     case rest =>
     obtain ⟨rfl,hbc⟩ := hcut
     have HBC := hid (held_two HBl.out hbc)
     clear hbc c0'
     cases bm with
     | true =>
       go_wp2
       go_roundw
       case rel => exact ⟨k + 1,by omega,by go_num,take_all HA.out HT.out HBM.out,HBC.out⟩
       case measure => simp [RowKit.intOf]; omega
     | false =>
       go_wp2
       go_ret
       exact ⟨ret_bool (a := false) (by rw [HE.out,all_not HG.out HBM.out]),HBC.out⟩
    ·go_wp2
     go_ret
     exact ⟨ret_bool (a := true) (by rw [HE.out,all_take (n := k) (by rw [HL.out]; omega) HA.out]),HB.out⟩
end Src
namespace Idx
open Go.RowKit Base IdxMath Foot
open Go.Sort (grow)
def Rz (w : World) (B : Nat) (A : Option Addr) (n c : Nat) (l : List Rw) : Prop := Rs w B A n c l /\ (A = none -> c = 0)
theorem Rz.of_own {w : World} {A : Option Addr} {n c base : Nat} {l : List Rw} (h : w.ownsRow base 52 2 (.slice A n c) n (rv l)) : Rz w w.heap.size A n c l := by
 refine ⟨Rs.of_own h,fun hA => ?_⟩
 subst hA
 rcases h.2 with ⟨hv,h1⟩ | ⟨g,cap,cur,hv,_⟩
 ·simp only [Value.slice.injEq] at hv; exact hv.2.2
 ·simp only [Value.slice.injEq] at hv
  obtain ⟨h1,_⟩ := hv
  cases h1
theorem one_row (w : World) (k : Int) (v : ByteArray) {s : Nat} (hs : s = w.heap.size) : Row (w.alloc (.cells #[.int .i64 k,.string v] 52)) (w.heap.size + 1) 2 (some ⟨s,0,none⟩) 1 1 (rv [⟨k,v⟩]) :=
 Row.lit w #[.int .i64 k,.string v] 52 (0,0) hs rfl (by omega)
end Idx
namespace Idx
open Go.RowKit Base IdxMath Foot
open Go.Sort (grow)
theorem ret_bool' {a b : Bool} (h : a = b) : Ending.returned (.bool a) = .returned (.bool b) := by rw [h]
theorem req_same (k : Int) (s : ByteArray) (w : World) :
 Calls Tryz.prog 59 #[.agg #[.int .i64 k,.string s],.agg #[.int .i64 k,.string s]] w fun e w' => e = .returned (.bool true) /\ Below w.heap.size w w' := by
 go_enter Tryz.func59,Tryz.ntmps59
 go_wp2
 go_ret
 exact ⟨ret_bool' (by simp),((Below.refl _ _).alloc (Nat.le_refl _) _).alloc (by simp) _⟩
theorem rsame_same (B B' : Nat) (A A' : Option Addr) (n c c' : Nat) (l : List Rw) (w : World) (h : Rs w B A n c l) (h' : Rs w B' A' n c' l) (hB : B <= w.heap.size) (hB' : B' <= w.heap.size) :
 Calls Tryz.prog 58 #[.slice A n c,.slice A' n c',.func (.func 59) #[] #[]] w fun e w' => e = .returned (.bool true) /\ Below w.heap.size w w' := by
 have hle := h.le
 have HR := hid h
 have HR' := hid h'
 clear h h'
 go_enter Tryz.func58,Tryz.ntmps58
 go_wp2
 go_loopw [7] (fun i wr => ∃ k : Nat,k <= n /\ i = .int .i64 k /\ Below w.heap.size w wr) (fun i _ => n - (RowKit.intOf i).toNat)
 case atStart => exact ⟨0,by omega,rfl,Below.refl _ _⟩
 case round =>
  obtain ⟨k,hk,rfl,hbel⟩ := hrel
  have HB := hid hbel
  clear hbel
  by_cases hlt : k < n
  ·obtain ⟨b,off,f,rfl,hb,q0,q1,hget,_⟩ := (HR.out.below (HB.out.mono hB)).at_ hlt
   obtain ⟨b',off',f',rfl,hb',p0,p1,hget',_⟩ := (HR'.out.below (HB.out.mono hB')).at_ hlt
   obtain rfl : f = f' := by rw [hget] at hget'; injection hget'
   clear hget hget'
   go_wp2
   go_still_tail 9,(by kernel_rfl)
   go_wp2_with fail
   refine (req_same _ _ _).mono ?_
   rintro e w2 ⟨rfl,hb2⟩
   have HB2 := hid (HB.out.drew.trans (hb2.mono HB.out.size))
   clear hb2
   go_wp2
   go_roundw
   case rel => exact ⟨k + 1,by omega,by go_num,HB2.out⟩
   case measure => simp [RowKit.intOf]; omega
  ·go_wp2
   go_ret
   exact ⟨rfl,HB.out⟩
theorem rplain_same (B B' : Nat) (A A' : Option Addr) (n n' c c' : Nat) (l : List Rw) (w : World) (h : Rs w B A n c l) (h' : Rs w B' A' n' c' l) (hB : B <= w.heap.size) (hB' : B' <= w.heap.size) :
 Calls Tryz.prog 22 #[.slice A n c,.slice A' n' c'] w fun e w' => e = .returned (.bool true) /\ Below w.heap.size w w' := by
 obtain rfl : n = n' := by rw [<- h.len,<- h'.len]
 go_enter Tryz.func22,Tryz.ntmps22
 go_wp2_with fail
 refine (rsame_same B B' A A' n c c' l _ h h' hB hB').mono ?_
 rintro e w2 ⟨rfl,hb2⟩
 have HB2 := hid hb2
 clear hb2
 go_wp2
 go_ret
 exact ⟨rfl,HB2.out⟩
end Idx
namespace Tbl
open Go.RowKit Base
open Go.Maps (Keyed)
open Go.ChangeShapes Go.WideShapes
def pk (a k : Int) : Value := .agg #[.int .i64 a,.int .i64 k]
theorem laidOutP : laidOutB Tryz.prog = true := by kernel_rfl
theorem rowP : (279 : TypeId) < Tryz.prog.types.size := of_decide_eq_true (by kernel_rfl)
theorem wideP : (match Tryz.prog.underlying 279 with | some (.array _ _) | some (.struct _) => true | _ => false) = true := by rw [Tryz.underlying279]
theorem lawP : Keyed Tryz.prog 279 := Keyed.of_law (deep_law_laid laidOutP (m := 2) (by omega) rowP (by kernel_rfl) wideP)
def In64 (k : Int) : Prop := -9223372036854775808 <= k /\ k <= 9223372036854775807
theorem In64.wf {k : Int} (h : In64 k) : (Lit.int .i64 k).wf = true := by
 simp only [Lit.wf,Bool.and_eq_true,decide_eq_true_eq]
 exact h
theorem keyLits_pk (d : Nat) {a k : Int} (ha : In64 a) (hk : In64 k) : Tryz.prog.keyLits (d + 2) 279 [.int .i64 a,.int .i64 k] = some [.int .i64 a,.int .i64 k] := by
 have h1 := ha.wf
 have h2 := hk.wf
 have c1 : Tryz.prog.cellsOf 279 = 2 := by kernel_rfl
 have c2 : Tryz.prog.cellsOf 3 = 1 := by kernel_rfl
 have c3 : Tryz.prog.cellsOf 2 = 1 := by kernel_rfl
 simp [Program.keyLits,Tryz.underlying279,Tryz.underlying3,Tryz.underlying2,h1,h2,c1,c2,c3]
theorem key_pk {a k : Int} (ha : In64 a) (hk : In64 k) : ∃ kl,keyOf Tryz.prog 279 (pk a k) = some kl := by
 have h0 : Tryz.prog.keyType 279 = true := by kernel_rfl
 have h1 : (pk a k).formed Tryz.prog 279 = true := by
  have c1 : Tryz.prog.cellsOf 279 = 2 := by kernel_rfl
  simp [pk,Value.formed,Tryz.underlying279,c1]
 have hsz : 0 < Tryz.prog.types.size := Nat.lt_of_le_of_lt (Nat.zero_le _) rowP
 obtain ⟨d,hd⟩ : ∃ d,Tryz.prog.types.size + 1 = d + 2 := ⟨Tryz.prog.types.size - 1,by omega⟩
 unfold keyOf
 rw [Tryz.underlying279]
 dsimp only
 rw [if_pos (by rw [h0,h1]; rfl),hd]
 have e : (pk a k).cells.toList = [.int .i64 a,.int .i64 k] := by simp [pk,Value.cells]
 rw [e,keyLits_pk d ha hk]
 exact ⟨_,rfl⟩
def Look (D : DataW Unit) (f : Int -> Int -> Option Bool) : Prop :=
 ∀ a k kl,keyOf Tryz.prog 279 (pk a k) = some kl -> (∀ v,f a k = some v -> ∀ zd,D.atKey kl zd = .lit (.bool v)) /\ (f a k = none -> ∀ zd,D.atKey kl zd = zd)
def Seen (w : World) (b n : Nat) (f : Int -> Int -> Option Bool) : Prop := ∃ D : DataW Unit,w.ownsMap Tryz.prog 279 (plainElem Tryz.prog 4) b n D /\ Maps.IsMap D /\ Look D f
theorem Seen.made (w : World) : Seen (w.alloc (.map #[] 0)) w.heap.size 0 (fun _ _ => none) :=
 ⟨.map [],World.ownsMap_made _ _ _ _,⟨_,rfl⟩,fun a k kl h => ⟨fun v hv => (by cases hv),fun _ zd => by simp [DataW.atKey]⟩⟩
section
variable {w w' : World} {b n : Nat} {f : Int -> Int -> Option Bool}
theorem Seen.lt (h : Seen w b n f) : b < w.heap.size := by obtain ⟨D,h1,_⟩ := h; exact h1.lt
theorem Seen.kept {row : Option Nat} (h : Seen w b n f) (hg : w.grownBy w' row) (hne : some b ≠ row) : Seen w' b n f := by obtain ⟨D,h1,h2⟩ := h; exact ⟨D,h1.kept hg hne,h2⟩
theorem Seen.same (h : Seen w b n f) (hk : w'.heap[b]? = w.heap[b]?) : Seen w' b n f := by
 obtain ⟨D,⟨es,clock,hb,r⟩,h2⟩ := h
 exact ⟨D,⟨es,clock,hk.trans hb,r⟩,h2⟩
end
def putF (f : Int -> Int -> Option Bool) (a k : Int) (v : Bool) (x y : Int) : Option Bool := if x = a /\ y = k then some v else f x y
theorem bool_inv {v : Value} {z : DataW Unit × List MemPlace} (h : plainElem Tryz.prog 4 v = some z) : ∃ x,v = .bool x /\ z = (.lit (.bool x),[]) := by
 unfold plainElem at h
 rw [Tryz.underlying4] at h
 split at h
 ·injection h with h; exact ⟨_,rfl,h.symm⟩
 ·rename_i h1; cases h1
 ·rename_i h1; cases h1
 ·cases h
theorem Seen.look {w : World} {b n : Nat} {f : Int -> Int -> Option Bool} (h : Seen w b n f) {a k : Int} (ha : In64 a) (hk : In64 k) :
 (Instr.lookup 277 (.map (some b)) (pk a k) true).run Tryz.prog w = .ok (.tuple #[.bool ((f a k).getD false),.bool (f a k).isSome]) w := by
 obtain ⟨D,⟨es,clock,hb,F,_,rfl⟩,hm,hl⟩ := h
 obtain ⟨kl,hkey⟩ := key_pk ha hk
 have hz : (zeroValue 4).run Tryz.prog w = .ok (.bool false) w := by kernel_rfl
 obtain ⟨l1,l2⟩ := hl a k kl hkey
 rcases Maps.fit_look true lawP Tryz.underlying277 hz hb F hkey with ⟨hrun,_,hat⟩ | ⟨e0,y,_,_,hrun,hRv,hat,_⟩
 ·cases hf : f a k with
  | none => exact hrun
  | some v =>
    have h1 := l1 v hf (.lit (.bool (!v)))
    rw [hat] at h1
    cases v <;> simp at h1
 ·obtain ⟨x,hx,rfl⟩ := bool_inv hRv
  cases hf : f a k with
  | none =>
    have h1 := l2 hf (.lit (.bool (!x)))
    rw [hat] at h1
    cases x <;> simp at h1
  | some v =>
    have h1 := l1 v hf (.lit (.bool v))
    rw [hat] at h1
    simp at h1
    subst h1
    rw [hx] at hrun
    exact hrun
theorem Seen.put {w : World} {b n : Nat} {f : Int -> Int -> Option Bool} (h : Seen w b n f) (hn : n < 9223372036854775807) {a k : Int} (ha : In64 a) (hk : In64 k) (v : Bool) :
 ∃ w',(Instr.mapUpdate 277 (.map (some b)) (pk a k) (.bool v)).run Tryz.prog w = .ok () w' /\ Seen w' b (n + 1) (putF f a k v) /\ w.grownBy w' (some b) := by
 obtain ⟨D,hown,hm,hl⟩ := h
 obtain ⟨kl,hkey⟩ := key_pk ha hk
 obtain ⟨w',hrun,r1,r2⟩ := hown.update lawP Tryz.underlying277 (by unfold maxLen; omega) hkey (plainElem_bool Tryz.underlying4 v)
 refine ⟨w',hrun,⟨_,r1,(by obtain ⟨es,rfl⟩ := hm; exact ⟨_,rfl⟩),fun x y kl' hkey' => ?_⟩,r2⟩
 unfold putF
 by_cases hxy : x = a /\ y = k
 ·rw [if_pos hxy]
  obtain ⟨rfl,rfl⟩ := hxy
  rw [hkey] at hkey'
  injection hkey' with hkey'
  subst hkey'
  exact ⟨fun v' hv' zd => by injection hv' with hv'; subst hv'; exact Maps.atKey_put_same hm (lawP.key hkey) _ _,fun h => by cases h⟩
 ·rw [if_neg hxy]
  have hne : kl' ≠ kl := by
   rintro rfl
   have := lawP.inj hkey hkey'
   simp [pk] at this
   exact hxy ⟨this.1.symm,this.2.symm⟩
  obtain ⟨l1,l2⟩ := hl x y kl' hkey'
  exact ⟨fun v' hv' zd => by rw [Maps.atKey_put_other hne]; exact l1 v' hv' zd,fun hf zd => by rw [Maps.atKey_put_other hne]; exact l2 hf zd⟩
end Tbl
namespace Tbl
open Go.RowKit Base IdxMath Foot Idx
open PChg (gcells gval gv gv_cons gv_length gv_get Cs)
open Field (modZ modZ_lt mod_any)
theorem tab_do1 {T : List (List Rw)} {c : Cg} (hc : isT T c.tbl = true) (t : Int) : tab (do1 T c) t = if t = c.tbl then one (tab T t) c else tab T t := by
 obtain ⟨i,e,hi⟩ := isT_nat hc
 unfold do1
 rw [e,Int.toNat_natCast,tab_set hi]
 split
 ·next h => rw [h]
 ·rfl
theorem isT_doAll (T : List (List Rw)) (l : List Cg) (t : Int) : isT (doAll T l) t = isT T t := isT_length (doAll_length T l) t
theorem allT_cons {T : List (List Rw)} {c : Cg} {l : List Cg} (h : allT T (c :: l) = true) : isT T c.tbl = true /\ allT T l = true := by
 unfold allT at h ⊢
 rw [List.all_cons,Bool.and_eq_true] at h
 exact h
end Tbl
namespace Tbl
open Go.RowKit Base IdxMath Foot Idx
open PChg (gcells gval gv gv_cons gv_length gv_get Cs SomeCh pchanges_any)
open Field (modZ modZ_lt mod_any)
theorem most_doAll {T : List (List Rw)} {M : Nat} (h : Most T M) (l : List Cg) (hl : allT T l = true) : Most (doAll T l) (M + l.length) := by
 induction l generalizing T M with
 | nil => exact h
 | cons c l ih =>
   obtain ⟨h1,h2⟩ := allT_cons hl
   have := ih (h.do1 h1) (by unfold allT at h2 ⊢; simpa [isT_length (show (do1 T c).length = T.length by simp [do1])] using h2)
   rw [List.length_cons,show M + (l.length + 1) = M + 1 + l.length by omega]
   exact this
theorem Most.mono {T : List (List Rw)} {M N : Nat} (h : Most T M) (hm : M <= N) : Most T N := fun t => Nat.le_trans (h t) hm
theorem allT_sub {T : List (List Rw)} {l m : List Cg} (h : allT T l = true) (hs : m.Sublist l) : allT T m = true := by
 unfold allT at h ⊢
 rw [List.all_eq_true] at h ⊢
 exact fun x hx => h x (hs.subset hx)
end Tbl
namespace Tbl
open Go.RowKit Base IdxMath Foot Idx
open PChg (gcells gval gv gv_cons gv_length gv_get Cs)
theorem there_iff {l : List Rw} (h : Rise l) (k : Int) : there l k = true <-> ∃ x ∈ l,x.key = k := by
 constructor
 ·intro ht
  obtain ⟨x,hx,hk⟩ := pos_split l k ht
  exact ⟨x,List.mem_of_getElem? hx,hk⟩
 ·rintro ⟨x,hx,rfl⟩
  induction l with
  | nil => cases hx
  | cons y r ih =>
    unfold there
    obtain ⟨h1,h2⟩ := List.pairwise_cons.1 h
    rcases List.mem_cons.1 hx with rfl | hx
    ·rw [if_neg (by omega)]; simp
    ·rw [if_pos (h1 x hx)]; exact ih h2 hx
theorem there_get {l : List Rw} (h : Rise l) (k : Int) : (get l k).isSome = there l k := by
 rw [IdxMath.get_at h]
 cases ht : there l k with
 | false => rfl
 | true =>
   obtain ⟨x,hx,_⟩ := pos_split l k ht
   rw [if_pos rfl,hx]
   rfl
theorem bool_ext {a b : Bool} (h : a = true <-> b = true) : a = b := by
 cases a <;> cases b <;> simp_all
theorem put_mem_of {l : List Rw} {k : Int} {v : ByteArray} {x : Rw} (hx : x ∈ l) (hk : x.key ≠ k) : x ∈ put l k v := by
 induction l with
 | nil => cases hx
 | cons y r ih =>
   unfold put
   rcases List.mem_cons.1 hx with rfl | hx
   ·split
    ·exact List.mem_cons_self
    ·exact List.mem_cons_of_mem _ List.mem_cons_self
   ·split
    ·exact List.mem_cons_of_mem _ (ih hx)
    ·split
     ·exact List.mem_cons_of_mem _ hx
     ·exact List.mem_cons_of_mem _ (List.mem_cons_of_mem _ hx)
theorem put_mem_self (l : List Rw) (k : Int) (v : ByteArray) : (⟨k,v⟩ : Rw) ∈ put l k v := by
 induction l with
 | nil => exact List.mem_cons_self
 | cons y r ih =>
   unfold put
   split
   ·exact List.mem_cons_of_mem _ ih
   ·split <;> exact List.mem_cons_self
theorem there_put {l : List Rw} (h : Rise l) (k : Int) (v : ByteArray) (k' : Int) : there (put l k v) k' = if k' = k then true else there l k' := by
 by_cases hk : k' = k
 ·rw [if_pos hk,there_iff (h.put k v)]
  exact ⟨_,put_mem_self l k v,hk.symm⟩
 ·rw [if_neg hk]
  apply bool_ext
  rw [there_iff (h.put k v),there_iff h]
  constructor
  ·rintro ⟨x,hx,hxk⟩
   rcases put_mem hx with rfl | hx
   ·exact absurd hxk.symm hk
   ·exact ⟨x,hx,hxk⟩
  ·rintro ⟨x,hx,hxk⟩
   exact ⟨x,put_mem_of hx (by omega),hxk⟩
theorem there_del {l : List Rw} (h : Rise l) (k : Int) (k' : Int) : there (del l k) k' = if k' = k then false else there l k' := by
 have hd := del_find h k
 by_cases hk : k' = k
 ·rw [if_pos hk,Bool.eq_false_iff]
  intro ht
  rw [there_iff (h.del k)] at ht
  obtain ⟨x,hx,hxk⟩ := ht
  subst hk
  rw [hd] at hx
  clear hd
  induction l with
  | nil => cases hx
  | cons y r ih =>
    obtain ⟨h1,h2⟩ := List.pairwise_cons.1 h
    by_cases hy : y.key = k'
    ·rw [List.eraseP_cons_of_pos (by simpa using hy)] at hx
     have := h1 x hx
     omega
    ·rw [List.eraseP_cons_of_neg (by simpa using hy)] at hx
     rcases List.mem_cons.1 hx with rfl | hx
     ·exact hy hxk
     ·exact ih h2 hx
 ·rw [if_neg hk]
  apply bool_ext
  rw [there_iff (h.del k),there_iff h,hd]
  constructor
  ·rintro ⟨x,hx,hxk⟩
   exact ⟨x,List.mem_of_mem_eraseP hx,hxk⟩
  ·rintro ⟨x,hx,hxk⟩
   exact ⟨x,(List.mem_eraseP_of_neg (by simp; omega)).2 hx,hxk⟩
theorem del_length' (l : List Rw) (k : Int) : (del l k).length = if there l k then l.length - 1 else l.length := by
 unfold del
 split
 ·next h => rw [List.length_eraseIdx_of_lt (pos_lt h)]
 ·rfl
theorem one_there {l : List Rw} (h : Rise l) (c : Cg) (k' : Int) : there (one l c) k' = if k' = c.key then !c.gone else there l k' := by
 unfold one
 cases hg : c.gone with
 | true => rw [if_pos rfl,there_del h]; rfl
 | false => rw [if_neg (by simp),there_put h]; rfl
theorem one_rise {l : List Rw} (h : Rise l) (c : Cg) : Rise (one l c) := by
 unfold one
 split
 ·exact h.del _
 ·exact h.put _ _
theorem one_length (l : List Rw) (c : Cg) : ((one l c).length : Int) = l.length + (if there l c.key = true /\ c.gone = true then -1 else if there l c.key = false /\ c.gone = false then 1 else 0) := by
 unfold one
 cases hg : c.gone with
 | true =>
   rw [if_pos rfl,del_length']
   cases ht : there l c.key with
   | true => have := pos_lt ht; simp; omega
   | false => simp
 | false =>
   rw [if_neg (by simp),put_length]
   cases ht : there l c.key with
   | true => simp
   | false => simp
def Rises (T : List (List Rw)) : Prop := ∀ t,Rise (tab T t)
theorem Rises.do1 {T : List (List Rw)} (h : Rises T) {c : Cg} (hc : isT T c.tbl = true) : Rises (do1 T c) := by
 intro t
 rw [tab_do1 hc]
 split
 ·exact one_rise (h t) c
 ·exact h t
theorem Rises.doAll {T : List (List Rw)} (h : Rises T) (l : List Cg) (hl : allT T l = true) : Rises (doAll T l) := by
 induction l generalizing T with
 | nil => exact h
 | cons c l ih =>
   obtain ⟨h1,h2⟩ := allT_cons hl
   exact ih (h.do1 h1) (by unfold allT at h2 ⊢; simpa [isT_length (show (Tbl.do1 T c).length = T.length by simp [Tbl.do1])] using h2)
theorem SetAt.rises {w : World} {F : Nat -> Prop} {p : Nat} {T : List (List Rw)} (h : SetAt w F p T) : Rises T := by
 intro t
 cases ht : isT T t with
 | false => rw [tab_none ht]; exact Rise.nil
 | true =>
   obtain ⟨b,ps,G,h⟩ := h
   obtain ⟨i,rfl,hi⟩ := isT_nat ht
   obtain ⟨q,l,_,e2,_,hq⟩ := h.get hi
   rw [tab_get hi e2]
   exact hq.rise
def gr (T T' : List (List Rw)) (t : Nat) : Int := ((tab T' t).length : Int) - (tab T t).length
def grArr (T T' : List (List Rw)) : Array Value := #[.int .i64 (gr T T' 0),.int .i64 (gr T T' 1),.int .i64 (gr T T' 2),.int .i64 (gr T T' 3),.int .i64 (gr T T' 4),.int .i64 (gr T T' 5),.int .i64 (gr T T' 6),.int .i64 (gr T T' 7)]
theorem gr_self (T : List (List Rw)) (t : Nat) : gr T T t = 0 := by unfold gr; omega
theorem grArr_get (T T' : List (List Rw)) {i : Nat} (hi : i < 8) : (grArr T T')[i]? = some (.int .i64 (gr T T' i)) := by
 match i,hi with
 | 0,_ => rfl
 | 1,_ => rfl
 | 2,_ => rfl
 | 3,_ => rfl
 | 4,_ => rfl
 | 5,_ => rfl
 | 6,_ => rfl
 | 7,_ => rfl
theorem grArr_ext {T T1 T2 : List (List Rw)} (h : ∀ j,j < 8 -> gr T T2 j = gr T T1 j) : grArr T T2 = grArr T T1 := by
 unfold grArr
 rw [h 0 (by omega),h 1 (by omega),h 2 (by omega),h 3 (by omega),h 4 (by omega),h 5 (by omega),h 6 (by omega),h 7 (by omega)]
theorem grArr_set {T T1 T2 : List (List Rw)} {i : Nat} (hi : i < 8) (h : ∀ j,j < 8 -> j ≠ i -> gr T T2 j = gr T T1 j) : grArr T T2 = (grArr T T1).setIfInBounds i (.int .i64 (gr T T2 i)) := by
 apply Array.ext
 ·simp [grArr]
 ·intro j h1 h2
  have hj : j < 8 := by simpa [grArr] using h1
  have e1 := grArr_get T T2 hj
  have e2 := grArr_get T T1 hj
  rw [Array.getElem?_eq_getElem h1] at e1
  injection e1 with e1
  rw [e1,Array.getElem_setIfInBounds]
  split
  ·next e => subst e; rfl
  ·next e =>
   rw [h j hj (fun e' => e e'.symm)]
   rw [Array.getElem?_eq_getElem (by simpa using h2)] at e2
   injection e2 with e2
   exact e2.symm
theorem gr_do1 {T T1 : List (List Rw)} {c : Cg} {i : Nat} (hc : isT T1 c.tbl = true) (hi : c.tbl = (i : Int)) (j : Nat) :
 gr T (do1 T1 c) j = gr T T1 j + (if j = i then (if there (tab T1 c.tbl) c.key = true /\ c.gone = true then -1 else if there (tab T1 c.tbl) c.key = false /\ c.gone = false then 1 else 0) else 0) := by
 unfold gr
 rw [tab_do1 hc]
 by_cases hj : j = i
 ·subst hj
  rw [if_pos hi.symm,if_pos rfl,one_length,hi]
  omega
 ·rw [if_neg (by omega),if_neg hj]
  omega
def MapIs (T T1 : List (List Rw)) (f : Int -> Int -> Option Bool) : Prop := ∀ a k,(f a k).getD (there (tab T a) k) = there (tab T1 a) k
theorem MapIs.step {T T1 : List (List Rw)} {f : Int -> Int -> Option Bool} (h : MapIs T T1 f) (hr : Rises T1) {c : Cg} (hc : isT T1 c.tbl = true) : MapIs T (do1 T1 c) (putF f c.tbl c.key (!c.gone)) := by
 intro a k
 rw [tab_do1 hc]
 unfold putF
 by_cases ha : a = c.tbl
 ·subst ha
  rw [if_pos rfl,one_there (hr _)]
  by_cases hk : k = c.key
  ·rw [if_pos ⟨rfl,hk⟩,if_pos hk]; rfl
  ·rw [if_neg (fun e => hk e.2),if_neg hk]; exact h _ _
 ·rw [if_neg (fun e => ha e.1),if_neg ha]; exact h _ _
theorem wpList_seen_look (w : World) {ops : Array Oper} {rest : List Oper} {o : Oper} {a : Act} {Q : Exit -> Act -> World -> Prop}
 (hg : o.guard = none) (m x : Operand) (hop : o.op = Op.lookup 277 m x true) (b n : Nat) (f : Int -> Int -> Option Bool) (p k : Int)
 (hm : a.eval m = .map (some b)) (h : Seen w b n f) (hx : a.eval x = pk p k) (hp : In64 p) (hk : In64 k) (x1 x2 : Bool) (h1 : (f p k).getD false = x1) (h2 : (f p k).isSome = x2)
 (hK : wpList Tryz.prog ops Q rest (a.put o.dst (.tuple #[.bool x1,.bool x2])) w) : wpList Tryz.prog ops Q (o :: rest) a w := by
 refine wpList_plain hg fun K' hK' => ?_
 have hrun := h.look hp hk
 rw [h1,h2] at hrun
 unfold Oper.wp
 simp [execOp,hop,hm,hx,hrun,Result.andThen]
 exact hK' _ _ hK
theorem wpList_seen_put (w : World) {ops : Array Oper} {rest : List Oper} {o : Oper} {a : Act} {Q : Exit -> Act -> World -> Prop}
 (hg : o.guard = none) (m x v : Operand) (hop : o.op = Op.mapUpdate 277 m x v) (b n : Nat) (f : Int -> Int -> Option Bool) (p k : Int) (y : Bool)
 (hm : a.eval m = .map (some b)) (h : Seen w b n f) (hn : n < 9223372036854775807) (hx : a.eval x = pk p k) (hv : a.eval v = .bool y) (hp : In64 p) (hk : In64 k)
 (hK : ∀ w',Seen w' b (n + 1) (putF f p k y) -> w.grownBy w' (some b) -> wpList Tryz.prog ops Q rest (a.put o.dst undef) w') : wpList Tryz.prog ops Q (o :: rest) a w := by
 refine wpList_plain hg fun K' hK' => ?_
 obtain ⟨w',hrun,r1,r2⟩ := h.put hn hp hk y
 unfold Oper.wp
 simp [execOp,hop,hm,hx,hv,hrun,Result.andThen]
 exact hK' _ _ (hK w' r1 r2)
end Tbl
end Go.Proofs.YtefnmnpfecfdaaaGreat
