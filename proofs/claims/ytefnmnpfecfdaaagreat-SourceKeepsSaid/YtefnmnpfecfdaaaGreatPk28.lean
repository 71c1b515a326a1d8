/-
  Texts of one proof: WalLoad.
-/
import Derived.Test.YtefnmnpfecfdaaaGreatPk27
set_option linter.all false
set_option maxRecDepth 100000
set_option maxHeartbeats 6400000
open Go.Lib (hid)
namespace Go.Proofs.YtefnmnpfecfdaaaGreat
namespace Wal
open Go.RowKit Base WalMath Last
open Disk (DiskAt I64 Fits)
open Foot (Turn Out own_same own_type)
open DiskMath (Fl Dk)
theorem scan_rows (b : List UInt8) : ∀ p ∈ (RecMath.scan b).1,p.length <= 1048576 := by
 generalize hn : b.length = n
 induction n using Nat.strongRecOn generalizing b with
 | ind n ih =>
   subst hn
   cases h : RecMath.tk b with
   | error e => rw [RecMath.scan_end h]; intro p hp; cases hp
   | ok q =>
     have hf := RecMath.tk_fits h
     rw [RecMath.scan_more h]
     intro p hp
     rcases List.mem_cons.1 hp with rfl | hp
     ·exact hf.2
     ·exact ih _ (by rw [List.length_drop]; omega) (b.drop (8 + q.length)) rfl p hp
theorem sread_ok {b : List UInt8} (h : (SegMath.sread b).e = 0) : 1 <= (SegMath.sread b).x /\ (SegMath.sread b).x <= 1099511627776 /\ (SegMath.sread b).n <= b.length /\ 8 * (SegMath.sread b).rows.length <= b.length /\ ∀ p ∈ (SegMath.sread b).rows,p.length <= 1048576 := by
 have h8 := SegMath.sread_rows b
 have hle := RecMath.scan_le b
 have hrw := scan_rows b
 unfold SegMath.sread SegMath.sreads at *
 split at h
 ·cases h
 ·rename_i p l he
  split at h
  ·rename_i y hy
   have hy2 : 1 <= y /\ y <= 1099511627776 := by
    unfold SegMath.first SegMath.only at hy
    split at hy
    ·split at hy
     ·rename_i hc
      injection hy with hy
      subst hy
      exact hc.2
     ·cases hy
    ·cases hy
   rw [he] at h8
   simp only [hy] at h8 ⊢
   refine ⟨hy2.1,hy2.2,hle,h8,fun q hq => hrw q ?_⟩
   rw [he]
   exact List.mem_cons_of_mem _ hq
  ·cases h
theorem loads_eq (fs : List Fl) : loads fs = WalMath.load ((fs.map (·.id)).getD 0 0) 0 [] fs := by
 cases fs with
 | nil => rfl
 | cons x r => rfl
theorem size_of {d : Dk} {x : Fl} (h : DiskMath.seek d.files x.id = some x) : DiskMath.size d x.id = x.b.length := by rw [DiskMath.size,h]
theorem ListsIn.exact {w : World} {B n c : Nat} {A : Option Addr} {l : List (List UInt8)} (h : ListsIn w (B <= ·) A n c l) : ListsIn w (fun i => B <= i /\ i < w.heap.size) A n c l := by
 obtain ⟨vs,h1,h0,h2,h3,h6⟩ := h
 refine ⟨vs,h1,fun hn b off e => ⟨h0 hn b off e,?_⟩,h2,fun i v x hv hx => ?_,?_⟩
 ·obtain ⟨b',off',e',hb,_⟩ := h1.2.2.2 hn
  rw [e] at e'
  injection e' with e'
  injection e' with e1 e2
  subst e1
  exact hb
 ·obtain ⟨A',n',c',e',h4,h5,h7⟩ := h3 i v x hv hx
  refine ⟨A',n',c',e',h4,fun hn b off e => ⟨h5 hn b off e,?_⟩,h7⟩
  obtain ⟨cur,hc⟩ := h7 hn b off e
  exact (Array.getElem?_eq_some_iff.1 hc).1
 ·rcases h6 with h | ⟨b,off,cur,e,hs,hc,hl⟩
  ·exact .inl h
  ·exact .inr ⟨b,off,cur,e,⟨hs,(Array.getElem?_eq_some_iff.1 hc).1⟩,hc,hl⟩
def Loaded (T : Nat -> Prop) (w : World) (g gd : Nat) (l : Lg) (d : Dk) (r : Option (List Sg)) (e : Ending) (w' : World) : Prop := match r with
 | none => e = .returned (.int .i64 3) /\ (∃ l',Both T w' g gd l' d) /\ Turn T w w'
 | some segs => e = .returned (.int .i64 0) /\ Both T w' g gd { l with segs := segs } d /\ (∀ s ∈ segs,SgOk s) /\ Turn T w w'
def LoadRel (T : Nat -> Prop) (w : World) (g gd : Nat) (l : Lg) (d : Dk) (fs : List Fl) (f0 : Int) (r : Option (List Sg)) (n : Nat) (i : Value) (wr : World) : Prop :=
 ∃ (j : Nat) (acc : List Sg),j <= n /\ i = .int .i64 j /\ WalMath.load f0 j acc (fs.drop j) = r /\ acc.length = j /\ Both T wr g gd { l with segs := acc } d /\ (∀ s ∈ acc,SgOk s) /\ Turn T w wr
theorem load_any (T : Nat -> Prop) (g gd : Nat) (l : Lg) (d : Dk) (fs : List Fl) (A : Option Addr) (n c : Nat) (w : World) (h : Both T w g gd l d) (hT : New T w) (hl0 : l.segs = []) (hfs : ∀ x ∈ fs,DiskMath.seek d.files x.id = some x /\ 0 <= x.id /\ x.id < 16384 /\ x.b.length <= 35184372088832) (hN : fs.length <= 16384)
 (hr : Row w w.heap.size 1 A n c (iv (fs.map (·.id)))) (hli : Lies (fun i => ¬ T i) A n) :
 Calls Tryz.prog 95 #[.pointer (some ⟨g,0,none⟩),.slice A n c] w (Loaded T w g gd l d (loads fs)) := by
 have hfn : fs.length = n := by have := hr.len; rw [iv_length,List.length_map,Nat.mul_one] at this; exact this
 have HB := hid h
 have HT := hid hT
 have HFS := hid hfs
 have HR := hid hr
 have HLI := hid hli
 have HFN := hid hfn
 have hLg : { l with segs := [] } = l := by cases l; simp_all
 have HLG := hid hLg
 rw [hfn] at hN
 clear h hT hfs hr hli hfn hl0 hLg
 rw [loads_eq]
 generalize hf0 : (fs.map (·.id)).getD 0 0 = f0
 have HF0 := hid hf0
 generalize hld : WalMath.load f0 0 [] fs = r
 have HLD := hid hld
 clear hf0 hld
 go_enter Tryz.func95,Tryz.ntmps95
 go_wp2
 go_loopw [12] (fun i wr => LoadRel T w g gd l d fs f0 r n i wr) (fun i _ => n - (RowKit.intOf i).toNat)
 case atStart => exact ⟨0,[],by omega,rfl,HLD.out,rfl,by rw [HLG.out]; exact HB.out,(fun s hs => by cases hs),Turn.refl _ _⟩
 case round =>
  obtain ⟨j,acc,hj,rfl,hload,hacc,hboth,hok,hturn⟩ := hrel
  by_cases hlt : j < n
  ·have hjl : j < fs.length := by rw [HFN.out]; exact hlt
   have hx := List.getElem?_eq_getElem hjl
   obtain ⟨x,hxe⟩ : ∃ x,x = fs[j] := ⟨_,rfl⟩
   rw [<- hxe] at hx
   have hdr : fs.drop j = x :: fs.drop (j + 1) := by rw [hxe]; exact List.drop_eq_getElem_cons hjl
   rw [hdr] at hload
   obtain ⟨hsk,hid0,hid1,hxl⟩ := HFS.out x (List.mem_of_getElem? hx)
   have hYw := HR.out
   have hnum := fun (k : Nat) (hk : k < n) => Row.num hYw hk
   obtain ⟨b1,o1,rfl,hb1,hc1⟩ := hnum j hlt
   obtain ⟨b1',o1',eb,hb1',hc0⟩ := hnum 0 (by omega)
   injection eb with eb
   injection eb with e1 e2
   subst e1 e2
   have hnT : ¬ T b1 := HLI.out (by omega) b1 o1 rfl
   have y1 : wr.cell? ⟨b1,o1 + j,none⟩ = some (.int .i64 x.id) := by
    rw [hturn.cell (p := ⟨b1,o1 + j,none⟩) hb1 hnT,hc1,List.getD_eq_getElem?_getD,List.getElem?_map,hx]
    rfl
   have y0 : wr.cell? ⟨b1,o1,none⟩ = some (.int .i64 f0) := by
    rw [Nat.add_zero] at hc0
    rw [hturn.cell (p := ⟨b1,o1,none⟩) hb1 hnT,hc0,HF0.out]
   have hf00 : 0 <= f0 /\ f0 < 16384 := by
    have hm := HFS.out (fs[0]'(by omega)) (List.getElem_mem _)
    have : f0 = (fs[0]'(by omega)).id := by rw [<- HF0.out,List.getD_eq_getElem?_getD,List.getElem?_map,List.getElem?_eq_getElem (by omega)]; rfl
    rw [this]
    exact ⟨hm.2.1,hm.2.2.1⟩
   have hwf : IntKind.i64.wrap (f0 + j) = f0 + j := IntWalk.i64_in _ (by omega)
   have hwn : IntKind.i64.wrap ((n : Int) - 1) = (n : Int) - 1 := IntWalk.i64_in _ (by omega)
   have hrl : (fs.drop (j + 1)).length = n - (j + 1) := by rw [List.length_drop,HFN.out]
   have HLOAD := hid hload
   have HSK := hid hsk
   have HBR := hid hboth
   have HOK := hid hok
   have HTR := hid hturn
   have HAC := hid hacc
   have HRL := hid hrl
   clear hload hsk hboth hok hturn hacc hc1 hc0 hx hdr hxe hYw hnum hrl hnT hb1 hb1' hjl
   unfold WalMath.load at HLOAD
   by_cases hidf : x.id = f0 + j
   ·have hne : (x.id != f0 + j) = false := by simpa using hidf
    obtain ⟨F,G,hdk,hlog,hFG,hF,hG⟩ := HBR.out
    have HSI := hid (segin_any F G g gd { l with segs := acc } d x.id x wr hlog hdk ⟨by omega,by omega⟩ HSK.out hxl)
    have HDK := hid hdk
    have HLOG := hid hlog
    have HFG := hid hFG
    have HF := hid hF
    have HG := hid hG
    have hlo := HLOAD.out
    rw [if_neg (by simpa using hidf),HRL.out] at hlo
    have HLO := hid hlo
    have HID := hid hidf
    clear hdk hlog hFG hF hG hlo hidf HLOAD
    have hlast : ((j : Int) == (n : Int) - 1) = decide (n - (j + 1) = 0) := by
     by_cases h : n - (j + 1) = 0
     ·rw [decide_eq_true h]; simp; omega
     ·rw [decide_eq_false h]; simp; omega
    generalize hlb : decide (n - (j + 1) = 0) = lb at hlast
    have HLB := hid hlb
    clear hlb
    go_wp2_with fail
    refine HSI.out.mono ?_
    rintro e w1 ⟨A1,c1,rfl,hls1,hb1⟩
    have HLS := hid hls1
    have HB1 := hid hb1
    have HX : Hid (Blk (w1.alloc (.cells #[.int .i64 x.id,.int .i64 (SegMath.sread x.b).x,.slice A1 (SegMath.sread x.b).rows.length c1,.int .i64 (SegMath.sread x.b).n] 172)) w1.heap.size 172 #[.int .i64 x.id,.int .i64 (SegMath.sread x.b).x,.slice A1 (SegMath.sread x.b).rows.length c1,.int .i64 (SegMath.sread x.b).n]) := Blk.new _ _ _
    have HW2 := hid (held_alloc hb1 (.cells #[.int .i64 x.id,.int .i64 (SegMath.sread x.b).x,.slice A1 (SegMath.sread x.b).rows.length c1,.int .i64 (SegMath.sread x.b).n] 172))
    have HB12 : Hid (Below w1.heap.size w1 (w1.alloc (.cells #[.int .i64 x.id,.int .i64 (SegMath.sread x.b).x,.slice A1 (SegMath.sread x.b).rows.length c1,.int .i64 (SegMath.sread x.b).n] 172))) := (Below.refl _ _).alloc (Nat.le_refl _) _
    have HSO := hid (sread_ok (b := x.b))
    have HSGO : Hid (segOf x = ⟨x.id,(SegMath.sread x.b).x,(SegMath.sread x.b).rows,(SegMath.sread x.b).n⟩) := hid rfl
    have HS1 := hid hb1.size
    generalize hsr : SegMath.sread x.b = sr at *
    obtain ⟨rx,rr,rn,re⟩ := sr
    have HSR := hid hsr
    dsimp only at *
    clear hls1 hb1 HSI hsr y0 y1
    generalize hrln : rr.length = rl at *
    have HRLN := hid hrln
    clear hrln
    generalize hW2 : w1.alloc (.cells #[.int .i64 x.id,.int .i64 rx,.slice A1 rl c1,.int .i64 rn] 172) = W2 at *
    generalize hs1 : w1.heap.size = s1 at HX HS1
    have k0 : W2.cell? ⟨s1,0,none⟩ = some (.int .i64 x.id) := HX.out.cell 0
    have k1 : W2.cell? ⟨s1,1,none⟩ = some (.int .i64 rx) := HX.out.cell 1
    have k2 : W2.cell? ⟨s1,2,none⟩ = some (.slice A1 rl c1) := HX.out.cell 2
    have k3 : W2.cell? ⟨s1,3,none⟩ = some (.int .i64 rn) := HX.out.cell 3
    have HSV : Hid (sgv (segOf x,⟨A1,c1⟩) = [.int .i64 x.id,.int .i64 rx,.slice A1 rl c1,.int .i64 rn]) := hid (by rw [HSGO.out]; simp [sgv,HRLN.out])
    have HRW : Hid ((segOf x).rows = rr) := hid (by rw [HSGO.out])
    by_cases hre : re = 0
    ·subst hre
     obtain ⟨q1,q2,q3,q4,q5⟩ := HSO.out rfl
     have HQ5 := hid q5
     clear q5
     have hgo := goeson_any G g gd { l with segs := acc } x.id rx A1 rl c1 rn (segOf x) W2 (HLOG.out.new HW2.out) HOK.out (by omega) (by omega) (by rw [HSGO.out]) (by rw [HRW.out]; exact HRLN.out)
     have HGO := hid hgo
     clear hgo
     generalize hgb : goesOn acc (segOf x) = gb at *
     have HGB := hid hgb
     clear hgb
     cases gb with
     | false =>
       have HE := hid (show r = none by rw [<- HLO.out,if_neg (by omega),if_pos (.inr (.inl rfl))])
       cases lb
       all_goals
        go_wp2_with fail
        refine HGO.out.mono ?_
        rintro e w3 ⟨rfl,hb3⟩
        have HB3 := hid (held_two HW2.out hb3)
        clear hb3
        go_wp2
        go_ret
        rw [HE.out]
        exact ⟨rfl,⟨_,HBR.out.new HB3.out⟩,HTR.out.trans (F' := T) (Turn.new HB3.out) fun _ hi => .inl hi⟩
     | true =>
       have HSGOK : Hid (SgOk (segOf x)) := by
        have hl2 : last (segOf x) <= 1099511627776 := by
         have := HGB.out
         unfold goesOn at this
         simp only [Bool.and_eq_true,decide_eq_true_eq] at this
         exact this.2
        rw [HSGO.out] at hl2 ⊢
        exact ⟨hid0,hid1,q1,hl2,by show rn <= _; omega,HQ5.out⟩
       cases lb with
       | true =>
         go_wp2_with fail
         refine HGO.out.mono ?_
         rintro e w3 ⟨rfl,hb3⟩
         have HBF := hid (held_two HW2.out hb3)
         have HB1F := hid (held_two HB12.out hb3)
         have HLBT := hid (of_decide_eq_true HLB.out)
         replace HX := hid (HX.out.below hb3 HX.out.lt)
         replace k0 := held_cell hb3 k0
         replace k1 := held_cell hb3 k1
         replace k2 := held_cell hb3 k2
         replace k3 := held_cell hb3 k3
         clear hb3 hW2 hs1
         have HNEW := hid (show r = WalMath.load f0 (j + 1) (acc ++ [segOf x]) (fs.drop (j + 1)) by
          rw [<- HLO.out,if_neg (by omega),if_neg]
          rintro (h | h | h)
          ·omega
          ·cases h
          ·have := HLBT.out; omega)
         have hlF := HLOG.out.new HBF.out
         obtain ⟨Al,nl,cl,qs,lp,hLF⟩ := hlF
         have hlenF := hLF.len
         have d0 := hLF.cells.1
         have HLF := hid hLF
         have hnl : nl <= 16384 := by have := HAC.out; rw [<- hlenF]; dsimp only; omega
         clear hLF hlenF
         go_wp2_with fail
         refine wp_region_last_at (S := fun w' => w'.cell? ⟨g,0,none⟩ = some (.slice Al nl cl) /\ w'.cell? ⟨s1,0,none⟩ = some (.int .i64 x.id) /\ w'.cell? ⟨s1,1,none⟩ = some (.int .i64 rx) /\ w'.cell? ⟨s1,2,none⟩ = some (.slice A1 rl c1) /\ w'.cell? ⟨s1,3,none⟩ = some (.int .i64 rn)) 12 _ rfl rfl (by kernel_rfl) (by kernel_rfl) (by kernel_rfl) ⟨d0,k0,k1,k2,k3⟩ (fun hHeld => ?_)
         simp only [List.take_succ_cons,List.take_zero]
         refine wpAnyH_take (i := 0) (v := ?av0) rfl (by kernel_rfl) (by kernel_rfl) (by kernel_rfl) (fun _ _ _ h => h) (Or.inl ⟨by rfl,?ay0⟩) (by assumption) ?ar0
         case ay0 => (intro w hSw; (try dsimp only at hSw); go_simp; try with_reducible rfl)
         try simp only [Act.put,Base.px]
         refine wpAnyH_take (i := 1) (v := ?av1) rfl (by kernel_rfl) (by kernel_rfl) (by kernel_rfl) (fun _ _ _ h => h) (Or.inl ⟨by rfl,?ay1⟩) (by assumption) ?ar1
         case ay1 => (intro w hSw; (try dsimp only at hSw); go_simp; try with_reducible rfl)
         try simp only [Act.put,Base.px]
         refine wpAnyH_take (i := 2) (v := ?av2) rfl (by kernel_rfl) (by kernel_rfl) (by kernel_rfl) (fun _ _ _ h => h) (Or.inl ⟨by rfl,?ay2⟩) (by assumption) ?ar2
         case ay2 => (intro w hSw; (try dsimp only at hSw); go_simp; try with_reducible rfl)
         try simp only [Act.put,Base.px]
         refine wpAnyH_take (i := 3) (v := ?av3) rfl (by kernel_rfl) (by kernel_rfl) (by kernel_rfl) (fun _ _ _ h => h) (Or.inl ⟨by rfl,?ay3⟩) (by assumption) ?ar3
         case ay3 => (intro w hSw; (try dsimp only at hSw); go_simp; try with_reducible rfl)
         try simp only [Act.put,Base.px]
         refine wpAnyH_take (i := 4) (v := ?av4) rfl (by kernel_rfl) (by kernel_rfl) (by kernel_rfl) (fun _ _ _ h => h) (Or.inl ⟨by rfl,?ay4⟩) (by assumption) ?ar4
         case ay4 => (intro w hSw; (try dsimp only at hSw); go_simp; try with_reducible rfl)
         try simp only [Act.put,Base.px]
         refine wpAnyH_take (i := 5) (v := ?av5) rfl (by kernel_rfl) (by kernel_rfl) (by kernel_rfl) (fun _ _ _ h => h) (Or.inl ⟨by rfl,?ay5⟩) (by assumption) ?ar5
         case ay5 => (intro w hSw; (try dsimp only at hSw); go_simp; try with_reducible rfl)
         try simp only [Act.put,Base.px]
         refine wpAnyH_take (i := 6) (v := ?av6) rfl (by kernel_rfl) (by kernel_rfl) (by kernel_rfl) (fun _ _ _ h => h) (Or.inl ⟨by rfl,?ay6⟩) (by assumption) ?ar6
         case ay6 => (intro w hSw; (try dsimp only at hSw); go_simp; try with_reducible rfl)
         try simp only [Act.put,Base.px]
         refine wpAnyH_ready (rs := [7]) (by kernel_rfl) (by simp) ?_
         refine AllReadyH.cons rfl (fun K hK => ?_) AllReadyH.nil
         go_simp
         have hb5 : Below w3.heap.size w3 (w3.drew.alloc (.cells #[.int .i64 x.id,.int .i64 rx,.slice A1 rl c1,.int .i64 rn] 172)) := (held_start w3).alloc (held_start w3).size _
         refine hK.out _ _ ⟨held_cell hb5 d0,held_cell hb5 k0,held_cell hb5 k1,held_cell hb5 k2,held_cell hb5 k3⟩ (fun hHeld => ?_)
         clear hK K
         try simp only [Act.put,Base.px]
         refine wpAnyH_ready (rs := [8]) (by kernel_rfl) (by simp) ?_
         refine AllReadyH.cons rfl (fun K hK => ?_) AllReadyH.nil
         have hL5 := (HLF.out.new hb5).mono (G' := fun i => G i \/ (wr.heap.size <= i /\ i < w3.heap.size)) fun i hi => .inl hi
         refine step_append_row (by rfl) (.tmp 63) (.tmp 65) (by rfl) sg 0 (.slice Al nl cl) nl (flat qs) (by rfl) hL5.2.2.2.1.1 (w3.drew.heap.size + 1) (some ⟨w3.heap.size,0,none⟩) 1 1 (sgv (segOf x,⟨A1,c1⟩)) (by rfl) (by rw [HSV.out]; exact Row.lit w3.drew #[.int .i64 x.id,.int .i64 rx,.slice A1 rl c1,.int .i64 rn] _ (0,0) rfl rfl (by omega)) (by have := sgv_one [(segOf x,⟨A1,c1⟩)]; rw [flat_cons] at this; simpa [flat] using this) (by omega) (by omega) (Nat.zero_le _) ?_
         intro A6 c6 v6 hown6 hg6 _
         have hEl : ListsIn (w3.drew.alloc (.cells #[.int .i64 x.id,.int .i64 rx,.slice A1 rl c1,.int .i64 rn] 172)) (fun i => G i \/ (wr.heap.size <= i /\ i < w3.heap.size)) A1 (segOf x).rows.length c1 (segOf x).rows := by
          rw [HRW.out,HRLN.out]
          have h1 := HLS.out.below HB1F.out
          have hlt : ∀ i,(wr.heap.size <= i /\ i < w1.heap.size) -> (G i \/ (wr.heap.size <= i /\ i < w3.heap.size)) := fun i hi => .inr ⟨hi.1,by have := HB1F.out.size; omega⟩
          exact ((ListsIn.exact HLS.out).below HB1F.out).below hb5 |>.mono hlt
         have hpush := hL5.push (s := segOf x) (q := ⟨A1,c1⟩) hown6 hg6 hEl (fun y hy => by
          cases hyr : y.2.row with
          | none => exact .inl rfl
          | some i =>
            refine .inr fun e => ?_
            have hlY := HLF.out.2.2.2.1.2.2.1 y hy
            have a := (HG.out i (ListsIn.row_lt hlY hyr).1).2
            have b := (ListsIn.row_lt HLS.out (b := i) e.symm).1
            omega)
         have htyp : ∀ (i : Nat) (cur : Array Value) (e : TypeId),e ≠ 172 -> w3.heap[i]? = some (.cells cur e (0,0)) -> v6.heap[i]? = w3.heap[i]? := fun i cur e hne hi =>
          (kept_type hg6.1 (fun b hb => own_type hL5.2.2.2.1.1 hb) hne ((hb5.block i (Array.getElem?_eq_some_iff.1 hi).1).trans hi)).trans hi.symm
         have hsb : v6.heap[s1]? = w3.heap[s1]? := by
          refine (hg6.1.block s1 (Nat.lt_of_lt_of_le HX.out.lt hb5.size) fun e => ?_).trans (hb5.block s1 HX.out.lt)
          have a := (HG.out s1 (HLF.out.2.2.2.1.2.1 s1 e.symm)).2
          have b := HS1.out
          omega
         have d6 : v6.cell? ⟨g,0,none⟩ = some (.slice Al nl cl) := (World.cell?_of_block (htyp g _ _ (by decide) HLF.out.2.1)).trans d0
         have z6 : v6.frozen? ⟨g,0,none⟩ = false := Blk.frozen (show Blk v6 g 107 _ from (htyp g _ _ (by decide) HLF.out.2.1).trans HLF.out.2.1) 0
         refine hK.out _ _ ⟨d6,(World.cell?_of_block hsb).trans k0,(World.cell?_of_block hsb).trans k1,(World.cell?_of_block hsb).trans k2,(World.cell?_of_block hsb).trans k3⟩ (fun hHeld => ?_)
         clear hK K
         try simp only [Act.put,Base.px]
         refine wpAnyH_take (i := 9) (v := ?bv9) rfl (by kernel_rfl) (by kernel_rfl) (by kernel_rfl) (fun _ _ _ h => h) (Or.inl ⟨by rfl,?by9⟩) (by assumption) ?br9
         case by9 => (intro w hSw; (try dsimp only at hSw); go_simp; try with_reducible rfl)
         try simp only [Act.put,Base.px]
         refine wpAnyH_take (i := 10) (v := ?bv10) rfl (by kernel_rfl) (by kernel_rfl) (by kernel_rfl) (fun _ _ _ h => h) (Or.inl ⟨by rfl,?by10⟩) (by assumption) ?br10
         case by10 => (intro w hSw; (try dsimp only at hSw); go_simp; try with_reducible rfl)
         try simp only [Act.put,Base.px]
         refine wpAnyH_take (i := 11) (v := ?bv11) rfl (by kernel_rfl) (by kernel_rfl) (by kernel_rfl) (fun _ _ _ h => h) (Or.inl ⟨by rfl,?by11⟩) (by assumption) ?br11
         case by11 => (intro w hSw; (try dsimp only at hSw); go_simp; try with_reducible rfl)
         try simp only [Act.put,Base.px]
         refine wpAnyH_done (by kernel_rfl) ?_ _
         refine then_normal rfl ?_
         have hbo := Both.log (T := T) (l' := { l with segs := acc ++ [segOf x] }) (HDK.out.new (HBF.out.trans (hb5.mono HBF.out.size))) (fun i hi => ⟨(HF.out i hi).1,Nat.lt_of_lt_of_le (HF.out i hi).2 (Nat.le_trans HBF.out.size hb5.size)⟩) (G := fun i => G i \/ (wr.heap.size <= i /\ i < w3.heap.size)) (fun i hi hg => by
          rcases hg with hg | hg
          ·exact HFG.out i hi hg
          ·have := (HF.out i hi).2
           omega) (fun i hi => by
          rcases hi with hi | hi
          ·exact ⟨(HG.out i hi).1,Nat.lt_of_lt_of_le (HG.out i hi).2 (Nat.le_trans HBF.out.size hb5.size)⟩
          ·exact ⟨HT.out i (Nat.le_trans HTR.out.size hi.1),Nat.lt_of_lt_of_le hi.2 hb5.size⟩) (HT.out.le (Nat.le_trans HTR.out.size (Nat.le_trans HBF.out.size hb5.size))) hpush.2 ⟨_,_,_,_,_,hpush.1⟩ (fun i hi => Foot.Out.mono (by simp) hi)
         have HB7 := hid hbo.1
         have HT7 := hid (HTR.out.trans (F' := T) ((Turn.new (F := T) (HBF.out.trans (hb5.mono HBF.out.size))).trans hbo.2 fun _ hi => .inl hi) fun _ hi => .inl hi)
         clear hpush hL5 hown6 hg6 hb5 hEl hbo htyp hsb hHeld d0 k0 k1 k2 k3 HLF
         go_wp2
         go_roundw
         case rel => exact ⟨j + 1,acc ++ [segOf x],by omega,by go_num,HNEW.out.symm,by rw [List.length_append,HAC.out]; rfl,HB7.out,fun s hs => by
          rcases List.mem_append.1 hs with hs | hs
          ·exact HOK.out s hs
          ·rw [List.mem_singleton] at hs
           subst hs
           exact HSGOK.out,HT7.out⟩
         case measure => simp [RowKit.intOf]; omega
       | false =>
         have hiw := fun w' (hb : Below wr.heap.size wr w') => iswhole_any F G g gd { l with segs := acc } d x.id rx A1 rl c1 rn x.b.length w' (HLOG.out.new hb) (HDK.out.new hb) ⟨by omega,by omega⟩ (size_of HSK.out)
         have HIW := hid hiw
         clear hiw
         generalize hwb : (decide (0 < rl) && !decide (rn < x.b.length)) = wb at *
         have HWB : Hid (isWhole (segOf x) x.b.length = wb) := hid (by rw [<- hwb,HSGO.out,isWhole]; dsimp only; rw [HRLN.out])
         clear hwb
         have HLBF := hid (of_decide_eq_false HLB.out)
         cases wb with
         | false =>
           have HE := hid (show r = none by rw [<- HLO.out,if_neg (by omega),if_pos (.inr (.inr ⟨HLBF.out,HWB.out⟩))])
           go_wp2_with fail
           refine HGO.out.mono ?_
           rintro e w3 ⟨rfl,hb3⟩
           have HBF := hid (held_two HW2.out hb3)
           replace k0 := held_cell hb3 k0
           replace k1 := held_cell hb3 k1
           replace k2 := held_cell hb3 k2
           replace k3 := held_cell hb3 k3
           clear hb3 hW2 hs1
           go_wp2_with fail
           refine (HIW.out _ HBF.out).mono ?_
           rintro e w4 ⟨rfl,hb4⟩
           have HB4 := hid (held_two HBF.out hb4)
           clear hb4
           go_wp2
           go_ret
           rw [HE.out]
           exact ⟨rfl,⟨_,HBR.out.new HB4.out⟩,HTR.out.trans (F' := T) (Turn.new HB4.out) fun _ hi => .inl hi⟩
         | true =>
           go_wp2_with fail
           refine HGO.out.mono ?_
           rintro e w3 ⟨rfl,hb3⟩
           have HB3 := hid (held_two HW2.out hb3)
           replace k0 := held_cell hb3 k0
           replace k1 := held_cell hb3 k1
           replace k2 := held_cell hb3 k2
           replace k3 := held_cell hb3 k3
           have HB13 := hid (held_two HB12.out hb3)
           replace HX := hid (HX.out.below hb3 HX.out.lt)
           clear hb3 hW2 hs1
           go_wp2_with fail
           refine (HIW.out _ HB3.out).mono ?_
           rintro e w4 ⟨rfl,hb4⟩
           have HBF := hid (held_two HB3.out hb4)
           have HB1F := hid (held_two HB13.out hb4)
           replace k0 := held_cell hb4 k0
           replace k1 := held_cell hb4 k1
           replace k2 := held_cell hb4 k2
           replace k3 := held_cell hb4 k3
           replace HX := hid (HX.out.below hb4 HX.out.lt)
           clear hb4
           have HNEW := hid (show r = WalMath.load f0 (j + 1) (acc ++ [segOf x]) (fs.drop (j + 1)) by
            rw [<- HLO.out,if_neg (by omega),if_neg]
            rintro (h | h | h)
            ·omega
            ·cases h
            ·rw [HWB.out] at h; exact absurd h.2 (by simp))
           have hlF := HLOG.out.new HBF.out
           obtain ⟨Al,nl,cl,qs,lp,hLF⟩ := hlF
           have hlenF := hLF.len
           have d0 := hLF.cells.1
           have HLF := hid hLF
           have hnl : nl <= 16384 := by have := HAC.out; rw [<- hlenF]; dsimp only; omega
           clear hLF hlenF
           go_wp2_with fail
           refine wp_region_last_at (S := fun w' => w'.cell? ⟨g,0,none⟩ = some (.slice Al nl cl) /\ w'.cell? ⟨s1,0,none⟩ = some (.int .i64 x.id) /\ w'.cell? ⟨s1,1,none⟩ = some (.int .i64 rx) /\ w'.cell? ⟨s1,2,none⟩ = some (.slice A1 rl c1) /\ w'.cell? ⟨s1,3,none⟩ = some (.int .i64 rn)) 12 _ rfl rfl (by kernel_rfl) (by kernel_rfl) (by kernel_rfl) ⟨d0,k0,k1,k2,k3⟩ (fun hHeld => ?_)
           simp only [List.take_succ_cons,List.take_zero]
           refine wpAnyH_take (i := 0) (v := ?cv0) rfl (by kernel_rfl) (by kernel_rfl) (by kernel_rfl) (fun _ _ _ h => h) (Or.inl ⟨by rfl,?cy0⟩) (by assumption) ?cr0
           case cy0 => (intro w hSw; (try dsimp only at hSw); go_simp; try with_reducible rfl)
           try simp only [Act.put,Base.px]
           refine wpAnyH_take (i := 1) (v := ?cv1) rfl (by kernel_rfl) (by kernel_rfl) (by kernel_rfl) (fun _ _ _ h => h) (Or.inl ⟨by rfl,?cy1⟩) (by assumption) ?cr1
           case cy1 => (intro w hSw; (try dsimp only at hSw); go_simp; try with_reducible rfl)
           try simp only [Act.put,Base.px]
           refine wpAnyH_take (i := 2) (v := ?cv2) rfl (by kernel_rfl) (by kernel_rfl) (by kernel_rfl) (fun _ _ _ h => h) (Or.inl ⟨by rfl,?cy2⟩) (by assumption) ?cr2
           case cy2 => (intro w hSw; (try dsimp only at hSw); go_simp; try with_reducible rfl)
           try simp only [Act.put,Base.px]
           refine wpAnyH_take (i := 3) (v := ?cv3) rfl (by kernel_rfl) (by kernel_rfl) (by kernel_rfl) (fun _ _ _ h => h) (Or.inl ⟨by rfl,?cy3⟩) (by assumption) ?cr3
           case cy3 => (intro w hSw; (try dsimp only at hSw); go_simp; try with_reducible rfl)
           try simp only [Act.put,Base.px]
           refine wpAnyH_take (i := 4) (v := ?cv4) rfl (by kernel_rfl) (by kernel_rfl) (by kernel_rfl) (fun _ _ _ h => h) (Or.inl ⟨by rfl,?cy4⟩) (by assumption) ?cr4
           case cy4 => (intro w hSw; (try dsimp only at hSw); go_simp; try with_reducible rfl)
           try simp only [Act.put,Base.px]
           refine wpAnyH_take (i := 5) (v := ?cv5) rfl (by kernel_rfl) (by kernel_rfl) (by kernel_rfl) (fun _ _ _ h => h) (Or.inl ⟨by rfl,?cy5⟩) (by assumption) ?cr5
           case cy5 => (intro w hSw; (try dsimp only at hSw); go_simp; try with_reducible rfl)
           try simp only [Act.put,Base.px]
           refine wpAnyH_take (i := 6) (v := ?cv6) rfl (by kernel_rfl) (by kernel_rfl) (by kernel_rfl) (fun _ _ _ h => h) (Or.inl ⟨by rfl,?cy6⟩) (by assumption) ?cr6
           case cy6 => (intro w hSw; (try dsimp only at hSw); go_simp; try with_reducible rfl)
           try simp only [Act.put,Base.px]
           refine wpAnyH_ready (rs := [7]) (by kernel_rfl) (by simp) ?_
           refine AllReadyH.cons rfl (fun K hK => ?_) AllReadyH.nil
           go_simp
           have hb5 : Below w4.heap.size w4 (w4.drew.alloc (.cells #[.int .i64 x.id,.int .i64 rx,.slice A1 rl c1,.int .i64 rn] 172)) := (held_start w4).alloc (held_start w4).size _
           refine hK.out _ _ ⟨held_cell hb5 d0,held_cell hb5 k0,held_cell hb5 k1,held_cell hb5 k2,held_cell hb5 k3⟩ (fun hHeld => ?_)
           clear hK K
           try simp only [Act.put,Base.px]
           refine wpAnyH_ready (rs := [8]) (by kernel_rfl) (by simp) ?_
           refine AllReadyH.cons rfl (fun K hK => ?_) AllReadyH.nil
           have hL5 := (HLF.out.new hb5).mono (G' := fun i => G i \/ (wr.heap.size <= i /\ i < w4.heap.size)) fun i hi => .inl hi
           refine step_append_row (by rfl) (.tmp 63) (.tmp 65) (by rfl) sg 0 (.slice Al nl cl) nl (flat qs) (by rfl) hL5.2.2.2.1.1 (w4.drew.heap.size + 1) (some ⟨w4.heap.size,0,none⟩) 1 1 (sgv (segOf x,⟨A1,c1⟩)) (by rfl) (by rw [HSV.out]; exact Row.lit w4.drew #[.int .i64 x.id,.int .i64 rx,.slice A1 rl c1,.int .i64 rn] _ (0,0) rfl rfl (by omega)) (by have := sgv_one [(segOf x,⟨A1,c1⟩)]; rw [flat_cons] at this; simpa [flat] using this) (by omega) (by omega) (Nat.zero_le _) ?_
           intro A6 c6 v6 hown6 hg6 _
           have hEl : ListsIn (w4.drew.alloc (.cells #[.int .i64 x.id,.int .i64 rx,.slice A1 rl c1,.int .i64 rn] 172)) (fun i => G i \/ (wr.heap.size <= i /\ i < w4.heap.size)) A1 (segOf x).rows.length c1 (segOf x).rows := by
            rw [HRW.out,HRLN.out]
            have h1 := HLS.out.below HB1F.out
            have hlt : ∀ i,(wr.heap.size <= i /\ i < w1.heap.size) -> (G i \/ (wr.heap.size <= i /\ i < w4.heap.size)) := fun i hi => .inr ⟨hi.1,by have := HB1F.out.size; omega⟩
            exact ((ListsIn.exact HLS.out).below HB1F.out).below hb5 |>.mono hlt
           have hpush := hL5.push (s := segOf x) (q := ⟨A1,c1⟩) hown6 hg6 hEl (fun y hy => by
            cases hyr : y.2.row with
            | none => exact .inl rfl
            | some i =>
              refine .inr fun e => ?_
              have hlY := HLF.out.2.2.2.1.2.2.1 y hy
              have a := (HG.out i (ListsIn.row_lt hlY hyr).1).2
              have b := (ListsIn.row_lt HLS.out (b := i) e.symm).1
              omega)
           have htyp : ∀ (i : Nat) (cur : Array Value) (e : TypeId),e ≠ 172 -> w4.heap[i]? = some (.cells cur e (0,0)) -> v6.heap[i]? = w4.heap[i]? := fun i cur e hne hi =>
            (kept_type hg6.1 (fun b hb => own_type hL5.2.2.2.1.1 hb) hne ((hb5.block i (Array.getElem?_eq_some_iff.1 hi).1).trans hi)).trans hi.symm
           have hsb : v6.heap[s1]? = w4.heap[s1]? := by
            refine (hg6.1.block s1 (Nat.lt_of_lt_of_le HX.out.lt hb5.size) fun e => ?_).trans (hb5.block s1 HX.out.lt)
            have a := (HG.out s1 (HLF.out.2.2.2.1.2.1 s1 e.symm)).2
            have b := HS1.out
            omega
           have d6 : v6.cell? ⟨g,0,none⟩ = some (.slice Al nl cl) := (World.cell?_of_block (htyp g _ _ (by decide) HLF.out.2.1)).trans d0
           have z6 : v6.frozen? ⟨g,0,none⟩ = false := Blk.frozen (show Blk v6 g 107 _ from (htyp g _ _ (by decide) HLF.out.2.1).trans HLF.out.2.1) 0
           refine hK.out _ _ ⟨d6,(World.cell?_of_block hsb).trans k0,(World.cell?_of_block hsb).trans k1,(World.cell?_of_block hsb).trans k2,(World.cell?_of_block hsb).trans k3⟩ (fun hHeld => ?_)
           clear hK K
           try simp only [Act.put,Base.px]
           refine wpAnyH_take (i := 9) (v := ?dv9) rfl (by kernel_rfl) (by kernel_rfl) (by kernel_rfl) (fun _ _ _ h => h) (Or.inl ⟨by rfl,?dy9⟩) (by assumption) ?dr9
           case dy9 => (intro w hSw; (try dsimp only at hSw); go_simp; try with_reducible rfl)
           try simp only [Act.put,Base.px]
           refine wpAnyH_take (i := 10) (v := ?dv10) rfl (by kernel_rfl) (by kernel_rfl) (by kernel_rfl) (fun _ _ _ h => h) (Or.inl ⟨by rfl,?dy10⟩) (by assumption) ?dr10
           case dy10 => (intro w hSw; (try dsimp only at hSw); go_simp; try with_reducible rfl)
           try simp only [Act.put,Base.px]
           refine wpAnyH_take (i := 11) (v := ?dv11) rfl (by kernel_rfl) (by kernel_rfl) (by kernel_rfl) (fun _ _ _ h => h) (Or.inl ⟨by rfl,?dy11⟩) (by assumption) ?dr11
           case dy11 => (intro w hSw; (try dsimp only at hSw); go_simp; try with_reducible rfl)
           try simp only [Act.put,Base.px]
           refine wpAnyH_done (by kernel_rfl) ?_ _
           refine then_normal rfl ?_
           have hbo := Both.log (T := T) (l' := { l with segs := acc ++ [segOf x] }) (HDK.out.new (HBF.out.trans (hb5.mono HBF.out.size))) (fun i hi => ⟨(HF.out i hi).1,Nat.lt_of_lt_of_le (HF.out i hi).2 (Nat.le_trans HBF.out.size hb5.size)⟩) (G := fun i => G i \/ (wr.heap.size <= i /\ i < w4.heap.size)) (fun i hi hg => by
            rcases hg with hg | hg
            ·exact HFG.out i hi hg
            ·have := (HF.out i hi).2
             omega) (fun i hi => by
            rcases hi with hi | hi
            ·exact ⟨(HG.out i hi).1,Nat.lt_of_lt_of_le (HG.out i hi).2 (Nat.le_trans HBF.out.size hb5.size)⟩
            ·exact ⟨HT.out i (Nat.le_trans HTR.out.size hi.1),Nat.lt_of_lt_of_le hi.2 hb5.size⟩) (HT.out.le (Nat.le_trans HTR.out.size (Nat.le_trans HBF.out.size hb5.size))) hpush.2 ⟨_,_,_,_,_,hpush.1⟩ (fun i hi => Foot.Out.mono (by simp) hi)
           have HB7 := hid hbo.1
           have HT7 := hid (HTR.out.trans (F' := T) ((Turn.new (F := T) (HBF.out.trans (hb5.mono HBF.out.size))).trans hbo.2 fun _ hi => .inl hi) fun _ hi => .inl hi)
           clear hpush hL5 hown6 hg6 hb5 hEl hbo htyp hsb hHeld d0 k0 k1 k2 k3 HLF
           go_wp2
           go_roundw
           case rel => exact ⟨j + 1,acc ++ [segOf x],by omega,by go_num,HNEW.out.symm,by rw [List.length_append,HAC.out]; rfl,HB7.out,fun s hs => by
            rcases List.mem_append.1 hs with hs | hs
            ·exact HOK.out s hs
            ·rw [List.mem_singleton] at hs
             subst hs
             exact HSGOK.out,HT7.out⟩
           case measure => simp [RowKit.intOf]; omega
    ·have hne2 : ((re : Int) != 0) = true := by simp; omega
     cases lb with
     | true =>
       have HE := hid (show r = some acc by rw [<- HLO.out,if_pos ⟨of_decide_eq_true HLB.out,hre⟩])
       clear hre
       go_wp2
       go_ret
       rw [HE.out]
       exact ⟨rfl,HBR.out.new HW2.out,HOK.out,HTR.out.trans (F' := T) (Turn.new HW2.out) fun _ hi => .inl hi⟩
     | false =>
       have HE := hid (show r = none by rw [<- HLO.out,if_neg (fun h => of_decide_eq_false HLB.out h.1),if_pos (.inl hre)])
       clear hre
       go_wp2
       go_ret
       rw [HE.out]
       exact ⟨rfl,⟨_,HBR.out.new HW2.out⟩,HTR.out.trans (F' := T) (Turn.new HW2.out) fun _ hi => .inl hi⟩
   ·have hne : (x.id != f0 + j) = true := by simpa using hidf
    have HE := hid (show r = none by rw [<- HLOAD.out,if_pos (by simpa using hidf)])
    clear hidf HLOAD
    go_wp2
    go_ret
    rw [HE.out]
    exact ⟨rfl,⟨_,HBR.out⟩,HTR.out⟩
  ·obtain rfl : j = n := by omega
   have HE := hid (show r = some acc by rw [<- hload,List.drop_eq_nil_of_le (by rw [HFN.out]; exact Nat.le_refl _)]; rfl)
   have HBR := hid hboth
   have HOK := hid hok
   have HTR := hid hturn
   clear hload hboth hok hturn
   go_wp2
   go_ret
   rw [HE.out]
   exact ⟨rfl,HBR.out,HOK.out,HTR.out⟩
end Wal
end Go.Proofs.YtefnmnpfecfdaaaGreat
