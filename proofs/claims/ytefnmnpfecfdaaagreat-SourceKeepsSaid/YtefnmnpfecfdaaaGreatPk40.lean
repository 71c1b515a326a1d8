/-
  Texts of one proof: DiskCrash, WalBase, WalLaw, WalDelete, WalTrim.
-/
import Derived.Test.YtefnmnpfecfdaaaGreatPk39
set_option linter.all false
set_option maxRecDepth 100000
set_option maxHeartbeats 3200000
open Go.Lib (hid)
namespace Go.Proofs.YtefnmnpfecfdaaaGreat
namespace Disk
open Go.RowKit Base DiskMath Foot
theorem settle_nat (F : Nat -> Prop) (x : Fl) (q : Pl) (k : Nat) (w : World) (h : FileAt w F x q) (hs : x.safe <= x.b.length) (hn : x.b.length <= 140737488355328) (hk : (k : Int) <= 9223372036854775807) :
 Calls Tryz.prog 47 #[.pointer (some ⟨q.p,0,none⟩),.int .i64 k] w fun e w' => e = .returned (.tuple #[]) /\ FileAt w' F (setl k x) q /\ w.grownBy w' (some q.p) := by
 have c0 : w.cell? ⟨q.p,0,none⟩ = some (.slice q.A x.b.length q.c) := Blk.cell h.1 0
 have c1 : w.cell? ⟨q.p,1,none⟩ = some (.int .i64 x.safe) := Blk.cell h.1 1
 have HF := hid h
 have hkp := keeps_le k x hs
 have HKE := hid (show keeps k x = x.safe + k % (x.b.length - x.safe + 1) by rw [keeps,Int.toNat_natCast])
 clear h
 obtain ⟨p,A,c⟩ := q
 dsimp only at c0 c1
 generalize hj : keeps k x = j at hkp HKE
 generalize hl : x.b.length = n at c0 hs hn hkp HKE
 generalize hsf : x.safe = s at c1 hs hkp HKE
 have HJ := hid hj
 have HL := hid hl
 have HSF := hid hsf
 clear hj hl hsf
 go_enter Tryz.func47,Tryz.ntmps47
 go_wp2
 go_quiet (fail)
 generalize hw0 : w.drewN nq = w0
 have HW0 := hid hw0
 clear hw0
 have HF0 : Hid (FileAt w0 F x ⟨p,A,c⟩) := by rw [<- HW0.out]; exact HF.out
 have c0' : w0.cell? ⟨p,0,none⟩ = some (.slice A n c) := by rw [<- HW0.out]; exact c0
 have c1' : w0.cell? ⟨p,1,none⟩ = some (.int .i64 s) := by rw [<- HW0.out]; exact c1
 obtain ⟨v,hv⟩ : ∃ v : Int,v = (n : Int) - s + 1 := ⟨_,rfl⟩
 have hwr : IntKind.i64.wrap ((n : Int) - s + 1) = v := by rw [<- hv]; exact IntWalk.i64_in _ (by omega)
 obtain ⟨r,hr⟩ : ∃ r : Nat,r = k % (n - s + 1) := ⟨_,rfl⟩
 have hrl : r < n - s + 1 := by rw [hr]; exact Nat.mod_lt _ (by omega)
 have htm : (k : Int).tmod v = (r : Int) := by
  rw [hv,show (n : Int) - s + 1 = ((n - s + 1 : Nat) : Int) by omega,hr]
  exact (Int.tmod_eq_emod_of_nonneg (by omega)).trans (Int.natCast_emod k (n - s + 1)).symm
 have hjr : j = s + r := by rw [HKE.out,hr]
 have hw1 : IntKind.i64.wrap (r : Int) = (r : Int) := IntWalk.i64_in _ (by omega)
 have hw2 : IntKind.i64.wrap ((s : Int) + r) = (j : Int) := by rw [hjr]; rw [IntWalk.i64_in _ (by omega)]; simp
 have hv0 : ¬ v = 0 := by omega
 have hv1 : (v == 0) = false := by simp; omega
 clear hr hrl hjr hv
 go_wp2
 go_still_tail 11,(by kernel_rfl)
 go_wp2_with fail
 clear hwr htm hw1 hw2 hv1 hv0
 refine (fcut_any F x ⟨p,A,c⟩ j _ (by exact HF0.out) (by rw [HL.out]; exact hkp.2)).mono ?_
 rintro e w2 ⟨rfl,hf2,hg2⟩
 have hl2 : (trim j x).b.length = j := by
  show (x.b.take j).length = j
  rw [take_len (by rw [HL.out]; exact hkp.2)]
 have k0 : w2.cell? ⟨p,0,none⟩ = some (.slice A j c) := by
  have := Blk.cell hf2.1 0
  rw [hl2] at this
  exact this
 have k1 : w2.cell? ⟨p,1,none⟩ = some (.int .i64 (trim j x).safe) := Blk.cell hf2.1 1
 have z1 := Blk.frozen hf2.1 1
 have HD : Hid (FileAt (w2.setCell ⟨p,1,none⟩ (.int .i64 j)) F (setl k x) ⟨p,A,c⟩) := by
  obtain ⟨h1,h2,h3,h4⟩ := hf2
  refine ⟨?_,h2,?_,h4⟩
  ·have := Blk.set_ h1 1 (.int .i64 j)
   unfold setl
   rw [HJ.out]
   exact this
  ·have e : (setl k x).b = (trim j x).b := by unfold setl trim; rw [HJ.out]
   rw [e]
   refine own_same h3 fun g hg => Below.heap_setCell _ _ _ _ fun e => ?_
   obtain ⟨cur,hcur⟩ := own_type h3 hg
   unfold Blk at h1
   dsimp only at e h1
   rw [<- e,hcur] at h1
   cases h1
 have HG : Hid (w.grownBy (w2.setCell ⟨p,1,none⟩ (.int .i64 j)) (some p)) := by
  refine only_set ?_ _ _
  have hg0 : w.grownBy w0 (some p) := by rw [<- HW0.out]; exact only_drewN (World.grownBy.refl _ _) nq
  exact only_trans hg0 (only_of_drew hg2) (.inl rfl)
 clear hf2 hg2 hl2
 generalize (trim j x).safe = s2 at k1
 go_wp2
 go_end0
 exact ⟨rfl,HD.out,HG.out⟩
theorem settle_neg (F : Nat -> Prop) (x : Fl) (q : Pl) (k : Int) (w : World) (h : FileAt w F x q) (hs : x.safe <= x.b.length) (hn : x.b.length <= 140737488355328) (hk : k < 0) :
 Calls Tryz.prog 47 #[.pointer (some ⟨q.p,0,none⟩),.int .i64 k] w fun e w' => e = .returned (.tuple #[]) /\ FileAt w' F (setl k x) q /\ w.grownBy w' (some q.p) := by
 have c0 : w.cell? ⟨q.p,0,none⟩ = some (.slice q.A x.b.length q.c) := Blk.cell h.1 0
 have c1 : w.cell? ⟨q.p,1,none⟩ = some (.int .i64 x.safe) := Blk.cell h.1 1
 have HF := hid h
 have hkp := keeps_le k x hs
 have HKE := hid (show keeps k x = x.safe by rw [keeps,show k.toNat = 0 by omega,Nat.zero_mod]; rfl)
 clear h
 obtain ⟨p,A,c⟩ := q
 dsimp only at c0 c1
 generalize hj : keeps k x = j at hkp HKE
 generalize hl : x.b.length = n at c0 hs hn hkp HKE
 generalize hsf : x.safe = s at c1 hs hkp HKE
 have HJ := hid hj
 have HL := hid hl
 have HSF := hid hsf
 clear hj hl hsf
 go_enter Tryz.func47,Tryz.ntmps47
 go_wp2
 go_quiet (fail)
 generalize hw0 : w.drewN nq = w0
 have HW0 := hid hw0
 clear hw0
 have HF0 : Hid (FileAt w0 F x ⟨p,A,c⟩) := by rw [<- HW0.out]; exact HF.out
 have c0' : w0.cell? ⟨p,0,none⟩ = some (.slice A n c) := by rw [<- HW0.out]; exact c0
 have c1' : w0.cell? ⟨p,1,none⟩ = some (.int .i64 s) := by rw [<- HW0.out]; exact c1
 obtain ⟨v,hv⟩ : ∃ v : Int,v = (n : Int) - s + 1 := ⟨_,rfl⟩
 have hwr : IntKind.i64.wrap ((n : Int) - s + 1) = v := by rw [<- hv]; exact IntWalk.i64_in _ (by omega)
 have hw2 : IntKind.i64.wrap (s : Int) = (s : Int) := IntWalk.i64_in _ (by omega)
 have hv0 : ¬ v = 0 := by omega
 have hv1 : (v == 0) = false := by simp; omega
 have hmx : max k 0 = 0 := by omega
 have htm : (0 : Int).tmod v = 0 := Int.zero_tmod v
 obtain rfl : j = s := HKE.out
 clear hv
 go_wp2
 go_still_tail 11,(by kernel_rfl)
 go_wp2_with fail
 clear hwr htm hmx hw2 hv1 hv0
 refine (fcut_any F x ⟨p,A,c⟩ j _ (by exact HF0.out) (by rw [HL.out]; exact hkp.2)).mono ?_
 rintro e w2 ⟨rfl,hf2,hg2⟩
 have hl2 : (trim j x).b.length = j := by
  show (x.b.take j).length = j
  rw [take_len (by rw [HL.out]; exact hkp.2)]
 have k0 : w2.cell? ⟨p,0,none⟩ = some (.slice A j c) := by
  have := Blk.cell hf2.1 0
  rw [hl2] at this
  exact this
 have k1 : w2.cell? ⟨p,1,none⟩ = some (.int .i64 (trim j x).safe) := Blk.cell hf2.1 1
 have z1 := Blk.frozen hf2.1 1
 have HD : Hid (FileAt (w2.setCell ⟨p,1,none⟩ (.int .i64 j)) F (setl k x) ⟨p,A,c⟩) := by
  obtain ⟨h1,h2,h3,h4⟩ := hf2
  refine ⟨?_,h2,?_,h4⟩
  ·have := Blk.set_ h1 1 (.int .i64 j)
   unfold setl
   rw [HJ.out]
   exact this
  ·have e : (setl k x).b = (trim j x).b := by unfold setl trim; rw [HJ.out]
   rw [e]
   refine own_same h3 fun g hg => Below.heap_setCell _ _ _ _ fun e => ?_
   obtain ⟨cur,hcur⟩ := own_type h3 hg
   unfold Blk at h1
   dsimp only at e h1
   rw [<- e,hcur] at h1
   cases h1
 have HG : Hid (w.grownBy (w2.setCell ⟨p,1,none⟩ (.int .i64 j)) (some p)) := by
  refine only_set ?_ _ _
  have hg0 : w.grownBy w0 (some p) := by rw [<- HW0.out]; exact only_drewN (World.grownBy.refl _ _) nq
  exact only_trans hg0 (only_of_drew hg2) (.inl rfl)
 clear hf2 hg2 hl2
 generalize (trim j x).safe = s2 at k1
 go_wp2
 go_end0
 exact ⟨rfl,HD.out,HG.out⟩
theorem settle_any (F : Nat -> Prop) (x : Fl) (q : Pl) (k : Int) (w : World) (h : FileAt w F x q) (hs : x.safe <= x.b.length) (hn : x.b.length <= 140737488355328) (hk : I64 k) :
 Calls Tryz.prog 47 #[.pointer (some ⟨q.p,0,none⟩),.int .i64 k] w fun e w' => e = .returned (.tuple #[]) /\ FileAt w' F (setl k x) q /\ w.grownBy w' (some q.p) := by
 by_cases h0 : 0 <= k
 ·obtain ⟨j,rfl⟩ := Int.eq_ofNat_of_zero_le h0
  exact settle_nat F x q j w h hs hn hk.2
 ·exact settle_neg F x q k w h hs hn (by omega)
theorem DiskAt.exact {F : Nat -> Prop} {w : World} {g : Nat} {d : Dk} (h : DiskAt F w g d) : DiskAt (fun i => F i /\ i < w.heap.size) w g d := by
 obtain ⟨m,pl,h1,h2,h3⟩ := h
 refine ⟨m,pl,h1,⟨h2,Blk.lt h1⟩,⟨h3.1,map_lt h3⟩,h3.2.1,⟨fun x hx => ?_,h3.2.2.1.2⟩,h3.2.2.2⟩
 obtain ⟨a,b,c,e⟩ := h3.2.2.1.1 x hx
 refine ⟨a,⟨b,Blk.lt a⟩,c,fun k hk => ⟨e k hk,?_⟩⟩
 obtain ⟨cur,hcur⟩ := own_type c (g := k) (by rw [row_own]; exact hk)
 exact (Array.getElem?_eq_some_iff.1 hcur).1
theorem settled {F : Nat -> Prop} {w w' : World} {g m : Nat} {pl : Int -> Pl} {d : Dk} {f : Int} {x : Fl} {t : Fl -> Fl} (hh : Head w g d m) (hg : F g) (hb : Body w F d.files m pl) (hx : seek d.files f = some x)
 (ht : ∀ x,(t x).id = x.id) (hs : ∀ x,x.safe <= x.b.length -> (t x).safe <= (t x).b.length) (hq : FileAt w' F (t x) (pl f)) (h2 : w.grownBy w' (some (pl f).p)) : DiskAt F w' g { d with files := put d.files f t } /\ Turn F w w' := by
 have hX := hb.2.2.1.1 x (seek_mem hx).1
 rw [(seek_mem hx).2] at hX
 have hgp : g ≠ (pl f).p := fun e => by
  have a := hX.1
  unfold Blk at a
  unfold Head Blk at hh
  rw [<- e,hh] at a
  cases a
 refine ⟨⟨m,upd pl f (pl f),(h2.block g (Blk.lt hh) fun e => hgp (by injection e)).trans hh,hg,?_⟩,?_⟩
 ·exact hb.turn hx ht hs (fun i hi hp _ => h2.block i hi fun e => hp (by injection e)) hq rfl (.inl rfl) fun _ hi => hi
 ·exact Turn.grown (F := F) h2 fun k e => by injection e with e; rw [<- e]; exact hX.2.1
theorem crash_any (F : Nat -> Prop) (g : Nat) (d : Dk) (B : Nat) (A : Option Addr) (n c : Nat) (ks : List Int) (w : World) (h : DiskAt F w g d) (hF : ∀ i,F i -> i < w.heap.size) (hr : Row w B 1 A n c (iv ks)) (hB : B <= w.heap.size) (hA : 0 < n -> ∀ a,A = some a -> ¬ F a.block)
 (hk : ∀ k,I64 (ks.getD k 0)) (hsz : ∀ x ∈ d.files,x.b.length <= 140737488355328) :
 Calls Tryz.prog 16 #[.pointer (some ⟨g,0,none⟩),.slice A n c] w (Armed F w g (crash d ks)) := by
 have hle := hr.le
 have hup := h.up
 have HD := hid h
 have HR := hid hr
 have HA := hid hA
 have HK := hid hk
 have HS := hid hsz
 have HF := hid hF
 have HU := hid hup
 have hlen := hup.le
 clear h hr hA hk hsz hup hF
 go_enter Tryz.func16,Tryz.ntmps16
 go_wp2_with fail
 refine (files_any F g d w HD.out).mono ?_
 rintro e w1 ⟨A1,c1,rfl,hown1,hb1⟩
 rw [List.length_map] at *
 have HO1 := hid hown1
 have HB1 := hid hb1
 have HR1 : Hid (Row w1 w1.heap.size 1 A1 d.files.length c1 (iv (d.files.map (·.id)))) := Row.of_own hown1
 have hle1 := HR1.out.le
 clear hown1 hb1
 generalize hN : d.files.length = N at *
 have HN := hid hN
 clear hN
 go_wp2
 go_loopw [10] (fun i wr => ∃ k : Nat,k <= N /\ i = .int .i64 k /\ DiskAt F wr g { d with files := crashTo d.files ks k } /\ Turn F w1 wr) (fun i _ => N - (RowKit.intOf i).toNat)
 case atStart =>
  refine ⟨0,by omega,rfl,?_,Turn.refl _ _⟩
  rw [crashTo_zero]
  exact HD.out.new HB1.out
 case round =>
  obtain ⟨k,hk,rfl,hd,ht⟩ := hrel
  by_cases hlt : k < N
  ·have hkl : k < d.files.length := by rw [HN.out]; exact hlt
   obtain ⟨x,hx⟩ : ∃ x,d.files[k]? = some x := ⟨_,List.getElem?_eq_getElem hkl⟩
   have hxm := List.mem_of_getElem? hx
   have hsk : seek (crashTo d.files ks k) x.id = some x := seek_of (crashTo_up ks k HU.out) (List.mem_of_getElem? ((crashTo_get d.files ks hkl).trans hx))
   have hub := HU.out.mem x hxm
   have hI : I64 x.id := ⟨by omega,by omega⟩
   obtain ⟨m,pl,hh,hg,hb⟩ := hd
   have hl := hb.finds hI.wf
   dsimp only at hl
   rw [hsk,Option.map_some] at hl
   have hX := hb.2.2.1.1 x (seek_mem hsk).1
   have c3 := hh.cells.2.2.2
   obtain ⟨b1,o1,rfl,hb1,hc1⟩ := Row.num HR1.out hlt
   have hnew : ¬ F b1 := fun hf => by
    have a := HF.out b1 hf
    have b := (HO1.out.lt b1 rfl).1
    omega
   have hcell1 : wr.cell? ⟨b1,o1 + k,none⟩ = some (.int .i64 x.id) := by
    rw [ht.cell (p := ⟨b1,o1 + k,none⟩) hb1 hnew,hc1,List.getD_eq_getElem?_getD,List.getElem?_map,hx]
    rfl
   have HX := hid hx
   have HSK := hid hsk
   have HH := hid hh
   have HBd := hid hb
   have HFl := hid hX
   have HT := hid ht
   have hs := hub.2.2
   have hn := HS.out x hxm
   clear hx hsk hh hb hX ht hc1 hxm hub hkl hnew hb1
   have HE := hid (crashTo_succ (x := x) ks HU.out HX.out)
   have HI := hid (HK.out k)
   have fin : Hid (∀ (w2 : World),FileAt w2 F (setl (ks.getD k 0) x) (pl x.id) -> wr.grownBy w2 (some (pl x.id).p) -> DiskAt F w2 g { d with files := crashTo d.files ks (k + 1) } /\ Turn F w1 w2) := fun w2 h1 h2 => by
    have := settled HH.out hg HBd.out HSK.out (t := setl (ks.getD k 0)) (setl_id _) (setl_ok _) h1 h2
    rw [HE.out]
    exact ⟨this.1,HT.out.trans this.2 fun _ hi => .inl hi⟩
   generalize x.id = f at *
   generalize (pl f) = q at *
   by_cases hkn : k < n
   ·obtain ⟨b2,o2,rfl,hb2,hc2⟩ := Row.num HR.out hkn
    have hcell2 : wr.cell? ⟨b2,o2 + k,none⟩ = some (.int .i64 (ks.getD k 0)) := by
     rw [HT.out.cell (p := ⟨b2,o2 + k,none⟩) (by have := HB1.out.size; dsimp only; omega) (HA.out (by omega) ⟨b2,o2,none⟩ rfl),HB1.out.cell (p := ⟨b2,o2 + k,none⟩) (by dsimp only; omega)]
     exact hc2
    clear hc2 hb2
    generalize ks.getD k 0 = v at *
    go_wp2_with fail
    refine (settle_any F x q v _ HFl.out hs hn HI.out).mono ?_
    rintro e w2 ⟨rfl,hf2,hg2⟩
    have HE2 := hid (fin.out w2 hf2 hg2)
    clear hf2 hg2
    go_wp2
    go_roundw
    case rel => exact ⟨k + 1,by omega,by go_num,HE2.out⟩
    case measure => simp [RowKit.intOf]; omega
   ·have hv : ks.getD k 0 = 0 := by
     have := HR.out.1
     rw [iv,List.length_map] at this
     rw [List.getD_eq_getElem?_getD,List.getElem?_eq_none (by omega)]
     rfl
    rw [hv] at fin HI
    clear hv
    go_wp2_with fail
    refine (settle_any F x q 0 _ HFl.out hs hn HI.out).mono ?_
    rintro e w2 ⟨rfl,hf2,hg2⟩
    have HE2 := hid (fin.out w2 hf2 hg2)
    clear hf2 hg2
    go_wp2
    go_roundw
    case rel => exact ⟨k + 1,by omega,by go_num,HE2.out⟩
    case measure => simp [RowKit.intOf]; omega
  ·obtain rfl : k = N := by omega
   rw [crashTo_all _ _ (by rw [HN.out]; exact Nat.le_refl _)] at hd
   obtain ⟨m,pl,hh,hg,hb⟩ := hd
   have c0 := hh.cells.1
   have z0 := Blk.frozen hh 0
   have z1 := Blk.frozen hh 1
   have z2 := Blk.frozen hh 2
   have c1 := hh.cells.2.1
   have c2 := hh.cells.2.2.1
   have HH := hid hh
   have HBd := hid hb
   have HT := hid ht
   clear hh hb ht
   dsimp only at c0 c1 c2
   go_wp2
   go_end0
   refine ⟨rfl,?_⟩
   have hw : wr.grownBy _ (some g) := only_three wr g (.int .i64 d.ops) (.int .i64 0) (.bool false)
   have hh3 : Head _ g (crash d ks) m := Blk.set_ (Blk.set_ (Blk.set_ HH.out 0 (.int .i64 d.ops)) 1 (.int .i64 0)) 2 (.bool false)
   have ht : Turn F w _ := ((Turn.new HB1.out).trans HT.out fun _ hi => .inl hi).trans (Turn.grown (F := F) hw fun k e => by injection e with e; rw [<- e]; exact hg) fun _ hi => .inl hi
   exact ⟨⟨m,pl,hh3,.inl hg,(HBd.out.head HH.out hw).mono fun _ hi => .inl hi⟩,ht⟩
end Disk
namespace Wal
open Go.RowKit Base WalMath
open Field (modZ modZ_lt mod_any)
open Disk (DiskAt I64 Fits)
open Foot (Turn Out own_same own_type)
open DiskMath (Fl Dk)
def From (B : Nat) (i : Nat) : Prop := B <= i
theorem new_from {B : Nat} {w : World} (h : B <= w.heap.size) : New (From B) w := fun i hi => Nat.le_trans h hi
theorem newdisk_any (w : World) : Calls Tryz.prog 7 #[] w fun e w' => ∃ g,e = .returned (.pointer (some ⟨g,0,none⟩)) /\ DiskT (From w.heap.size) w' g DiskMath.none_ /\ Below w.heap.size w w' := by
 refine (Disk.new_any w).mono ?_
 rintro e w' ⟨g,rfl,hd,hb⟩
 refine ⟨g,rfl,⟨_,hd,fun i hi => ?_⟩,hb⟩
 rcases hi with hi | hi
 ·exact hi.elim
 ·exact hi
theorem recs_len {l : List (List UInt8)} (h : ∀ p ∈ l,p.length <= 1000) : (RecMath.recs l).length <= l.length * 1008 := by
 induction l with
 | nil => simp [RecMath.recs]
 | cons p l ih =>
   rw [RecMath.recs_cons,List.length_append,RecMath.recB_length,List.length_cons]
   have := ih fun q hq => h q (List.mem_cons_of_mem _ hq)
   have := h p List.mem_cons_self
   omega
theorem mem_rows {l : List Sg} {s : Sg} (hs : s ∈ l) : (∀ p ∈ s.rows,p ∈ rowsOf l) /\ s.rows.length <= cnt l := by
 refine ⟨fun p hp => List.mem_flatMap.2 ⟨s,hs,hp⟩,?_⟩
 induction l with
 | nil => cases hs
 | cons t l ih =>
   rw [cnt_cons]
   rcases List.mem_cons.1 hs with rfl | hs
   ·omega
   ·have := ih hs
    omega
structure Fine (f x : Int) (l : Lg) : Prop where
 f0 : 0 <= f
 fl : f + l.segs.length <= 16384
 x1 : 1 <= x
 xm : x <= 1000000
 b0 : 0 <= l.base
 b1 : l.base <= 12288
 s0 : 64 <= l.size
 s1 : l.size <= 65536
 rows : ∀ p ∈ rowsOf l.segs,p.length <= 1000
 few : cnt l.segs <= 1000
theorem seg_bytes {l : List Sg} {s : Sg} (hs : s ∈ l) (hr : ∀ p ∈ rowsOf l,p.length <= 1000) (hc : cnt l <= 1000) : (bytesOf s).length <= 1008019 := by
 obtain ⟨h1,h2⟩ := mem_rows hs
 have := recs_len fun p hp => hr p (h1 p hp)
 rw [bytesOf_length]
 have : s.rows.length * 1008 <= 1000 * 1008 := Nat.mul_le_mul_right _ (by omega)
 omega
theorem Fine.ok {f x : Int} {l : Lg} (h : Fine f x l) (hc : Chain f x l.segs) : Ok l /\ Small l := by
 have hm := chain_mem hc
 constructor
 ·refine ⟨h.b0,h.b1,h.s0,h.s1,fun s hs => ?_⟩
  obtain ⟨a,b,c,d,e,g⟩ := hm s hs
  have hb := seg_bytes hs h.rows h.few
  have h1 := h.f0
  have h2 := h.fl
  have h3 := h.x1
  have h4 := h.xm
  have h5 := h.few
  exact ⟨by omega,by omega,by omega,by omega,by omega,g⟩
 ·intro s hs
  have hb := seg_bytes hs h.rows h.few
  have := (hm s hs).2.2.2.2.1
  omega
theorem open0 {ba sz : Int} (hb0 : 0 <= ba) (hb1 : ba <= 12288) (hs0 : 64 <= sz) (hs1 : sz <= 65536) : open_ DiskMath.none_ ba sz = ⟨0,some ⟨[],ba,sz,none⟩,DiskMath.none_⟩ := by
 unfold open_
 rw [if_neg (by omega)]
 rfl
theorem cap0 : Cap 0 0 DiskMath.none_ := ⟨Nat.le_refl _,Nat.zero_le _,fun x hx => by cases hx⟩
end Wal
namespace Wal
open Go.RowKit Base WalMath
open Disk (DiskAt I64 Fits)
open Foot (Turn Out own_same own_type)
open DiskMath (Fl Dk)
theorem cap_size {k M : Nat} {d : Dk} (h : Cap k M d) (hM : M <= 35184372088832) : ∀ x ∈ d.files,x.b.length <= 140737488355328 := fun x hx => by
 have := h.2.2 x hx
 omega
end Wal
namespace Wal
open Go.RowKit Base WalMath
open Disk (DiskAt I64 Fits)
open Foot (Turn Out own_same own_type)
open DiskMath (Fl Dk)
theorem setMany_blk {b : Nat} {t : TypeId} : ∀ (vs : List Value) (o : Nat) (w : World) (cs : Array Value),Blk w b t cs -> o + vs.length <= cs.size -> ∃ cs',Blk (w.setCells b o vs) b t cs' /\ cs'.toList = cs.toList.take o ++ vs ++ cs.toList.drop (o + vs.length)
 | [],o,w,cs,h,_ => ⟨cs,h,by simp⟩
 | v :: r,o,w,cs,h,hl => by
   rw [List.length_cons] at hl
   obtain ⟨cs',h1,h2⟩ := setMany_blk r (o + 1) _ _ (h.set_ o v) (by rw [Array.size_setIfInBounds]; omega)
   refine ⟨cs',h1,?_⟩
   rw [h2,Array.toList_setIfInBounds,List.length_cons]
   have hlen : o < cs.toList.length := by rw [Array.length_toList]; omega
   rw [List.set_eq_take_append_cons_drop,if_pos hlen]
   have hto : (cs.toList.take o).length = o := by rw [List.length_take]; omega
   rw [List.take_append,List.take_of_length_le (l := cs.toList.take o) (by omega),hto,show o + 1 - o = 1 by omega,List.take_succ_cons,List.take_zero,List.drop_append,List.drop_of_length_le (l := cs.toList.take o) (by omega),hto,show o + 1 + r.length - o = r.length + 1 by omega,List.drop_succ_cons,List.drop_drop,List.nil_append,show o + 1 + r.length = o + (r.length + 1) by omega]
   simp
theorem setMany_grown (b : Nat) : ∀ (vs : List Value) (o : Nat) (w : World),w.grownBy (w.setCells b o vs) (some b)
 | [],_,w => World.grownBy.refl _ _
 | v :: r,o,w => by
   have h := setMany_grown b r (o + 1) (w.setCell ⟨b,o,none⟩ v)
   refine ⟨h.os,h.tape,h.output,by have := h.size; rw [World.size_setCell] at this; exact this,fun i hi hne => ?_⟩
   exact (h.block i (by simpa using hi) hne).trans (Below.heap_setCell w ⟨b,o,none⟩ v i fun e => hne (by rw [e]))
def zseg : Array Value := #[.int .i64 0,.int .i64 0,.slice none 0 0,.int .i64 0]
theorem run_clear_one (w : World) (ty : TypeId) (b o c : Nat) (hc : ∀ j,j < 4 -> (w.cell? ⟨b,o + j,none⟩).isSome = true) (hf : ∀ j,j < 4 -> w.frozen? ⟨b,o + j,none⟩ = false) :
 (Builtin.clear_ #[102] ty #[.slice (some ⟨b,o,none⟩) 1 c]).run Tryz.prog w = .ok (.tuple #[]) (w.setCells b o zseg.toList) := by
 have hv : ∀ w,(zeroValue 172).run Tryz.prog w = .ok (.agg zseg) w := Tryz.zeroValue172
 have hzc : (Builtin.zeroCells (Value.agg zseg).cells 1).toList = zseg.toList := by first | kernel_rfl | (simp [Builtin.zeroCells,Value.cells,zseg]; done) | (unfold Builtin.zeroCells; rfl)
 have hst := run_storeCells_cells (P := Tryz.prog) b o zseg.toList 0 w (by simpa [zseg] using hc) (by simpa [zseg] using hf) (by intro v hv'; simp [zseg] at hv'; rcases hv' with rfl | rfl | rfl | rfl <;> rfl)
 simp only [Nat.add_zero] at hst
 simp [Builtin.clear_,run_underlying Tryz.underlying102,hv,hzc,hst]
theorem delete_any (base b n c : Nat) (x : Sg × Sp) (rest : List (Sg × Sp)) (w : World) (ho : w.ownsRow base 172 4 (.slice (some ⟨b,0,none⟩) n c) n (flat (x :: rest))) (hn : 2 <= n) :
 Calls Tryz.prog 110 #[.slice (some ⟨b,0,none⟩) n c,.int .i64 0,.int .i64 1] w fun e w' => e = .returned (.slice (some ⟨b,0,none⟩) (n - 1) c) /\ w'.ownsRow base 172 4 (.slice (some ⟨b,0,none⟩) (n - 1) c) (n - 1) (flat rest) /\ w.grownBy w' (some b) := by
 obtain ⟨k,rfl⟩ : ∃ k,n = k + 1 := ⟨n - 1,by omega⟩
 rw [Nat.add_sub_cancel]
 obtain ⟨h1,hh⟩ := ho
 rw [flat_length,List.length_cons] at h1
 have hrl : rest.length = k := by omega
 rcases hh with ⟨_,h0⟩ | ⟨b',cap,cur,hv,hbase,hblk,hnc,hcm,hcs,htake⟩
 ·omega
 simp only [Value.slice.injEq,Option.some.injEq] at hv
 obtain ⟨hbb,_,hcc⟩ := hv
 injection hbb with hbb
 subst hbb hcc
 have hcm' : c <= 9223372036854775807 := by unfold maxLen at hcm; omega
 have hB : Blk w.drew b 172 cur := hblk
 have hfl : (flat rest).length = k * 4 := by rw [flat_length,hrl]
 have hcur : ∀ j,j < k * 4 -> cur[4 + j]? = (flat rest)[j]? := fun j hj => by
  have e : (cur.toList.take ((k + 1) * 4))[4 + j]? = cur.toList[4 + j]? := List.getElem?_take_of_lt (by omega)
  rw [htake,flat_cons,List.getElem?_append_right (by simp [sgv])] at e
  rw [<- Array.getElem?_toList,<- e]
  congr 1
  simp [sgv]
 have S1 : Hid ((flat rest).length = k * 4) := hfl
 have S2 := hid (sgv_one rest)
 have hsrc : Hid (∀ j u,(flat rest)[j]? = some u -> w.drew.cell? ((⟨b,4,none⟩ : Addr).add j) = some u) := fun j u hu => by
  have hj : j < k * 4 := by rw [<- hfl]; exact (List.getElem?_eq_some_iff.1 hu).1
  rw [add_none,hB.cell,hcur j hj]
  exact hu
 have S3 : Hid (∀ j,j < (flat rest).length -> (w.drew.cell? ⟨b,0 + 0 * 4 + j,none⟩).isSome = true /\ w.drew.frozen? ⟨b,0 + 0 * 4 + j,none⟩ = false) := fun j hj => by
  rw [hfl] at hj
  refine ⟨?_,hB.frozen _⟩
  rw [hB.cell,Array.getElem?_eq_getElem (by omega)]
  rfl
 obtain ⟨cs1,hB1,hl1⟩ := setMany_blk (flat rest) 0 _ _ hB (by rw [hfl]; omega)
 obtain ⟨W1,hW1⟩ : ∃ W1,W1 = w.drew.setCells b (0 + 0 * 4) (flat rest) := ⟨_,rfl⟩
 have HW := hid hW1
 have hB1' : Blk W1 b 172 cs1 := by rw [hW1]; exact hB1
 have hsz1 : cs1.size = cur.size := by
  rw [<- Array.length_toList,hl1,List.length_append,List.length_append,List.length_take,List.length_drop,Array.length_toList,hfl]
  omega
 obtain ⟨cs2,hB2,hl2⟩ := setMany_blk zseg.toList (k * 4) W1 cs1 hB1' (by show k * 4 + 4 <= _; omega)
 have hg1 : w.grownBy W1 (some b) := by
  rw [hW1]
  have := setMany_grown b (flat rest) (0 + 0 * 4) w.drew
  exact ⟨this.os,this.tape,this.output,this.size,this.block⟩
 have hg2 := setMany_grown b zseg.toList (k * 4) W1
 have HOWN : Hid ((W1.setCells b (k * 4) zseg.toList).ownsRow base 172 4 (.slice (some ⟨b,0,none⟩) k c) k (flat rest)) := by
  have hsz2 : cs2.size = cs1.size := by
   rw [<- Array.length_toList,hl2,List.length_append,List.length_append,List.length_take,List.length_drop,Array.length_toList]
   show min (k * 4) cs1.size + 4 + (cs1.size - (k * 4 + 4)) = _
   omega
  refine ⟨hfl,.inr ⟨b,c,cs2,rfl,hbase,hB2,by omega,hcm,by rw [hsz2,hsz1,hcs],?_⟩⟩
  have e1 : cs1.toList.take (k * 4) = flat rest := by
   rw [hl1,List.take_zero,List.nil_append]
   exact FieldMath.take_app (flat rest) _ hfl
  rw [hl2,List.append_assoc,e1]
  exact FieldMath.take_app (flat rest) _ hfl
 have HGR := hid (show w.grownBy (W1.setCells b (k * 4) zseg.toList) (some b) from ⟨hg2.os.trans hg1.os,hg2.tape.trans hg1.tape,hg2.output.trans hg1.output,Nat.le_trans hg1.size hg2.size,fun i hi hne => (hg2.block i (Nat.lt_of_lt_of_le hi hg1.size) hne).trans (hg1.block i hi hne)⟩)
 have hcl := fun ty => run_clear_one W1 ty b (k * 4) (c - k) (fun j hj => by rw [hB1'.cell,Array.getElem?_eq_getElem (by omega)]; rfl) (fun j hj => hB1'.frozen _)
 obtain ⟨i0,t22,hi0,hz,hs4,hby,_,_⟩ := sg
 have hc1 : ¬ c = 1 := by omega
 have hc2 : k + 1 <= c := hnc
 have hk0 : 0 < k := by omega
 have h1k : (1 : Int) <= (k : Int) + 1 := by omega
 have h1c : (k : Int) + 1 <= (c : Int) := by omega
 have hkc : ¬ c = k := by omega
 have hkk : (k : Int) <= (k : Int) + 1 := by omega
 have hcl2 : ∀ ty,(Builtin.clear_ #[102] ty #[.slice (some ⟨b,k * 4,none⟩) 1 (c - k)]).run Tryz.prog W1 = .ok (.tuple #[]) (W1.setCells b (k * 4) zseg.toList) := hcl
 clear hcl hg1 hg2 hl1 hl2 hB1 hB2 hB1' hW1 hsz1 hcur hfl hB hblk htake hcs hbase
 generalize W1.setCells b (k * 4) zseg.toList = W2 at *
 go_enter Tryz.func110,Tryz.ntmps110
 go_wp2_with fail
 go_region_law (refine step_append_room rfl (.tmp 22) (.tmp 25) 102 rfl 172 i0 4 t22 hi0 hs4 b 0 0 c (by simp [Act.eval,Act.put]) ⟨b,4,none⟩ k (c - 1) (flat rest) (by simp [Act.eval,Act.put]) S1.out hsrc.out S2.out (by omega) S3.out ?_; rw [<- HW.out])
 go_wp2
 go_ret
 exact ⟨rfl,HOWN.out,HGR.out⟩
end Wal
namespace Wal
open Go.RowKit Base WalMath
open Disk (DiskAt I64 Fits)
open Foot (Turn Out own_same own_type)
open DiskMath (Fl Dk)
theorem Laid.pop {G : Nat -> Prop} {w w1 : World} {g gd n c b : Nat} {l : Lg} {x : Sg × Sp} {rest : List (Sg × Sp)} {lp : Option Nat} (h : Laid G w g gd l (some ⟨b,0,none⟩) n c (x :: rest) lp) {n' : Nat} (hown : w1.ownsRow 0 172 4 (.slice (some ⟨b,0,none⟩) n' c) n' (flat rest)) (hg : w.grownBy w1 (some b)) :
 Laid G (w1.setCell ⟨g,0,none⟩ (.slice (some ⟨b,0,none⟩) n' c)) g gd { l with segs := rest.map (·.1) } (some ⟨b,0,none⟩) n' c rest lp /\ Turn G w (w1.setCell ⟨g,0,none⟩ (.slice (some ⟨b,0,none⟩) n' c)) := by
 obtain ⟨h1,h2,h3,⟨h4,h5,h6,h7⟩,h8⟩ := h
 have hk : ∀ (i : Nat) (cur : Array Value) (e : TypeId),e ≠ 172 -> w.heap[i]? = some (.cells cur e (0,0)) -> w1.heap[i]? = some (.cells cur e (0,0)) := fun i cur e hne hi => kept_type hg (fun b' hb => own_type h4 (by rw [<- hb]; rfl)) hne hi
 have hbk : Blk w1 g 107 _ := hk g _ _ (by decide) h2
 have hk2 : ∀ (i : Nat) (cur : Array Value) (e : TypeId),e ≠ 172 -> e ≠ 107 -> w.heap[i]? = some (.cells cur e (0,0)) -> (w1.setCell ⟨g,0,none⟩ (.slice (some ⟨b,0,none⟩) n' c)).heap[i]? = w.heap[i]? := fun i cur e hne hne2 hi => (other_block (p := ⟨g,0,none⟩) hbk (hk i cur e hne hi) hne2).trans hi.symm
 have hz : w.heap.size <= (w1.setCell ⟨g,0,none⟩ (.slice (some ⟨b,0,none⟩) n' c)).heap.size := by simpa using hg.size
 refine ⟨⟨rfl,Blk.set_ hbk 0 _,h3,⟨?_,fun b' hb => h5 b' (by rw [<- hb]; rfl),fun y hy => ?_,?_⟩,h8.keepT fun i cur hi => hk2 i cur _ (by decide) (by decide) hi⟩,(Turn.grown hg fun b' hb => h5 b' (by rw [<- hb]; rfl)).setCell (.inl h3) _⟩
 ·refine own_same hown fun b' hb => ?_
  obtain ⟨cur,hc⟩ := own_type hown hb
  exact (other_block (p := ⟨g,0,none⟩) hbk hc (by decide)).trans hc.symm
 ·exact ListsIn.keep2 (h6 y (List.mem_cons_of_mem _ hy)) hz (fun b cur _ hb => hk2 b cur _ (by decide) (by decide) hb) (fun b cur hb => hk2 b cur _ (by decide) (by decide) hb)
 ·exact (List.pairwise_cons.1 h7).2
theorem Laid.blk {G : Nat -> Prop} {w w1 : World} {g gd n c b : Nat} {l : Lg} {qs : List (Sg × Sp)} {lp : Option Nat} (h : Laid G w g gd l (some ⟨b,0,none⟩) n c qs lp) (hg : w.grownBy w1 (some b)) : Blk w1 g 107 #[.slice (some ⟨b,0,none⟩) n c,.pointer (some ⟨gd,0,none⟩),.int .i64 l.base,.int .i64 l.size,leftV lp] :=
 kept_type hg (fun b' hb => own_type h.2.2.2.1.1 (by rw [<- hb]; rfl)) (by decide) h.2.1
def sliceLen : Option Value -> Nat
 | some (.slice _ n _) => n
 | _ => 0
def TrimRel (T : Nat -> Prop) (w : World) (g gd : Nat) (l : Lg) (d : Dk) (lsn : Int) (k M : Nat) (wr : World) : Prop :=
 ∃ (segs : List Sg) (d1 : Dk),Both T wr g gd { l with segs := segs } d1 /\ trimS lsn segs d1 = trimS lsn l.segs d /\ (∀ s ∈ segs,SgOk s) /\ Cap (k + (l.segs.length - segs.length)) M d1 /\ segs.length <= l.segs.length /\ Turn T w wr
theorem trim_on (T : Nat -> Prop) (g gd : Nat) (l : Lg) (d : Dk) (k M : Nat) (lsn : Int) (w : World) (h : Both T w g gd l d) (hT : New T w) (ho : ∀ s ∈ l.segs,SgOk s) (hN : l.segs.length <= 16384) (hc : Cap k M d) (hk : k <= 1000000) (hoff : d.off = false) :
 Calls Tryz.prog 45 #[.pointer (some ⟨g,0,none⟩),.int .i64 lsn] w (Wrote T w g gd (trim l d lsn)) := by
 have HB := hid h
 have HT := hid hT
 have HO := hid ho
 have HC := hid hc
 obtain ⟨F,G,hdk,⟨A,n,c,qs,lp,hl⟩,_,_,_⟩ := h
 have HDW := hid (Disk.down_any F gd d w hdk)
 rw [hoff] at HDW
 have y1 := hl.cells.2.1
 have HE := hid (show trim l d lsn = ((trimS lsn l.segs d).1,{ l with segs := (trimS lsn l.segs d).2.1 },(trimS lsn l.segs d).2.2) by unfold trim; rw [hoff]; rfl)
 clear hT ho hc hdk hl hoff
 go_enter Tryz.func45,Tryz.ntmps45
 go_wp2_with fail
 refine HDW.out.mono ?_
 rintro e w1 ⟨rfl,rfl⟩
 clear y1
 go_wp2
 go_loopw [5] (fun _ wr => TrimRel T w g gd l d lsn k M wr) (fun _ wr => sliceLen (wr.cell? ⟨g,0,none⟩))
 case atStart => exact ⟨l.segs,d,HB.out,rfl,HO.out,HC.out.mono (by omega) (Nat.le_refl _),Nat.le_refl _,Turn.refl _ _⟩
 case round =>
  obtain ⟨segs,d1,hbo,htr,hok,hcap,hle,htu⟩ := hrel
  have HBO := hid hbo
  have HTR := hid htr
  have HOK := hid hok
  have HCA := hid hcap
  have HTU := hid htu
  have HNW := hid (HT.out.le htu.size)
  obtain ⟨F1,G1,hdk,⟨A,n,c,qs,lp,hl⟩,hFG,hF,hG⟩ := hbo
  have y0 := hl.cells.1
  have y1 := hl.cells.2.1
  have hlen : segs.length = n := hl.len
  clear htr hok hcap htu
  match segs,hlen with
  | [],hlen =>
    obtain rfl : 0 = n := hlen
    clear hdk hl hFG hF hG
    go_wp2
    go_ret
    rw [HE.out,<- HTR.out]
    exact ⟨rfl,HBO.out,HTU.out⟩
  | [s],hlen =>
    obtain rfl : 1 = n := hlen
    clear hdk hl hFG hF hG
    go_wp2
    go_ret
    rw [HE.out,<- HTR.out]
    exact ⟨rfl,HBO.out,HTU.out⟩
  | s :: t :: r,hlen =>
    obtain ⟨b,q,rfl,hq0,hGb,hb,hpn,⟨hnc,hcm⟩,_,k0,k1,k2,k3⟩ := hl.at_ (k := 0) (s := s) rfl
    rw [Nat.zero_mul] at k0 k1 k2 k3
    rw [Nat.zero_add] at k1 k2 k3
    have hs := HOK.out s List.mem_cons_self
    have hbd := hs.bd
    obtain ⟨hf0,hf1,hx1,hla,_⟩ := hs
    have hn2 : decide ((1 : Int) < (n : Int)) = true := by simp at hlen ⊢; omega
    have hn3 : 2 <= n := by simp at hlen; omega
    obtain ⟨x0,rest,hqs⟩ : ∃ x0 rest,qs = x0 :: rest := by
     cases qs with
     | nil => simp at hq0
     | cons x0 rest => exact ⟨x0,rest,rfl⟩
    subst hqs
    have hmap : x0.1 = s /\ rest.map (·.1) = t :: r := by
     have := hl.1
     simpa using this
    have HMAP := hid hmap
    clear hmap hq0 hla
    have HLEN : Hid ((s :: t :: r).length = n) := hlen
    clear hlen
    by_cases hle2 : last s <= lsn
    ·have HTS := hid (show trimS lsn (s :: t :: r) d1 = if (DiskMath.remove d1 s.file).1 = 0 then trimS lsn (t :: r) (DiskMath.remove d1 s.file).2 else ((DiskMath.remove d1 s.file).1,s :: t :: r,(DiskMath.remove d1 s.file).2) by rw [trimS,if_pos hle2])
     have hla : s.first + s.rows.length - 1 <= lsn := hle2
     clear hle2
     have HCC := hid (show Cap (k + 16384) M d1 from HCA.out.mono (by omega) (Nat.le_refl _))
     obtain ⟨sfile,sfirst,srows,ssize⟩ := s
     dsimp only at *
     have HLA := hid (fun w => last_any sfile sfirst q.A srows.length q.c ssize w (by omega) (by omega))
     generalize hsr : srows.length = sr at *
     have HSR := hid hsr
     have HY0 := hid y0
     clear hsr hdk hl hFG hF hG
     go_wp2_with fail
     refine (HLA.out _).mono ?_
     rintro e w2 ⟨rfl,hb2⟩
     have HB2 := hid (HBO.out.new hb2)
     have HT2 : Hid (Turn T w w2) := HTU.out.trans (F' := T) (Turn.new hb2) fun _ hi => .inl hi
     have HN2 := hid (HNW.out.le hb2.size)
     clear hb2 y0 y1 k0 k1 k2 k3 hb hGb HMAP
     obtain ⟨F2,hd2,hF2,HK2⟩ := HB2.out.disk HN2.out
     obtain ⟨_,G2,_,⟨A2,n2,c2,qs2,lp2,hl2⟩,_,_,_⟩ := HB2.out
     have y0 := hl2.cells.1
     have y1 := hl2.cells.2.1
     obtain ⟨b2,q2,rfl,_,_,hb2,hpn2,⟨hnc2,hcm2⟩,_,k0,_,_,_⟩ := hl2.at_ (k := 0) (s := ⟨sfile,sfirst,srows,ssize⟩) rfl
     rw [Nat.zero_mul] at k0
     have HRM := hid (Disk.remove_any F2 gd d1 sfile w2.drew (hd2.drewN 1) (cap_fits HCC.out (by omega)))
     clear hl2 hd2 hF2
     go_wp2
     go_still_tail 12,(by kernel_rfl)
     go_wp2_with fail
     refine HRM.out.mono ?_
     rintro e w3 ⟨rfl,hd3,ht3⟩
     have hr3 := HK2.out w3 _ hd3 ⟨ht3.os,ht3.tape,ht3.output,ht3.size,ht3.block⟩
     have HB3 := hid hr3.1
     have HT3 := hid (HT2.out.trans (F' := T) hr3.2 fun _ hi => .inl hi)
     have HN3 := hid (HN2.out.le hr3.2.size)
     have HC3 := hid (HCA.out.remove sfile)
     clear hd3 ht3 hr3 HRM HK2 y0 y1 k0
     generalize DiskMath.remove d1 sfile = rm at *
     obtain ⟨e3,d3⟩ := rm
     dsimp only at *
     by_cases he3 : e3 = 0
     ·subst he3
      rw [if_pos rfl] at HTS
      obtain ⟨F3,G3,hdk3,⟨A3,n3,c3,qs3,lp3,hl3⟩,hFG3,hF3,hG3⟩ := HB3.out
      have y0 := hl3.cells.1
      have hlen3 : r.length + 2 = n3 := by have := hl3.len; simpa using this
      obtain ⟨b3,q3,rfl,hq3,_,_,_,_⟩ := hl3.at_ (k := 0) (s := ⟨sfile,sfirst,srows,ssize⟩) rfl
      obtain ⟨x3,rest3,hqs⟩ : ∃ x0 rest,qs3 = x0 :: rest := by
       cases qs3 with
       | nil => simp at hq3
       | cons x0 rest => exact ⟨x0,rest,rfl⟩
      subst hqs
      have hmap : rest3.map (·.1) = t :: r := by
       have := hl3.1
       simp at this
       exact this.2
      have HD := hid (delete_any 0 b3 n3 c3 x3 rest3 w3 hl3.2.2.2.1.1 (by omega))
      have HL3 := hid hl3
      have HLN := hid hlen3
      clear hl3 hq3 hlen3
      go_wp2_with fail
      refine HD.out.mono ?_
      rintro e w4 ⟨rfl,hown4,hg4⟩
      have hbk := HL3.out.blk hg4
      have z0 : w4.cell? ⟨g,0,none⟩ = some _ := hbk.cell 0
      have zf : w4.frozen? ⟨g,0,none⟩ = false := hbk.frozen 0
      have hpop := HL3.out.pop hown4 hg4
      rw [hmap] at hpop
      have hbo4 := Both.log hdk3 hF3 hFG3 hG3 HN3.out hpop.2 ⟨_,_,_,_,_,hpop.1⟩ (fun i hi => .inl hi)
      have HB4 := hid hbo4.1
      have HT4 := hid (HT3.out.trans (F' := T) hbo4.2 fun _ hi => .inl hi)
      have HY4 := hid hpop.1.cells.1
      clear hown4 hg4 hbk hpop hbo4 hdk3 hF3 hFG3 hG3 HD hmap
      go_wp2
      go_roundw
      case rel =>
       refine ⟨t :: r,d3,HB4.out,?_,fun u hu => HOK.out u (List.mem_cons_of_mem _ hu),?_,?_,HT4.out⟩
       ·rw [<- HTR.out,HTS.out]
       ·refine HC3.out.mono ?_ (Nat.le_refl _)
        simp at hle ⊢
        omega
       ·simp at hle ⊢
        omega
      case measure =>
       rw [HY4.out,HY0.out]
       show n3 - 1 < n
       have h1 := HLN.out
       have h2 : r.length + 2 = n := by have := HLEN.out; simpa using this
       omega
     ·rw [if_neg he3] at HTS
      have hne : (e3 != 0) = true := by simpa using he3
      clear he3
      go_wp2
      go_ret
      rw [HE.out,<- HTR.out,HTS.out]
      exact ⟨rfl,HB3.out,HT3.out⟩
    ·have HTS := hid (show trimS lsn (s :: t :: r) d1 = (0,s :: t :: r,d1) by rw [trimS,if_neg hle2])
     have hla : ¬ s.first + s.rows.length - 1 <= lsn := hle2
     clear hle2 hdk hl hFG hF hG
     obtain ⟨sfile,sfirst,srows,ssize⟩ := s
     dsimp only at *
     have HLA := hid (fun w => last_any sfile sfirst q.A srows.length q.c ssize w (by omega) (by omega))
     generalize hsr : srows.length = sr at *
     have HSR := hid hsr
     clear hsr
     go_wp2_with fail
     refine (HLA.out _).mono ?_
     rintro e w2 ⟨rfl,hb2⟩
     have HB2 := hid hb2
     clear hb2
     go_wp2
     go_ret
     rw [HE.out,<- HTR.out,HTS.out]
     exact ⟨rfl,HBO.out.new HB2.out,HTU.out.trans (F' := T) (Turn.new HB2.out) fun _ hi => .inl hi⟩
end Wal
end Go.Proofs.YtefnmnpfecfdaaaGreat
