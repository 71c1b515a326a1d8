/-
  Texts of one proof: WalWrite, FieldReader, FieldDecode.
-/
import Derived.Test.YtefnmnpfecfdaaaGreatPf23
set_option linter.all false
set_option maxRecDepth 100000
set_option maxHeartbeats 1600000
open Go.Lib (hid)
namespace Go.Proofs.YtefnmnpfecfdaaaGreat
namespace Wal
open Go.RowKit Base WalMath
open Disk (DiskAt I64 Fits)
open Foot (Turn Out own_same own_type)
open DiskMath (Fl Dk)
theorem cap_fits {k M : Nat} {d : Dk} (h : Cap k M d) (hk : k <= 1000000000) : Fits d := ⟨by have := h.1; omega,by have := h.2.1; omega⟩
def Did (T : Nat -> Prop) (w : World) (g gd : Nat) (v : Value) (l : Lg) (d : Dk) (e : Ending) (w' : World) : Prop := e = .returned v /\ Both T w' g gd l d /\ Turn T w w'
theorem clean_any (T : Nat -> Prop) (g gd : Nat) (l : Lg) (d : Dk) (k M : Nat) (w : World) (h : Both T w g gd l d) (hT : New T w) (hc : Cap k M d) (hk : k <= 1000000000) :
 Calls Tryz.prog 225 #[.pointer (some ⟨g,0,none⟩)] w (Did T w g gd (.int .i64 (clean l d).1) l (clean l d).2) := by
 obtain ⟨F,hdk,hF,HK⟩ := h.disk hT
 have HD := hid hdk
 have HF := hid (cap_fits hc hk)
 have HB := hid h
 obtain ⟨_,G,_,⟨A,n,c,qs,lp,hL⟩,_⟩ := h
 have c1 := hL.cells.2.1
 have c4 := hL.cells.2.2.2.2
 have hl := hL.2.2.2.2
 clear hL hdk hc hk hF hT
 generalize hcl : clean l d = r
 have HCL := hid hcl
 clear hcl
 cases hlf : l.left with
 | none =>
   rw [hlf] at hl
   have HE := hid (show r = (0,d) by rw [<- HCL.out,clean,hlf])
   cases lp with
   | some b => exact hl.elim
   | none =>
     clear hl hlf
     rw [show leftV none = .pointer none from rfl] at c4
     go_enter Tryz.func225,Tryz.ntmps225
     go_wp2
     go_ret
     rw [HE.out]
     exact ⟨rfl,HB.out,Turn.refl _ _⟩
 | some p =>
   rw [hlf] at hl
   cases lp with
   | none => exact hl.elim
   | some b =>
     rw [show leftV (some b) = .pointer (some ⟨b,0,none⟩) from rfl] at c4
     have p0 : w.cell? ⟨b,0,none⟩ = some (.int .i64 p.file) := hl.1.cell 0
     have p1 : w.cell? ⟨b,1,none⟩ = some (.int .i64 p.had) := hl.1.cell 1
     have p2 : w.cell? ⟨b,2,none⟩ = some (.bool p.begins) := hl.1.cell 2
     clear hl
     cases hbg : p.begins with
     | true =>
       rw [hbg] at p2
       have HE := hid (show r = DiskMath.remove d p.file by rw [<- HCL.out,clean,hlf]; simp [hbg])
       clear hlf hbg
       generalize p.file = f at *
       go_enter Tryz.func225,Tryz.ntmps225
       go_wp2
       go_still_tail 11,(by kernel_rfl)
       go_wp2_with fail
       refine (Disk.remove_any F gd d f _ (HD.out.drewN 1) HF.out).mono ?_
       rintro e w1 ⟨rfl,hd1,ht1⟩
       have HR := hid (HK.out w1 _ hd1 ⟨ht1.os,ht1.tape,ht1.output,ht1.size,ht1.block⟩)
       clear hd1 ht1
       go_wp2
       go_ret
       rw [HE.out]
       exact ⟨rfl,HR.out.1,HR.out.2⟩
     | false =>
       rw [hbg] at p2
       have HE := hid (show r = DiskMath.cut d p.file p.had by rw [<- HCL.out,clean,hlf]; simp [hbg])
       clear hlf hbg
       generalize p.file = f at *
       generalize p.had = hh at *
       go_enter Tryz.func225,Tryz.ntmps225
       go_wp2
       go_still_tail 18,(by kernel_rfl)
       go_wp2_with fail
       refine (Disk.cut_any F gd d f hh _ (HD.out.drewN 1) HF.out).mono ?_
       rintro e w1 ⟨rfl,hd1,ht1⟩
       have HR := hid (HK.out w1 _ hd1 ⟨ht1.os,ht1.tape,ht1.output,ht1.size,ht1.block⟩)
       clear hd1 ht1
       go_wp2
       go_ret
       rw [HE.out]
       exact ⟨rfl,HR.out.1,HR.out.2⟩
def Win (T : Nat -> Prop) (a b : Nat) (i : Nat) : Prop := T i /\ (i < a \/ b <= i)
section
variable {T T' : Nat -> Prop} {w w' : World} {g gd : Nat} {l : Lg} {d : Dk}
theorem Both.mono (h : Both T w g gd l d) (hT : ∀ i,T i -> T' i) : Both T' w g gd l d := by
 obtain ⟨F,G,h1,h2,h3,h4,h5⟩ := h
 exact ⟨F,G,h1,h2,h3,fun i hi => ⟨hT i (h4 i hi).1,(h4 i hi).2⟩,fun i hi => ⟨hT i (h5 i hi).1,(h5 i hi).2⟩⟩
theorem Both.win (h : Both T w g gd l d) (hb : Below w.heap.size w w') : Both (Win T w.heap.size w'.heap.size) w' g gd l d := by
 obtain ⟨F,G,h1,h2,h3,h4,h5⟩ := h
 exact ⟨F,G,h1.new hb,h2.new hb,h3,fun i hi => ⟨⟨(h4 i hi).1,.inl (h4 i hi).2⟩,Nat.lt_of_lt_of_le (h4 i hi).2 hb.size⟩,fun i hi => ⟨⟨(h5 i hi).1,.inl (h5 i hi).2⟩,Nat.lt_of_lt_of_le (h5 i hi).2 hb.size⟩⟩
theorem New.win (h : New T w) (hz : w.heap.size <= w'.heap.size) : New (Win T w.heap.size w'.heap.size) w' := fun i hi => ⟨h i (Nat.le_trans hz hi),.inr hi⟩
theorem Bytes.turn {A : Option Addr} {n c : Nat} {b : List UInt8} (h : Bytes w w.heap.size A n c b) (hl : Lies (fun i => ¬ T i) A n) (ht : Turn T w w') : Bytes w' w'.heap.size A n c b :=
 Bytes.same h fun hn b off e hb => ⟨Nat.lt_of_lt_of_le hb ht.size,ht.block b hb (hl hn b off e)⟩
theorem Turn.win {a b : Nat} (h : Turn (Win T a b) w w') : Turn T w w' := h.mono fun _ hi => hi.1
end
def Wrote (T : Nat -> Prop) (w : World) (g gd : Nat) (r : Int × Lg × Dk) (e : Ending) (w' : World) : Prop := Did T w g gd (.int .i64 r.1) r.2.1 r.2.2 e w'
theorem write_any (T : Nat -> Prop) (g gd : Nat) (l : Lg) (d : Dk) (k M : Nat) (p : Pc) (A : Option Addr) (n c : Nat) (b : List UInt8) (w : World) (h : Both T w g gd l d) (hT : New T w) (hc : Cap k M d) (hk : k <= 100000000) (hr : Bytes w w.heap.size A n c b) (hl : Lies (fun i => ¬ T i) A n) (hM : M + n <= 70368744177664) :
 Calls Tryz.prog 172 #[.pointer (some ⟨g,0,none⟩),pcv p,.slice A n c] w (Wrote T w g gd (write l d p b)) := by
 have HB := hid h
 have HT := hid hT
 have HC := hid hc
 have HR := hid hr
 have HL := hid hl
 have HW : Hid (Below w.heap.size w (w.alloc (.cells #[.int .i64 p.file,.int .i64 p.had,.bool p.begins] 244))) := (Below.refl _ _).alloc (Nat.le_refl _) _
 have HP : Hid (Blk (w.alloc (.cells #[.int .i64 p.file,.int .i64 p.had,.bool p.begins] 244)) w.heap.size 244 #[.int .i64 p.file,.int .i64 p.had,.bool p.begins]) := Blk.new _ _ _
 clear h hT hc hr hl
 generalize hwr : write l d p b = r
 have HWR := hid hwr
 clear hwr
 unfold pcv
 go_enter Tryz.func172,Tryz.ntmps172
 go_wp2_with fail
 generalize w.alloc (.cells #[.int .i64 p.file,.int .i64 p.had,.bool p.begins] 244) = W at HW HP ⊢
 generalize hs0 : w.heap.size = s0 at HP ⊢
 have HS0 := hid hs0
 clear hs0
 refine (clean_any (Win T w.heap.size W.heap.size) g gd l d k M _ (HB.out.win HW.out) (HT.out.win HW.out.size) HC.out (by omega)).mono ?_
 rintro e w1 ⟨rfl,hb1,ht1⟩
 have HB1 := hid hb1
 have HT1 := hid ht1
 have HP1 : Hid (Blk w1 s0 244 #[.int .i64 p.file,.int .i64 p.had,.bool p.begins]) := (ht1.block s0 HP.out.lt fun hw => by
  have a := hw.2
  rw [HS0.out] at a
  have b := HP.out.lt
  omega).trans HP.out
 have HTW : Hid (Turn T w w1) := (Turn.new HW.out).trans (Turn.win ht1) fun _ hi => .inl hi
 have HC1 := hid (HC.out.clean l)
 clear hb1 ht1
 generalize hcl : clean l d = q at *
 have HCL := hid hcl
 clear hcl
 obtain ⟨e1,d1⟩ := q
 dsimp only at *
 by_cases h0 : e1 = 0
 ·subst h0
  have HE := hid (show r = ((DiskMath.append d1 p.file b).1,{ l with left := some p },(DiskMath.append d1 p.file b).2) by rw [<- HWR.out,write,HCL.out]; rfl)
  obtain ⟨F,G,hdk,⟨Al,nl,cl,qs,lp,hL⟩,hFG,hF,hG⟩ := HB1.out
  have c1 := hL.cells.2.1
  have c4 := hL.cells.2.2.2.2
  have z4 := hL.2.1.frozen 4
  have hne : s0 ≠ g := fun e => by
   have a := hL.2.1
   have b := HP1.out
   unfold Blk at a b
   rw [<- e,b] at a
   cases a
  -- the log's own step
  have hst := (hL.mono (G' := fun i => G i \/ i = s0) fun i hi => .inl hi).lefts (lp' := some s0) (left := some p) ⟨HP1.out,.inr rfl⟩
  have hTs : T s0 := HT.out s0 (by rw [HS0.out]; exact Nat.le_refl _)
  have hbo := Both.log (T := T) (w' := w1.setCell ⟨g,4,none⟩ (leftV (some s0))) (l' := { l with left := some p }) hdk (fun i hi => ⟨(hF i hi).1.1,(hF i hi).2⟩) (G := fun i => G i \/ i = s0) (fun i hi hg => by
   rcases hg with hg | rfl
   ·exact hFG i hi hg
   ·have a := (hF i hi).1.2
    rw [HS0.out] at a
    have b := HP.out.lt
    omega) (fun i hi => by
   rcases hi with hi | rfl
   ·exact ⟨(hG i hi).1.1,(hG i hi).2⟩
   ·exact ⟨hTs,HP1.out.lt⟩) (HT.out.le HTW.out.size) hst.2 ⟨_,_,_,_,_,hst.1⟩ (fun i hi => .inl hi)
  have q0 : (w1.setCell ⟨g,4,none⟩ (leftV (some s0))).cell? ⟨s0,0,none⟩ = some (.int .i64 p.file) := (HP1.out.far (p := ⟨g,4,none⟩) hne _).cell 0
  have q1 : (w1.setCell ⟨g,4,none⟩ (leftV (some s0))).cell? ⟨g,1,none⟩ = some (.pointer (some ⟨gd,0,none⟩)) := hst.1.cells.2.1
  have HTT := hid (HTW.out.trans hbo.2 fun _ hi => .inl hi)
  have HBB := hid hbo.1
  rw [show leftV (some s0) = .pointer (some ⟨s0,0,none⟩) from rfl] at q0 q1 HTT HBB
  clear hL hst hbo hFG hF hG hdk HB1 HT1 HP1 HTW
  go_wp2_with fail
  generalize w1.setCell ⟨g,4,none⟩ (.pointer (some ⟨s0,0,none⟩)) = W2 at q0 q1 HTT HBB ⊢
  clear c1 c4 z4
  obtain ⟨F2,hdk2,hF2,HK2⟩ := HBB.out.disk (HT.out.le HTT.out.size)
  have HD2 := hid hdk2
  have HY2 := hid (Bytes.turn HR.out HL.out HTT.out)
  clear hdk2 hF2
  go_still_tail 7,(by kernel_rfl)
  go_wp2_with fail
  refine (Disk.append_any F2 gd d1 p.file W2.heap.size A n c b _ (HD2.out.drewN 1) (cap_fits HC1.out (by omega)) (HY2.out.drewN 1) (Nat.le_refl _) (by omega) (fun x hx => by have := HC1.out.2.2 x (DiskMath.seek_mem hx).1; omega)).mono ?_
  rintro e w3 ⟨rfl,hd3,ht3⟩
  have HR3 := hid (HK2.out w3 _ hd3 ⟨ht3.os,ht3.tape,ht3.output,ht3.size,ht3.block⟩)
  clear hd3 ht3
  go_wp2
  go_ret
  rw [HE.out]
  exact ⟨rfl,HR3.out.1,HTT.out.trans HR3.out.2 fun _ hi => .inl hi⟩
 ·have HE := hid (show r = (e1,l,d1) by rw [<- HWR.out,write,HCL.out]; simp [h0])
  have hne : (e1 != 0) = true := by simpa using h0
  clear h0
  go_wp2
  go_ret
  rw [HE.out]
  exact ⟨rfl,HB1.out.mono fun _ hi => hi.1,HTW.out⟩
end Wal
namespace Field
open Go.RowKit Base FieldMath
def Reader (w : World) (B g : Nat) (l : List UInt8) : Prop := ∃ A n c,Blk w g 306 #[.slice A n c] /\ Bytes w B A n c l /\ B <= g
section
variable {w w' : World} {B g : Nat} {l : List UInt8}
theorem Reader.only {row : Option Nat} (h : Reader w B g l) (hg : w.grownBy w' row) (hr : ∀ k,row = some k -> g < k) : Reader w' B g l := by
 obtain ⟨A,n,c,h1,h2,h3⟩ := h
 have hlt := h1.lt
 refine ⟨A,n,c,h1.grown hg (fun e => by have := hr _ e.symm; omega),h2.grown hg (by omega) (fun k hk => by have := hr k hk; omega),h3⟩
theorem Reader.alloc (h : Reader w B g l) (o : Obj) : Reader (w.alloc o) B g l := by
 obtain ⟨A,n,c,h1,h2,h3⟩ := h
 have hlt := h1.lt
 exact ⟨A,n,c,h1.alloc o,h2.alloc (by omega) o,h3⟩
theorem Reader.far (h : Reader w B g l) {p : Addr} (hp : g < p.block) (u : Value) : Reader (w.setCell p u) B g l := by
 obtain ⟨A,n,c,h1,h2,h3⟩ := h
 exact ⟨A,n,c,h1.far (by omega) u,h2.setCell (by omega) u,h3⟩
theorem Reader.lt (h : Reader w B g l) : g < w.heap.size := by
 obtain ⟨A,n,c,h1,_⟩ := h
 exact h1.lt
end
def Took (w : World) (B g : Nat) (l : List UInt8) (k : Nat) (e : Ending) (w' : World) : Prop :=
 (l.length < k /\ e = .returned (.tuple #[.slice none 0 0,.int .i64 2]) /\ w = w') \/
 (k <= l.length /\ ∃ A c,e = .returned (.tuple #[.slice A k c,.int .i64 0]) /\ Bytes w' B A k c (l.take k) /\ Reader w' B g (l.drop k) /\ w.grownBy w' (some g) /\ w'.heap.size = w.heap.size)
theorem took_ok {w : World} {B g n c k : Nat} {A A' : Option Addr} {n' c' : Nat} {l : List UInt8} {e : Ending} (hb : Blk w g 306 #[.slice A n c]) (hr : Bytes w B A n c l) (hB : B <= g) (hk : k <= n)
 (hA : A' = cutAt A c k) (hn' : n' = n - k) (hc' : c' = c - k) (he : e = .returned (.tuple #[.slice A k c,.int .i64 0])) : Took w B g l k e (w.setCell ⟨g,0,none⟩ (.slice A' n' c')) := by
 subst hA hn' hc'
 refine .inr ⟨by rw [hr.len]; exact hk,A,c,he,(hr.front hk).setCell (by exact hB) _,⟨cutAt A c k,n - k,c - k,hb.set_ 0 _,(hr.cut hk).setCell (by exact hB) _,hB⟩,only_setCell (World.grownBy.refl _ _) (.inl rfl) _,by simp⟩
theorem take_any (B g : Nat) (l : List UInt8) (k : Nat) (w : World) (hr : Reader w B g l) (hk : k <= 1099511627776) :
 Calls Tryz.prog 296 #[.pointer (some ⟨g,0,none⟩),.int .i64 k] w (Took w B g l k) := by
 obtain ⟨A,n,c,hb,hr,hB⟩ := hr
 have hln := hr.len
 have hle := hr.le
 have hcell : w.cell? ⟨g,0,none⟩ = some (.slice A n c) := hb.cell 0
 have hfro := hb.frozen 0
 have HR := hid hr
 have HB := hid hb
 have HL := hid hln
 clear hr hb hln
 by_cases hlt : n < k
 ·go_enter Tryz.func296,Tryz.ntmps296
  go_wp2
  go_ret2
  exact .inl ⟨by rw [HL.out]; exact hlt,rfl,rfl⟩
 ·have hkn : k <= n := by omega
  by_cases hck : c = k
  ·subst hck
   go_enter Tryz.func296,Tryz.ntmps296
   go_wp2
   go_ret2
   exact took_ok HB.out HR.out hB hkn (by rw [cutAt,if_pos rfl]) (by omega) (by omega) rfl
  ·have hkc : k <= c := by omega
   go_enter Tryz.func296,Tryz.ntmps296
   go_wp2
   go_ret2
   exact took_ok HB.out HR.out hB hkn (by rw [cutAt,if_neg hck]) rfl rfl rfl
def Numbered (w : World) (B g : Nat) (l : List UInt8) (k : Nat) (e : Ending) (w' : World) : Prop :=
 (l.length < k /\ e = .returned (.tuple #[.int .u64 0,.int .i64 2]) /\ w = w') \/
 (k <= l.length /\ e = .returned (.tuple #[.int .u64 (num (l.take k)),.int .i64 0]) /\ Reader w' B g (l.drop k) /\ w.grownBy w' (some g) /\ w'.heap.size = w.heap.size)
theorem rnumber_any (B g : Nat) (l : List UInt8) (k : Nat) (w : World) (hr : Reader w B g l) (hk0 : 0 < k) (hk : k <= 8) :
 Calls Tryz.prog 270 #[.pointer (some ⟨g,0,none⟩),.int .i64 k] w (Numbered w B g l k) := by
 have HR := hid hr
 clear hr
 go_enter Tryz.func270,Tryz.ntmps270
 go_wp2_with fail
 refine (take_any B g l k _ HR.out (by omega)).mono ?_
 rintro e w1 (⟨hlt,rfl,rfl⟩ | ⟨hle,A,c,rfl,hby,hrd,hon,hsz⟩)
 ·go_wp2
  go_ret2
  exact .inl ⟨hlt,rfl,rfl⟩
 ·have hlen := hby.len
  have HB := hid hby
  have HD := hid hrd
  have HO := hid hon
  have HS := hid hsz
  have HL := hid hlen
  clear hby hrd hon hsz hlen
  go_wp2
  go_loop [8,22] (fun x i => ∃ (j y : Nat),j <= k /\ i = .int .i64 j /\ x = .int .u64 y /\ y = num ((l.take k).take j)) (fun _ i => k - (RowKit.intOf i).toNat)
  case atStart => exact ⟨0,0,by omega,rfl,rfl,rfl⟩
  case round =>
   obtain ⟨j,y,hj,rfl,rfl,hy⟩ := hrel
   by_cases hlt : j < k
   ·have hyb := take_num_lt HL.out hlt hk
    rw [<- hy] at hyb
    obtain ⟨b,off,z,rfl,_,hcell,_,ht⟩ := HB.out.at_ hlt
    have HY := hid hy
    have HT := hid ht
    have hz : z.toNat < 256 := z.toNat_lt
    clear hy ht
    go_wp2
    go_round
    case rel => exact ⟨j + 1,y * 256 + z.toNat,by omega,by go_num,by rw [<- or_byte hyb z],by rw [HT.out,num_snoc,HY.out]⟩
    case measure => simp [RowKit.intOf]; omega
   ·have this : (l.take k).take j = l.take k := List.take_of_length_le (by rw [HL.out]; omega)
    rw [this] at hy
    have HY := hid hy
    clear hy this
    go_wp2
    go_ret2
    exact .inr ⟨hle,by rw [<- HY.out]; rfl,HD.out,HO.out,HS.out⟩
def Counted (w : World) (B g : Nat) (l : List UInt8) (most : Nat) (e : Ending) (w' : World) : Prop :=
 (l.length < 2 /\ e = .returned (.tuple #[.int .i64 0,.int .i64 2]) /\ w = w') \/
 (2 <= l.length /\ most < num (l.take 2) /\ e = .returned (.tuple #[.int .i64 0,.int .i64 3]) /\ w.grownBy w' (some g)) \/
 (2 <= l.length /\ num (l.take 2) <= most /\ e = .returned (.tuple #[.int .i64 (num (l.take 2)),.int .i64 0]) /\ Reader w' B g (l.drop 2) /\ w.grownBy w' (some g) /\ w'.heap.size = w.heap.size)
theorem count_any (B g : Nat) (l : List UInt8) (most : Nat) (w : World) (hr : Reader w B g l) (hm : most <= 1099511627776) :
 Calls Tryz.prog 235 #[.pointer (some ⟨g,0,none⟩),.int .i64 most] w (Counted w B g l most) := by
 have HR := hid hr
 clear hr
 go_enter Tryz.func235,Tryz.ntmps235
 go_wp2_with fail
 refine (rnumber_any B g l 2 _ HR.out (by omega) (by omega)).mono ?_
 rintro e w1 (⟨hlt,rfl,rfl⟩ | ⟨hle,rfl,hrd,hon,hsz⟩)
 ·go_wp2
  go_ret2
  exact .inl ⟨hlt,rfl,rfl⟩
 ·have HD := hid hrd
  have HO := hid hon
  have HS := hid hsz
  have hx := num2_lt hle
  clear hrd hon hsz
  generalize hy : num (l.take 2) = y at hx
  have HY := hid hy
  clear hy
  by_cases hgt : most < y
  ·go_wp2
   go_ret2
   exact .inr (.inl ⟨hle,by rw [HY.out]; exact hgt,rfl,HO.out⟩)
  ·go_wp2
   go_ret2
   exact .inr (.inr ⟨hle,by rw [HY.out]; omega,by rw [HY.out]; rfl,HD.out,HO.out,HS.out⟩)
def Read1 (w : World) (B g : Nat) (res : Except Nat (Fld × List UInt8)) (e : Ending) (w' : World) : Prop :=
 (∃ k,res = .error k /\ e = .returned (.tuple #[.agg #[.int .i64 0,.int .i64 0,.string ⟨#[]⟩],.int .i64 k]) /\ w.grownBy w' (some g)) \/
 (∃ f r,res = .ok (f,r) /\ e = .returned (.tuple #[.agg #[.int .i64 f.kind,.int .i64 f.n,.string f.s],.int .i64 0]) /\ Reader w' B g r /\ w.grownBy w' (some g))
theorem box_of {w w1 : World} {g s : Nat} {t : TypeId} {x y z : Value} (h : (w.alloc (.cells #[x,y,z] t)).grownBy w1 (some g)) (hg : g < w.heap.size) (hs : s = w.heap.size) :
 w1.cell? ⟨s,0,none⟩ = some x /\ w1.cell? ⟨s,1,none⟩ = some y /\ w1.cell? ⟨s,2,none⟩ = some z /\ w1.frozen? ⟨s,0,none⟩ = false /\ w1.frozen? ⟨s,1,none⟩ = false /\ w1.frozen? ⟨s,2,none⟩ = false := by
 subst hs
 have hb : Blk w1 w.heap.size t #[x,y,z] := (Blk.new w t #[x,y,z]).grown h (fun e => by injection e; omega)
 exact ⟨hb.cell 0,hb.cell 1,hb.cell 2,hb.frozen 0,hb.frozen 1,hb.frozen 2⟩
theorem wrap_i64 {y : Nat} (hy : y < 18446744073709551616) : wrap64 (y : Int) = i64 y := by
 unfold wrap64 i64
 split <;> omega
theorem integer_any (B g : Nat) (l : List UInt8) (w : World) (hr : Reader w B g l) :
 Calls Tryz.prog 271 #[.pointer (some ⟨g,0,none⟩)] w (Read1 w B g (takeF (1 :: l))) := by
 have HR := hid hr
 clear hr
 go_enter Tryz.func271,Tryz.ntmps271
 go_wp2_with fail
 refine (rnumber_any B g l 8 _ (HR.out.alloc _) (by omega) (by omega)).mono ?_
 rintro e w1 (⟨hlt,rfl,rfl⟩ | ⟨hle,rfl,hrd,hon,hsz⟩)
 ·go_wp2
  refine bodyPost_ret (v := .tuple #[.agg #[.int .i64 0,.int .i64 0,.string ⟨#[]⟩],.int .i64 2]) (by simp [results,Tryz.results271,go_sem]) rfl (.inl ⟨2,takeF_int_short hlt,rfl,?_⟩)
  exact only_alloc (World.grownBy.refl _ _) _
 ·obtain ⟨c0,c1,c2,f0,f1,f2⟩ := box_of hon HR.out.lt rfl
  have HD := hid hrd
  have HO := hid hon
  have HS := hid hsz
  have hx := num8_lt hle
  clear hrd hon hsz
  generalize hy : num (l.take 8) = y at hx
  have HY := hid hy
  clear hy
  go_wp2
  refine bodyPost_ret (v := .tuple #[.agg #[.int .i64 1,.int .i64 (i64 y),.string ⟨#[]⟩],.int .i64 0]) ?_ rfl (.inr ⟨_,_,takeF_int hle,by rw [HY.out],?_,?_⟩)
  ·rw [<- wrap_i64 hx]
   simp [results,Tryz.results271,go_sem,c0,c1,c2]
  ·exact ((HD.out.far (by exact HR.out.lt) _).far (by exact HR.out.lt) _).far (by exact HR.out.lt) _
  ·exact only_setCell (only_setCell (only_setCell (only_trans (only_alloc (World.grownBy.refl w (some g)) _) HO.out (.inl rfl)) (.inr (Nat.le_refl _)) _) (.inr (Nat.le_refl _)) _) (.inr (Nat.le_refl _)) _
theorem rtext_any (B g : Nat) (l : List UInt8) (w : World) (hr : Reader w B g l) :
 Calls Tryz.prog 272 #[.pointer (some ⟨g,0,none⟩)] w (Read1 w B g (takeF (2 :: l))) := by
 have HR := hid hr
 clear hr
 go_enter Tryz.func272,Tryz.ntmps272
 go_wp2_with fail
 refine (count_any B g l 4096 _ (HR.out.alloc _) (by omega)).mono ?_
 rintro e w1 (⟨hlt,rfl,rfl⟩ | ⟨hle,hbig,rfl,hon⟩ | ⟨hle,hsm,rfl,hrd,hon,hsz⟩)
 ·go_wp2
  refine bodyPost_ret (v := .tuple #[.agg #[.int .i64 0,.int .i64 0,.string ⟨#[]⟩],.int .i64 2]) (by simp [results,Tryz.results272,go_sem]) rfl (.inl ⟨2,takeF_text_short hlt,rfl,?_⟩)
  exact only_alloc (World.grownBy.refl _ _) _
 ·obtain ⟨c0,c1,c2,f0,f1,f2⟩ := box_of hon HR.out.lt rfl
  have HO := hid hon
  have HG := hid hbig
  clear hon hbig
  go_wp2
  refine bodyPost_ret (v := .tuple #[.agg #[.int .i64 0,.int .i64 0,.string ⟨#[]⟩],.int .i64 3]) (by simp [results,Tryz.results272,go_sem,c0,c1,c2]) rfl (.inl ⟨3,takeF_text_long hle HG.out,rfl,?_⟩)
  exact only_setCell (only_setCell (only_setCell (only_trans (only_alloc (World.grownBy.refl w (some g)) _) HO.out (.inl rfl)) (.inr (Nat.le_refl _)) _) (.inr (Nat.le_refl _)) _) (.inr (Nat.le_refl _)) _
 ·have HD := hid hrd
  have HO := hid hon
  have HS := hid hsz
  clear hrd hon hsz
  generalize hy : num (l.take 2) = y at hsm
  have HY := hid hy
  clear hy
  go_wp2_with fail
  refine (take_any B g (l.drop 2) y _ HD.out (by omega)).mono ?_
  rintro e w2 (⟨hlt,rfl,rfl⟩ | ⟨hle2,A,c,rfl,hby,hrd2,hon2,hsz2⟩)
  ·obtain ⟨c0,c1,c2,f0,f1,f2⟩ := box_of HO.out HR.out.lt rfl
   go_wp2
   refine bodyPost_ret (v := .tuple #[.agg #[.int .i64 0,.int .i64 0,.string ⟨#[]⟩],.int .i64 2]) (by simp [results,Tryz.results272,go_sem,c0,c1,c2]) rfl (.inl ⟨2,takeF_text_lacks hle (by rw [HY.out]; exact hsm) (by rw [HY.out]; exact hlt),rfl,?_⟩)
   exact only_setCell (only_setCell (only_setCell (only_trans (only_alloc (World.grownBy.refl w (some g)) _) HO.out (.inl rfl)) (.inr (Nat.le_refl _)) _) (.inr (Nat.le_refl _)) _) (.inr (Nat.le_refl _)) _
  ·have hon3 := only_trans HO.out hon2 (.inl rfl)
   obtain ⟨c0,c1,c2,f0,f1,f2⟩ := box_of hon3 HR.out.lt rfl
   have HO3 := hid hon3
   have HD2 := hid hrd2
   have hcv := hby.str (P := Tryz.prog) Tryz.underlying68 Tryz.underlying5 Tryz.underlying9
   have HB := hid hby
   clear hon3 hon2 hsz2 hrd2 hby
   go_wp2
   refine bodyPost_ret (v := .tuple #[.agg #[.int .i64 2,.int .i64 0,.string (str ((l.drop 2).take y))],.int .i64 0]) (by simp [results,Tryz.results272,go_sem,c0,c1,c2]) rfl
    (.inr ⟨_,_,takeF_text hle (by rw [HY.out]; exact hsm) (by rw [HY.out]; exact hle2),by rw [HY.out]; rfl,?_,?_⟩)
   ·rw [HY.out]
    exact ((HD2.out.far (by exact HR.out.lt) _).far (by exact HR.out.lt) _).far (by exact HR.out.lt) _
   ·exact only_setCell (only_setCell (only_setCell (only_trans (only_alloc (World.grownBy.refl w (some g)) _) HO3.out (.inl rfl)) (.inr (Nat.le_refl _)) _) (.inr (Nat.le_refl _)) _) (.inr (Nat.le_refl _)) _
theorem num_one (k : UInt8) : num [k] = k.toNat := by rw [num_cons]; simp [num]
theorem rfield_any (B g : Nat) (l : List UInt8) (w : World) (hr : Reader w B g l) :
 Calls Tryz.prog 236 #[.pointer (some ⟨g,0,none⟩)] w (Read1 w B g (takeF l)) := by
 have HR := hid hr
 clear hr
 go_enter Tryz.func236,Tryz.ntmps236
 go_wp2_with fail
 refine (rnumber_any B g l 1 _ (HR.out.alloc _) (by omega) (by omega)).mono ?_
 rintro e w1 (⟨hlt,rfl,rfl⟩ | ⟨hle,rfl,hrd,hon,hsz⟩)
 ·have hnil : l = [] := List.eq_nil_of_length_eq_zero (by omega)
  subst hnil
  clear hlt
  go_wp2
  refine bodyPost_ret (v := .tuple #[.agg #[.int .i64 0,.int .i64 0,.string ⟨#[]⟩],.int .i64 2]) (by simp [results,Tryz.results236,go_sem]) rfl (.inl ⟨2,takeF_nil,rfl,?_⟩)
  exact only_alloc (World.grownBy.refl _ _) _
 ·obtain ⟨k,r,rfl⟩ : ∃ k r,l = k :: r := by
   cases l with
   | nil => simp at hle
   | cons k r => exact ⟨k,r,rfl⟩
  rw [List.take_succ_cons,List.take_zero,num_one]
  rw [List.drop_succ_cons,List.drop_zero] at hrd
  obtain ⟨c0,c1,c2,f0,f1,f2⟩ := box_of hon HR.out.lt rfl
  have HD := hid hrd
  have HO := hid hon
  clear hrd hon hsz hle
  by_cases h1 : k = 1
  ·subst h1
   go_wp2_with fail
   refine (integer_any B g r _ HD.out).mono ?_
   rintro e w2 (⟨q,hq,rfl,hon2⟩ | ⟨f,r',hq,rfl,hrd2,hon2⟩)
   ·have hon3 := only_trans HO.out hon2 (.inl rfl)
    obtain ⟨d0,d1,d2,g0,g1,g2⟩ := box_of hon3 HR.out.lt rfl
    have HO3 := hid hon3
    have HQ := hid hq
    clear hon3 hon2 hq c0 c1 c2 f0 f1 f2
    go_wp2
    refine bodyPost_ret (v := .tuple #[.agg #[.int .i64 0,.int .i64 0,.string ⟨#[]⟩],.int .i64 q]) (by simp [results,Tryz.results236,go_sem,d0,d1,d2]) rfl (.inl ⟨q,HQ.out,rfl,?_⟩)
    exact only_setCell (only_setCell (only_setCell (only_trans (only_alloc (World.grownBy.refl w (some g)) _) HO3.out (.inl rfl)) (.inr (Nat.le_refl _)) _) (.inr (Nat.le_refl _)) _) (.inr (Nat.le_refl _)) _
   ·have hon3 := only_trans HO.out hon2 (.inl rfl)
    obtain ⟨d0,d1,d2,g0,g1,g2⟩ := box_of hon3 HR.out.lt rfl
    have HO3 := hid hon3
    have HQ := hid hq
    have HD2 := hid hrd2
    clear hon3 hon2 hq hrd2 c0 c1 c2 f0 f1 f2
    go_wp2
    refine bodyPost_ret (v := .tuple #[.agg #[.int .i64 f.kind,.int .i64 f.n,.string f.s],.int .i64 0]) (by simp [results,Tryz.results236,go_sem,d0,d1,d2]) rfl (.inr ⟨f,r',HQ.out,rfl,?_,?_⟩)
    ·exact ((HD2.out.far (by exact HR.out.lt) _).far (by exact HR.out.lt) _).far (by exact HR.out.lt) _
    ·exact only_setCell (only_setCell (only_setCell (only_trans (only_alloc (World.grownBy.refl w (some g)) _) HO3.out (.inl rfl)) (.inr (Nat.le_refl _)) _) (.inr (Nat.le_refl _)) _) (.inr (Nat.le_refl _)) _
  ·have h1' : ((k.toNat : Int) == 1) = false := by
    simp only [beq_eq_false_iff_ne,ne_eq]
    intro h
    exact h1 (UInt8.toNat_inj.1 (by simpa using (by omega : k.toNat = 1)))
   by_cases h2 : k = 2
   ·subst h2
    go_wp2_with fail
    refine (rtext_any B g r _ HD.out).mono ?_
    rintro e w2 (⟨q,hq,rfl,hon2⟩ | ⟨f,r',hq,rfl,hrd2,hon2⟩)
    ·have hon3 := only_trans HO.out hon2 (.inl rfl)
     obtain ⟨d0,d1,d2,g0,g1,g2⟩ := box_of hon3 HR.out.lt rfl
     have HO3 := hid hon3
     have HQ := hid hq
     clear hon3 hon2 hq c0 c1 c2 f0 f1 f2
     go_wp2
     refine bodyPost_ret (v := .tuple #[.agg #[.int .i64 0,.int .i64 0,.string ⟨#[]⟩],.int .i64 q]) (by simp [results,Tryz.results236,go_sem,d0,d1,d2]) rfl (.inl ⟨q,HQ.out,rfl,?_⟩)
     exact only_setCell (only_setCell (only_setCell (only_trans (only_alloc (World.grownBy.refl w (some g)) _) HO3.out (.inl rfl)) (.inr (Nat.le_refl _)) _) (.inr (Nat.le_refl _)) _) (.inr (Nat.le_refl _)) _
    ·have hon3 := only_trans HO.out hon2 (.inl rfl)
     obtain ⟨d0,d1,d2,g0,g1,g2⟩ := box_of hon3 HR.out.lt rfl
     have HO3 := hid hon3
     have HQ := hid hq
     have HD2 := hid hrd2
     clear hon3 hon2 hq hrd2 c0 c1 c2 f0 f1 f2
     go_wp2
     refine bodyPost_ret (v := .tuple #[.agg #[.int .i64 f.kind,.int .i64 f.n,.string f.s],.int .i64 0]) (by simp [results,Tryz.results236,go_sem,d0,d1,d2]) rfl (.inr ⟨f,r',HQ.out,rfl,?_,?_⟩)
     ·exact ((HD2.out.far (by exact HR.out.lt) _).far (by exact HR.out.lt) _).far (by exact HR.out.lt) _
     ·exact only_setCell (only_setCell (only_setCell (only_trans (only_alloc (World.grownBy.refl w (some g)) _) HO3.out (.inl rfl)) (.inr (Nat.le_refl _)) _) (.inr (Nat.le_refl _)) _) (.inr (Nat.le_refl _)) _
   ·have h2' : ((k.toNat : Int) == 2) = false := by
     simp only [beq_eq_false_iff_ne,ne_eq]
     intro h
     exact h2 (UInt8.toNat_inj.1 (by simpa using (by omega : k.toNat = 2)))
    go_wp2
    refine bodyPost_ret (v := .tuple #[.agg #[.int .i64 0,.int .i64 0,.string ⟨#[]⟩],.int .i64 3]) (by simp [results,Tryz.results236,go_sem,c0,c1,c2]) rfl (.inl ⟨3,takeF_other h1 h2,rfl,?_⟩)
    exact only_setCell (only_setCell (only_setCell (only_trans (only_alloc (World.grownBy.refl w (some g)) _) HO.out (.inl rfl)) (.inr (Nat.le_refl _)) _) (.inr (Nat.le_refl _)) _) (.inr (Nat.le_refl _)) _
end Field
namespace Field
open Go.RowKit Base FieldMath
def after (fs : List Fld) : Except Nat (List Fld × List UInt8) -> Except Nat (List Fld × List UInt8)
 | .error e => .error e
 | .ok (gs,r) => .ok (fs ++ gs,r)
theorem after_start (x : Except Nat (List Fld × List UInt8)) : x = after [] x := by
 match x with
 | .error _ => rfl
 | .ok (_,_) => rfl
theorem after_step {fs : List Fld} {f : Fld} {r r' : List UInt8} {n m : Nat} (h : takeF r = .ok (f,r')) (hn : n = m + 1) : after fs (takeN n r) = after (fs ++ [f]) (takeN m r') := by
 subst hn
 rw [takeN,h]
 simp only []
 match takeN m r' with
 | .error _ => rfl
 | .ok (gs,q) => simp [after]
theorem after_err {fs : List Fld} {r : List UInt8} {n e : Nat} (h : takeF r = .error e) (hn : 0 < n) : after fs (takeN n r) = .error e := by
 obtain ⟨m,rfl⟩ : ∃ m,n = m + 1 := ⟨n - 1,by omega⟩
 rw [takeN,h]
 rfl
theorem after_end {fs : List Fld} {r : List UInt8} {n : Nat} (hn : n = 0) : after fs (takeN n r) = .ok (fs,r) := by
 subst hn
 simp [takeN,after]
def Decoded (w : World) (l : List UInt8) (e : Ending) (w' : World) : Prop :=
 ∃ A n c,e = .returned (.tuple #[.slice A n c,.int .i64 (err (dec l))]) /\ Flds w' w'.heap.size A n c (got (dec l)) /\ Below w.heap.size w w'
theorem decoded_err {w w' : World} {l : List UInt8} {e : Ending} {k : Nat} (h : dec l = .error k) (he : e = .returned (.tuple #[.slice none 0 0,.int .i64 k])) (hb : Below w.heap.size w w') : Decoded w l e w' := by
 unfold Decoded
 rw [h]
 exact ⟨none,0,0,he,Flds.nil_ _ _,hb⟩
theorem dec_short {l : List UInt8} (h : l.length < 2) : dec l = .error 2 := by unfold dec; rw [if_pos h]
theorem dec_many {l : List UInt8} (h : 2 <= l.length) (h1 : 32767 < num (l.take 2)) : dec l = .error 3 := by unfold dec; rw [if_neg (by omega),if_pos h1]
theorem dec_err {l : List UInt8} {e : Nat} (h : 2 <= l.length) (h1 : num (l.take 2) <= 32767) (h2 : takeN (num (l.take 2)) (l.drop 2) = .error e) : dec l = .error e := by unfold dec; rw [if_neg (by omega),if_neg (by omega),h2]
theorem dec_left {l r : List UInt8} {fs : List Fld} (h : 2 <= l.length) (h1 : num (l.take 2) <= 32767) (h2 : takeN (num (l.take 2)) (l.drop 2) = .ok (fs,r)) : dec l = if 0 < r.length then .error 3 else .ok fs := by unfold dec; rw [if_neg (by omega),if_neg (by omega),h2]
theorem own_far {w w' : World} {g n : Nat} {e : TypeId} {size : Nat} {v : Value} {xs : List Value} (h : w.ownsRow (g + 1) e size v n xs) (hg : w.grownBy w' (some g)) : w'.ownsRow (g + 1) e size v n xs :=
 h.kept hg (.inr fun e => by have := (h.lt g e).1; omega)
theorem one_fld (w : World) (e : TypeId) (f : Fld) {s : Nat} (hs : s = w.heap.size) : Row (w.alloc (.cells #[.int .i64 f.kind,.int .i64 f.n,.string f.s] e)) (w.heap.size + 1) 3 (some ⟨s,0,none⟩) 1 1 (fv [f]) :=
 Row.lit w #[.int .i64 f.kind,.int .i64 f.n,.string f.s] e (0,0) hs rfl (by omega)
def DecRel (w : World) (B N : Nat) (l : List UInt8) (v i : Value) (wr : World) : Prop :=
 ∃ (k : Nat) (fs : List Fld) (r : List UInt8) (A : Option Addr) (c : Nat),k <= N /\ i = .int .i64 k /\ v = .slice A k c /\ wr.ownsRow (w.heap.size + 1) 143 3 (.slice A k c) k (fv fs) /\ Reader wr B w.heap.size r /\ Below w.heap.size w wr /\
   takeN N l = after fs (takeN (N - k) r)
theorem decode_any (B : Nat) (A : Option Addr) (n c : Nat) (l : List UInt8) (w : World) (hr : Bytes w B A n c l) (hB : B <= w.heap.size) :
 Calls Tryz.prog 183 #[.slice A n c] w (Decoded w l) := by
 have HR := hid hr
 clear hr
 go_enter Tryz.func183,Tryz.ntmps183
 go_wp2_with fail
 have hrd : Reader (w.alloc (.cells #[.slice A n c] 306)) B w.heap.size l := ⟨A,n,c,Blk.new _ _ _,HR.out.alloc hB _,hB⟩
 have hbel : Below w.heap.size w (w.alloc (.cells #[.slice A n c] 306)) := (Below.refl _ _).alloc (Nat.le_refl _) _
 have HB0 := hid hbel
 have HR0 := hid hrd
 clear hrd hbel
 refine (count_any B w.heap.size l 32767 _ HR0.out (by omega)).mono ?_
 rintro e w1 (⟨hlt,rfl,rfl⟩ | ⟨hle,hbig,rfl,hon⟩ | ⟨hle,hsm,rfl,hrd,hon,hsz⟩)
 ·go_wp2
  go_ret2
  exact decoded_err (dec_short hlt) rfl HB0.out
 ·have HO := hid hon
  have HG := hid hbig
  clear hon hbig
  go_wp2
  go_ret2
  exact decoded_err (dec_many hle HG.out) rfl (HB0.out.trans (below_of_only HO.out (by simp)))
 ·have HD := hid hrd
  have HB1 := hid (HB0.out.trans (below_of_only hon (by simp)))
  have hz1 : w.heap.size + 1 <= w1.heap.size := by rw [hsz]; simp
  clear hrd hon hsz
  generalize hy : num (l.take 2) = N at hsm
  have HY := hid hy
  clear hy
  go_wp2
  go_loopw [7,20,8,9] (fun v i _ _ wr => DecRel w B N (l.drop 2) v i wr) (fun _ i _ _ _ => N - (RowKit.intOf i).toNat)
  case atStart => exact ⟨0,[],l.drop 2,none,0,by omega,rfl,rfl,World.ownsRow_nil _ _ _ _,HD.out,HB1.out,after_start _⟩
  case round =>
   obtain ⟨k,fs,r,A1,c1,hk,rfl,rfl,hown,hrd,hbel,hta⟩ := hrel
   have HO := hid hown
   have HD1 := hid hrd
   have HB := hid hbel
   have HT := hid hta
   clear hown hrd hbel hta
   by_cases hlt : k < N
   ·go_wp2_with fail
    refine (rfield_any B w.heap.size r _ HD1.out).mono ?_
    rintro e w2 (⟨q,hq,rfl,hon2⟩ | ⟨f,r',hq,rfl,hrd2,hon2⟩)
    ·have hq0 : q ≠ 0 := by have := takeF_err hq; omega
     have hq' : ((q : Int) != 0) = true := by simp; omega
     have HQ := hid hq
     have HB2 := hid (HB.out.trans (below_of_only hon2 (by have := HB.out.size; omega)))
     clear hq hon2 hq0
     go_wp2
     go_ret2
     exact decoded_err (dec_err hle (by rw [HY.out]; exact hsm) (by rw [HY.out,HT.out]; exact after_err HQ.out (by omega))) rfl (HB2.out.alloc (by exact HB2.out.size) _)
    ·have HQ := hid hq
     have HB2 := hid (HB.out.trans (below_of_only hon2 (by have := HB.out.size; omega)))
     have HO2 := hid (own_far HO.out hon2)
     have HD2 := hid hrd2
     have hz2 : w.heap.size + 1 <= w2.heap.size := HD2.out.lt
     clear hq hon2 hrd2
     go_wp2_with (first
      | (at_builtin
         refine wpList_append_row rfl (.tmp 29) (.tmp 31) rfl ef (w.heap.size + 1) _ k (fv fs) rfl ((HO2.out.alloc _).alloc _) _ _ 1 1 (fv [f]) rfl (one_fld _ _ f (by simp)) (fv_one _) (by omega) (by omega) (by simp; omega) ?_
         intro A2 c2 w3 hown3 hg3 hb3
         have HO3 := hid hown3
         have HD3 := hid (((HD2.out.alloc _).alloc _).only hg3.1 (fun q hq => by have := (HO2.out.lt q hq).1; omega))
         have HB3 := hid (((HB2.out.alloc (by omega) _).alloc (by simp; omega) _).trans (hb3.mono (by omega)))
         clear hown3 hg3 hb3))
     go_roundw
     case rel =>
      refine ⟨k + 1,fs ++ [f],r',A2,c2,by omega,by go_num,rfl,by rw [fv_append]; exact HO3.out,HD3.out,HB3.out,?_⟩
      rw [HT.out]
      exact after_step HQ.out (by omega)
     case measure => simp [RowKit.intOf]; omega
   ·have HE := hid (HT.out.trans (after_end (by omega)))
    clear HT
    obtain ⟨A2,n2,c2,hb2,hy2,_⟩ := HD1.out
    have hcell : wr.cell? ⟨w.heap.size,0,none⟩ = some (.slice A2 n2 c2) := hb2.cell 0
    have hrl := hy2.len
    have HL := hid hrl
    have hn2 := hy2.le
    clear hb2 hy2 hrl
    have HF := hid (dec_left hle (by rw [HY.out]; exact hsm) (by rw [HY.out]; exact HE.out))
    have HO4 := hid (Flds.of_own HO.out)
    by_cases hpos : 0 < n2
    ·go_wp2
     go_ret2
     exact decoded_err (by rw [HF.out,if_pos (by rw [HL.out]; exact hpos)]) rfl HB.out
    ·go_wp2
     go_ret2
     refine ⟨A1,k,c1,?_,?_,HB.out⟩
     ·rw [HF.out,if_neg (by rw [HL.out]; exact hpos)]; rfl
     ·rw [HF.out,if_neg (by rw [HL.out]; exact hpos)]; exact HO4.out
end Field
end Go.Proofs.YtefnmnpfecfdaaaGreat
