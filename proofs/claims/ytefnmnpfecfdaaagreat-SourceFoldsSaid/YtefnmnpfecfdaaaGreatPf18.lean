/-
  Texts of one proof: DiskCode, DiskOps, DiskAppend.
-/
import Derived.Test.YtefnmnpfecfdaaaGreatPf17
set_option linter.all false
set_option maxRecDepth 100000
set_option maxHeartbeats 800000
open Go.Lib (hid)
namespace Go.Proofs.YtefnmnpfecfdaaaGreat
namespace Disk
open Go.RowKit Base DiskMath Foot
def Fits (d : Dk) : Prop := d.ops < 4611686018427387904 /\ d.left < 9223372036854775808
def I64 (f : Int) : Prop := -9223372036854775808 <= f /\ f <= 9223372036854775807
theorem I64.wf {f : Int} (h : I64 f) : (Lit.int .i64 f).wf = true := by
 unfold I64 at h
 simp [Lit.wf,IntKind.min,IntKind.max,IntKind.signed,IntKind.bits]
 omega
theorem Head.cells {w : World} {g m : Nat} {d : Dk} (h : Head w g d m) :
 w.cell? ⟨g,0,none⟩ = some (.int .i64 d.ops) /\ w.cell? ⟨g,1,none⟩ = some (.int .i64 d.left) /\ w.cell? ⟨g,2,none⟩ = some (.bool d.off) /\ w.cell? ⟨g,3,none⟩ = some (.map (some m)) :=
 ⟨Blk.cell h 0,Blk.cell h 1,Blk.cell h 2,Blk.cell h 3⟩
theorem only_set {a w : World} {g : Nat} (h : a.grownBy w (some g)) (o : Nat) (u : Value) : a.grownBy (w.setCell ⟨g,o,none⟩ u) (some g) := only_setCell h (.inl rfl) u
theorem only_three (w : World) (g : Nat) (u v x : Value) : w.grownBy (((w.setCell ⟨g,0,none⟩ u).setCell ⟨g,1,none⟩ v).setCell ⟨g,2,none⟩ x) (some g) := only_set (only_set (only_set (World.grownBy.refl _ _) _ _) _ _) _ _
theorem spend_any (g m : Nat) (d : Dk) (w : World) (hh : Head w g d m) (hoff : d.off = false) (hf : Fits d) :
 Calls Tryz.prog 82 #[.pointer (some ⟨g,0,none⟩)] w fun e w' => e = .returned (.int .i64 (told d)) /\ Head w' g (tick d) m /\ w.grownBy w' (some g) := by
 obtain ⟨files,left,off,ops⟩ := d
 obtain ⟨hf1,hf2⟩ := hf
 dsimp only at hoff hf1 hf2
 subst hoff
 obtain ⟨c0,c1,c2,_⟩ := hh.cells
 dsimp only at c0 c1 c2
 have z0 := Blk.frozen hh 0
 have z1 := Blk.frozen hh 1
 have z2 := Blk.frozen hh 2
 have HH := hid hh
 clear hh
 rcases Nat.eq_zero_or_pos left with h0 | h0
 ·subst h0
  go_enter Tryz.func82,Tryz.ntmps82
  go_wp2
  go_ret
  refine ⟨rfl,?_,only_set (World.grownBy.refl _ _) _ _⟩
  exact Blk.set_ HH.out 0 (.int .i64 (ops + 1))
 ·by_cases h1 : left = 1
  ·subst h1
   go_enter Tryz.func82,Tryz.ntmps82
   go_wp2
   go_ret
   refine ⟨rfl,?_,only_three _ _ _ _ _⟩
   exact Blk.set_ (Blk.set_ (Blk.set_ HH.out 0 (.int .i64 (ops + 1))) 1 (.int .i64 0)) 2 (.bool true)
  ·have hb : ((left : Int) - 1 == 0) = false := by simp; omega
   have HT := hid (show told ⟨files,left,false,ops⟩ = 0 from if_neg h1)
   have HL := hid (show ((left : Int) - 1) = ((left - 1 : Nat) : Int) by omega)
   have HB := hid (show decide (left = 1) = false from decide_eq_false h1)
   clear h1
   go_enter Tryz.func82,Tryz.ntmps82
   go_wp2
   go_ret
   refine ⟨by rw [HT.out]; rfl,?_,only_three _ _ _ _ _⟩
   have := Blk.set_ (Blk.set_ (Blk.set_ HH.out 0 (.int .i64 (ops + 1))) 1 (.int .i64 (left - 1))) 2 (.bool false)
   unfold Head tick
   dsimp only
   rw [HB.out]
   rw [HL.out] at this ⊢
   exact this
theorem refuse_seen {d : Dk} {f : Int} {x : Fl} (hoff : d.off = false) (hu : Up 0 d.files) (hx : seek d.files f = some x) : 0 <= f /\ f < 16384 /\ refuse d f true = 0 := by
 obtain ⟨h1,h2⟩ := seek_mem hx
 have := hu.mem x h1
 refine ⟨by omega,by omega,?_⟩
 unfold refuse
 rw [hoff,hx,if_neg (by simp),if_neg (by omega),if_neg (by simp)]
theorem find_yes (F : Nat -> Prop) (g m : Nat) (pl : Int -> Pl) (d : Dk) (f : Int) (x : Fl) (w : World) (hh : Head w g d m) (hb : Body w F d.files m pl) (hoff : d.off = false) (hx : seek d.files f = some x) :
 Calls Tryz.prog 81 #[.pointer (some ⟨g,0,none⟩),.int .i64 f] w fun e w' => e = .returned (.tuple #[.pointer (some ⟨(pl f).p,0,none⟩),.int .i64 0]) /\ w = w' := by
 obtain ⟨h0,h1,h2⟩ := refuse_seen hoff hb.2.2.2 hx
 clear h2
 have hl := hb.finds (f := f) (I64.wf ⟨by omega,by omega⟩)
 obtain ⟨_,_,c2,c3⟩ := hh.cells
 rw [hoff] at c2
 rw [hx,Option.map_some] at hl
 clear hx hb hh hoff
 have h3 : decide (f < 0) = false := by simp; omega
 have h4 : decide (16384 <= f) = false := by simp; omega
 clear h0 h1
 go_enter Tryz.func81,Tryz.ntmps81
 go_wp2
 go_ret2
 exact ⟨rfl,rfl⟩
theorem find_no (F : Nat -> Prop) (g m : Nat) (pl : Int -> Pl) (d : Dk) (f k : Int) (w : World) (hh : Head w g d m) (hb : Body w F d.files m pl) (hr : refuse d f true = k) (hk : k ≠ 0) :
 Calls Tryz.prog 81 #[.pointer (some ⟨g,0,none⟩),.int .i64 f] w fun e w' => e = .returned (.tuple #[.pointer none,.int .i64 k]) /\ w = w' := by
 obtain ⟨_,_,c2,c3⟩ := hh.cells
 unfold refuse at hr
 by_cases h1 : d.off = true
 ·rw [h1] at c2
  rw [if_pos h1] at hr
  subst hr
  clear h1 hb hh
  go_enter Tryz.func81,Tryz.ntmps81
  go_wp2
  go_ret2
  exact ⟨rfl,rfl⟩
 ·rw [Bool.not_eq_true] at h1
  rw [h1] at c2
  rw [h1,if_neg (by simp)] at hr
  by_cases h2 : f < 0 \/ 16384 <= f
  ·rw [if_pos h2] at hr
   subst hr
   rcases h2 with h2 | h2
   ·clear h1 hb hh
    go_enter Tryz.func81,Tryz.ntmps81
    go_wp2
    go_ret2
    exact ⟨rfl,rfl⟩
   ·have h3 : decide (f < 0) = false := by simp; omega
    clear h1 hb hh
    go_enter Tryz.func81,Tryz.ntmps81
    go_wp2
    go_ret2
    exact ⟨rfl,rfl⟩
  ·rw [if_neg h2] at hr
   cases hx : seek d.files f with
   | some x =>
     rw [hx,if_neg (by simp)] at hr
     exact absurd hr.symm hk
   | none =>
     rw [hx,if_pos (by simp)] at hr
     subst hr
     have h3 : 0 <= f := by omega
     have h4 : f < 16384 := by omega
     have hl := hb.finds (f := f) (I64.wf ⟨by omega,by omega⟩)
     rw [hx,Option.map_none] at hl
     clear h1 h2 hb hh hx
     have h5 : decide (f < 0) = false := by simp; omega
     have h6 : decide (16384 <= f) = false := by simp; omega
     clear h3 h4
     go_enter Tryz.func81,Tryz.ntmps81
     go_wp2
     go_ret2
     exact ⟨rfl,rfl⟩
end Disk
namespace Disk
open Go.RowKit Base DiskMath Foot
def Done (F : Nat -> Prop) (w : World) (g : Nat) (r : Int × Dk) (e : Ending) (w' : World) : Prop := e = .returned (.int .i64 r.1) /\ DiskAt (Out F w w') w' g r.2 /\ Turn F w w'
theorem own_cut {w : World} {base len c : Nat} {e : TypeId} {A : Option Addr} {xs : List Value} (h : w.ownsRow base e 1 (.slice A len c) len xs) {n : Nat} (hn : n <= len) : w.ownsRow base e 1 (.slice A n c) n (xs.take n) := by
 rcases h with ⟨h1,⟨hv,h0⟩ | ⟨g,cap,cur,hv,hg,h3,h4,h5,h6,h7⟩⟩
 ·obtain rfl : n = 0 := by omega
  simp only [Value.slice.injEq] at hv
  obtain ⟨rfl,_,rfl⟩ := hv
  exact ⟨by simp,.inl ⟨rfl,rfl⟩⟩
 ·simp only [Value.slice.injEq] at hv
  obtain ⟨rfl,_,rfl⟩ := hv
  refine ⟨by rw [List.length_take,h1]; omega,.inr ⟨g,c,cur,rfl,hg,h3,by omega,h5,h6,?_⟩⟩
  rw [<- h7,List.take_take]
  congr 1
  omega
theorem take_len {l : List UInt8} {n : Nat} (h : n <= l.length) : (l.take n).length = n := by rw [List.length_take]; omega
theorem FileAt.wrote {w : World} {F : Nat -> Prop} {x : Fl} {p c : Nat} {A : Option Addr} (h : FileAt w F x ⟨p,A,c⟩) {n : Nat} (hn : n <= x.b.length) (s : Nat) :
 FileAt ((w.setCell ⟨p,0,none⟩ (.slice A n c)).setCell ⟨p,1,none⟩ (.int .i64 s)) F ⟨x.id,x.b.take n,s⟩ ⟨p,A,c⟩ := by
 have hl := take_len hn
 obtain ⟨h1,h2,h3,h4⟩ := h
 refine ⟨?_,h2,?_,h4⟩
 ·have := Blk.set_ (Blk.set_ h1 0 (.slice A n c)) 1 (.int .i64 s)
  dsimp only
  rw [hl]
  exact this
 ·dsimp only
  rw [hl]
  have hc := own_cut h3 hn
  rw [bv_take] at hc
  refine own_same hc fun g hg => ?_
  obtain ⟨cur,hcur⟩ := own_type hc hg
  have hne : g ≠ p := fun e => by
   unfold Blk at h1
   dsimp only at h1
   rw [<- e,hcur] at h1
   cases h1
  rw [Below.heap_setCell _ _ _ _ hne,Below.heap_setCell _ _ _ _ hne]
theorem only_two (w : World) (g : Nat) (u v : Value) : w.grownBy ((w.setCell ⟨g,0,none⟩ u).setCell ⟨g,1,none⟩ v) (some g) := only_set (only_set (World.grownBy.refl _ _) _ _) _ _
theorem fcut_any (F : Nat -> Prop) (x : Fl) (q : Pl) (n : Nat) (w : World) (h : FileAt w F x q) (hn : n <= x.b.length) :
 Calls Tryz.prog 113 #[.pointer (some ⟨q.p,0,none⟩),.int .i64 n] w fun e w' => e = .returned (.tuple #[]) /\ FileAt w' F (trim n x) q /\ w.grownBy w' (some q.p) := by
 have hle := h.bytes.le
 have c0 : w.cell? ⟨q.p,0,none⟩ = some (.slice q.A x.b.length q.c) := Blk.cell h.1 0
 have c1 : w.cell? ⟨q.p,1,none⟩ = some (.int .i64 x.safe) := Blk.cell h.1 1
 have z0 := Blk.frozen h.1 0
 have z1 := Blk.frozen h.1 1
 obtain ⟨p,A,c⟩ := q
 have HF : Hid (∀ s : Nat,FileAt ((w.setCell ⟨p,0,none⟩ (.slice A n c)).setCell ⟨p,1,none⟩ (.int .i64 s)) F ⟨x.id,x.b.take n,s⟩ ⟨p,A,c⟩) := h.wrote hn
 clear h
 dsimp only at hle c0 c1 z0 z1
 generalize x.b.length = k at hle c0 hn
 generalize hj : x.safe = j at c1
 have HJ := hid hj
 clear hj
 by_cases hlt : n < j
 ·have HM := hid (show min x.safe n = n by rw [HJ.out]; omega)
  go_enter Tryz.func113,Tryz.ntmps113
  go_wp2
  go_end0
  refine ⟨rfl,?_,only_two _ _ _ _⟩
  unfold trim
  rw [HM.out]
  exact HF.out n
 ·have HM := hid (show min x.safe n = j by rw [HJ.out]; omega)
  go_enter Tryz.func113,Tryz.ntmps113
  go_wp2
  go_end0
  refine ⟨rfl,?_,only_two _ _ _ _⟩
  unfold trim
  rw [HM.out]
  exact HF.out j
theorem Done.no {F : Nat -> Prop} {w : World} {g : Nat} {d : Dk} (h : DiskAt F w g d) {k : Int} : Done F w g (k,d) (.returned (.int .i64 k)) w :=
 ⟨rfl,h.mono fun _ hi => .inl hi,Turn.refl _ _⟩
theorem sync_no {d : Dk} {f k : Int} (h : refuse d f true = k) (hk : k ≠ 0) : sync d f = (k,d) := by rw [sync,h,if_neg hk]
theorem cut_no {d : Dk} {f n k : Int} (h : refuse d f true = k) (hk : k ≠ 0) : cut d f n = (k,d) := by rw [cut,h,if_neg hk]
theorem remove_no {d : Dk} {f k : Int} (h : refuse d f true = k) (hk : k ≠ 0) : remove d f = (k,d) := by rw [remove,h,if_neg hk]
theorem refuse_zero {d : Dk} {f : Int} (h : refuse d f true = 0) : d.off = false /\ 0 <= f /\ f < 16384 /\ ∃ x,seek d.files f = some x := by
 unfold refuse at h
 split at h
 ·omega
 ·rename_i h1
  split at h
  ·omega
  ·rename_i h2
   split at h
   ·omega
   ·rename_i h3
    refine ⟨by simpa using h1,by omega,by omega,?_⟩
    cases hx : seek d.files f with
    | none => exact absurd ⟨rfl,hx⟩ h3
    | some x => exact ⟨x,rfl⟩
theorem ticked {F : Nat -> Prop} {w w1 : World} {g m : Nat} {pl : Int -> Pl} {d : Dk} (hh : Head w1 g (tick d) m) (hg : F g) (hb : Body w1 F d.files m pl) (hw : w.grownBy w1 (some g)) : DiskAt (Out F w w1) w1 g (tick d) /\ Turn F w w1 :=
 ⟨⟨m,pl,hh,.inl hg,hb.mono fun _ hi => .inl hi⟩,Turn.grown hw fun k e => by injection e with e; rw [<- e]; exact hg⟩
theorem told_one {d : Dk} (h : d.left = 1) (l : List Fl) : told d = 8 /\ oper d l = (8,tick d) := by rw [told,oper,if_pos h,if_pos h]; exact ⟨rfl,rfl⟩
theorem told_more {d : Dk} (h : ¬ d.left = 1) (l : List Fl) : told d = 0 /\ oper d l = (0,{ tick d with files := l }) := by rw [told,oper,if_neg h,if_neg h]; exact ⟨rfl,rfl⟩
theorem turned {F : Nat -> Prop} {w w1 w2 : World} {g m : Nat} {pl : Int -> Pl} {d : Dk} {f : Int} {x : Fl} {t : Fl -> Fl} (hh : Head w1 g (tick d) m) (hg : F g) (hb : Body w1 F d.files m pl) (hw : w.grownBy w1 (some g)) (hx : seek d.files f = some x)
 (ht : ∀ x,(t x).id = x.id) (hs : ∀ x,x.safe <= x.b.length -> (t x).safe <= (t x).b.length) (hq : FileAt w2 F (t x) (pl f)) (h2 : w1.grownBy w2 (some (pl f).p)) : DiskAt (Out F w w2) w2 g { tick d with files := put d.files f t } /\ Turn F w w2 := by
 have hX := hb.2.2.1.1 x (seek_mem hx).1
 rw [(seek_mem hx).2] at hX
 have hgp : g ≠ (pl f).p := fun e => by
  have a := hX.1
  unfold Blk at a
  unfold Head Blk at hh
  rw [<- e,hh] at a
  cases a
 refine ⟨⟨m,upd pl f (pl f),(h2.block g (Blk.lt hh) fun e => hgp (by injection e)).trans hh,.inl hg,?_⟩,?_⟩
 ·exact hb.turn hx ht hs (fun i hi hp _ => h2.block i hi fun e => hp (by injection e)) (hq.mono fun _ hi => .inl hi) rfl (.inl rfl) fun _ hi => .inl hi
 ·refine (Turn.grown hw fun k e => by injection e with e; rw [<- e]; exact hg).trans (Turn.grown (F := F) h2 fun k e => by injection e with e; rw [<- e]; exact hX.2.1) fun _ hi => .inl hi
theorem sync_any (F : Nat -> Prop) (g : Nat) (d : Dk) (f : Int) (w : World) (h : DiskAt F w g d) (hf : Fits d) :
 Calls Tryz.prog 173 #[.pointer (some ⟨g,0,none⟩),.int .i64 f] w (Done F w g (sync d f)) := by
 obtain ⟨m,pl,hh,hg,hb⟩ := h
 by_cases hr : refuse d f true = 0
 ·obtain ⟨hoff,h0,h1,x,hx⟩ := refuse_zero hr
  have HX := hid hx
  have HH := hid hh
  have HB := hid hb
  have HO := hid hoff
  clear hh hb hx hoff
  by_cases hl : d.left = 1
  ·have HT := hid (told_one hl (put d.files f sure)).1
   have HS := hid (show sync d f = (8,tick d) by rw [sync,if_pos hr,(told_one hl _).2])
   clear hl hr
   go_enter Tryz.func173,Tryz.ntmps173
   go_wp2_with fail
   refine (find_yes F g m pl d f x w HH.out HB.out HO.out HX.out).mono ?_
   rintro e w' ⟨rfl,rfl⟩
   go_wp2_with fail
   refine (spend_any g m d w HH.out HO.out hf).mono ?_
   rintro e w1 ⟨rfl,hh1,hw1⟩
   have HD := hid (ticked hh1 hg (HB.out.head HH.out hw1) hw1)
   clear hh1 hw1
   rw [HT.out]
   go_wp2
   go_ret
   rw [HS.out]
   exact ⟨rfl,HD.out⟩
  ·have HT := hid (told_more hl (put d.files f sure)).1
   have HS := hid (show sync d f = (0,{ tick d with files := put d.files f sure }) by rw [sync,if_pos hr,(told_more hl _).2])
   clear hl hr
   go_enter Tryz.func173,Tryz.ntmps173
   go_wp2_with fail
   refine (find_yes F g m pl d f x w HH.out HB.out HO.out HX.out).mono ?_
   rintro e w' ⟨rfl,rfl⟩
   go_wp2_with fail
   refine (spend_any g m d w HH.out HO.out hf).mono ?_
   rintro e w1 ⟨rfl,hh1,hw1⟩
   have hb1 := HB.out.head HH.out hw1
   have hX := hb1.2.2.1.1 x (seek_mem HX.out).1
   rw [(seek_mem HX.out).2] at hX
   have c0 : w1.cell? ⟨(pl f).p,0,none⟩ = some (.slice (pl f).A x.b.length (pl f).c) := Blk.cell hX.1 0
   have c1 : w1.cell? ⟨(pl f).p,1,none⟩ = some (.int .i64 x.safe) := Blk.cell hX.1 1
   have z1 := Blk.frozen hX.1 1
   have HD : Hid (DiskAt (Out F w (w1.setCell ⟨(pl f).p,1,none⟩ (.int .i64 x.b.length))) (w1.setCell ⟨(pl f).p,1,none⟩ (.int .i64 x.b.length)) g { tick d with files := put d.files f sure } /\ Turn F w (w1.setCell ⟨(pl f).p,1,none⟩ (.int .i64 x.b.length))) := by
    refine turned hh1 hg hb1 hw1 HX.out (fun _ => rfl) sure_ok ?_ (only_set (World.grownBy.refl _ _) _ _)
    refine ⟨Blk.set_ hX.1 1 _,hX.2.1,own_same hX.2.2.1 fun k hk => ?_,hX.2.2.2⟩
    obtain ⟨cur,hcur⟩ := own_type hX.2.2.1 hk
    refine Below.heap_setCell _ _ _ _ fun e => ?_
    have a := hX.1
    unfold Blk at a
    dsimp only at e
    rw [<- e,hcur] at a
    cases a
   clear hh1 hw1 hb1 hX
   rw [HT.out]
   generalize (pl f).p = p at c0 c1 z1 HD ⊢
   generalize (pl f).A = A at c0
   generalize (pl f).c = c at c0
   go_wp2
   go_ret
   rw [HS.out]
   exact ⟨rfl,HD.out⟩
 ·have HS := hid (sync_no rfl hr)
  generalize hk : refuse d f true = k at hr HS
  have HK := hid hk
  have HH := hid hh
  have HB := hid hb
  have hne : (k == 0) = false := by simpa using hr
  clear hh hb hk
  go_enter Tryz.func173,Tryz.ntmps173
  go_wp2_with fail
  refine (find_no F g m pl d f k w HH.out HB.out HK.out hr).mono ?_
  rintro e w' ⟨rfl,rfl⟩
  go_wp2
  go_ret
  rw [HS.out]
  exact Done.no ⟨m,pl,HH.out,hg,HB.out⟩
theorem size_seen {d : Dk} {f : Int} {x : Fl} (h : seek d.files f = some x) : size d f = x.b.length := by rw [size,h]
theorem cut_any (F : Nat -> Prop) (g : Nat) (d : Dk) (f n : Int) (w : World) (h : DiskAt F w g d) (hf : Fits d) :
 Calls Tryz.prog 162 #[.pointer (some ⟨g,0,none⟩),.int .i64 f,.int .i64 n] w (Done F w g (cut d f n)) := by
 obtain ⟨m,pl,hh,hg,hb⟩ := h
 by_cases hr : refuse d f true = 0
 ·obtain ⟨hoff,h0,h1,x,hx⟩ := refuse_zero hr
  have hsz := size_seen hx
  have HX := hid hx
  have HH := hid hh
  have HB := hid hb
  have HO := hid hoff
  have hX := hb.2.2.1.1 x (seek_mem hx).1
  rw [(seek_mem hx).2] at hX
  have c0 : w.cell? ⟨(pl f).p,0,none⟩ = some (.slice (pl f).A x.b.length (pl f).c) := Blk.cell hX.1 0
  clear hh hb hx hoff hX h0 h1
  by_cases hn : n < 0 \/ size d f < n
  ·have HS := hid (show cut d f n = (1,d) by rw [cut,if_pos hr,if_pos hn])
   rw [hsz] at hn
   clear hr hsz
   rcases hn with hn | hn
   ·have hb1 : decide (n < 0) = true := by simpa using hn
    go_enter Tryz.func162,Tryz.ntmps162
    go_wp2_with fail
    refine (find_yes F g m pl d f x w HH.out HB.out HO.out HX.out).mono ?_
    rintro e w' ⟨rfl,rfl⟩
    go_wp2
    go_ret
    rw [HS.out]
    exact Done.no ⟨m,pl,HH.out,hg,HB.out⟩
   ·have hb1 : decide (n < 0) = false := by simp; omega
    have hb2 : decide ((x.b.length : Int) < n) = true := by simpa using hn
    generalize x.b.length = k at *
    go_enter Tryz.func162,Tryz.ntmps162
    go_wp2_with fail
    refine (find_yes F g m pl d f x w HH.out HB.out HO.out HX.out).mono ?_
    rintro e w' ⟨rfl,rfl⟩
    go_wp2
    go_ret
    rw [HS.out]
    exact Done.no ⟨m,pl,HH.out,hg,HB.out⟩
  ·have hb1 : decide (n < 0) = false := by simp; omega
   rw [hsz] at hn
   obtain ⟨k,rfl⟩ := Int.eq_ofNat_of_zero_le (show 0 <= n by omega)
   have hk : k <= x.b.length := by omega
   have hb2 : decide ((x.b.length : Int) < (k : Int)) = false := by simp; omega
   have hb3 : decide (x.b.length < k) = false := by simp; omega
   clear hn
   by_cases hl : d.left = 1
   ·have HT := hid (told_one hl d.files).1
    have HS := hid (show cut d f k = (8,tick d) by rw [cut,if_pos hr,hsz,if_neg (by omega),(told_one hl _).2])
    clear hl hr hsz
    generalize x.b.length = j at *
    go_enter Tryz.func162,Tryz.ntmps162
    go_wp2_with fail
    refine (find_yes F g m pl d f x w HH.out HB.out HO.out HX.out).mono ?_
    rintro e w' ⟨rfl,rfl⟩
    go_wp2_with fail
    refine (spend_any g m d w HH.out HO.out hf).mono ?_
    rintro e w1 ⟨rfl,hh1,hw1⟩
    have HD := hid (ticked hh1 hg (HB.out.head HH.out hw1) hw1)
    clear hh1 hw1
    rw [HT.out]
    go_wp2
    go_ret
    rw [HS.out]
    exact ⟨rfl,HD.out⟩
   ·have HT := hid (told_more hl d.files).1
    have HS := hid (show cut d f k = (0,{ tick d with files := put d.files f (trim k) }) by rw [cut,if_pos hr,hsz,if_neg (by omega),(told_more hl _).2,Int.toNat_natCast])
    have HK := hid hk
    clear hl hr hsz hk
    generalize x.b.length = j at c0 hb2 hb3
    go_enter Tryz.func162,Tryz.ntmps162
    go_wp2_with fail
    refine (find_yes F g m pl d f x w HH.out HB.out HO.out HX.out).mono ?_
    rintro e w' ⟨rfl,rfl⟩
    go_wp2_with fail
    refine (spend_any g m d w HH.out HO.out hf).mono ?_
    rintro e w1 ⟨rfl,hh1,hw1⟩
    have HB1 := hid (HB.out.head HH.out hw1)
    have HW1 := hid hw1
    have HH1 := hid hh1
    have HF1 : Hid (FileAt w1 F x (pl f)) := by
     have hX := HB1.out.2.2.1.1 x (seek_mem HX.out).1
     rwa [(seek_mem HX.out).2] at hX
    clear hh1 hw1
    rw [HT.out]
    go_wp2_with fail
    refine (fcut_any F x (pl f) k w1 HF1.out HK.out).mono ?_
    rintro e w2 ⟨rfl,hf2,hw2⟩
    have HD := hid (turned HH1.out hg HB1.out HW1.out HX.out (t := trim k) (fun _ => rfl) (trim_ok k) hf2 hw2)
    clear hf2 hw2
    go_wp2
    go_ret
    rw [HS.out]
    exact ⟨rfl,HD.out⟩
 ·have HS := hid (cut_no (n := n) rfl hr)
  generalize hk : refuse d f true = k at hr HS
  have HK := hid hk
  have HH := hid hh
  have HB := hid hb
  have hne : (k == 0) = false := by simpa using hr
  clear hh hb hk
  go_enter Tryz.func162,Tryz.ntmps162
  go_wp2_with fail
  refine (find_no F g m pl d f k w HH.out HB.out HK.out hr).mono ?_
  rintro e w' ⟨rfl,rfl⟩
  go_wp2
  go_ret
  rw [HS.out]
  exact Done.no ⟨m,pl,HH.out,hg,HB.out⟩
theorem key_of {f : Int} (h : I64 f) : keyOf Tryz.prog 3 (.int .i64 f) = some (.int .i64 f) := Maps.keyOf_int_mk Tryz.underlying3 h.wf
theorem remove_any (F : Nat -> Prop) (g : Nat) (d : Dk) (f : Int) (w : World) (h : DiskAt F w g d) (hf : Fits d) :
 Calls Tryz.prog 109 #[.pointer (some ⟨g,0,none⟩),.int .i64 f] w (Done F w g (remove d f)) := by
 obtain ⟨m,pl,hh,hg,hb⟩ := h
 by_cases hr : refuse d f true = 0
 ·obtain ⟨hoff,h0,h1,x,hx⟩ := refuse_zero hr
  have HI : Hid (I64 f) := ⟨by omega,by omega⟩
  have HX := hid hx
  have HH := hid hh
  have HB := hid hb
  have HO := hid hoff
  clear hh hb hx hoff h0 h1
  by_cases hl : d.left = 1
  ·have HT := hid (told_one hl d.files).1
   have HS := hid (show remove d f = (8,tick d) by rw [remove,if_pos hr,(told_one hl _).2])
   clear hl hr
   go_enter Tryz.func109,Tryz.ntmps109
   go_wp2_with fail
   refine (find_yes F g m pl d f x w HH.out HB.out HO.out HX.out).mono ?_
   rintro e w' ⟨rfl,rfl⟩
   go_wp2_with fail
   refine (spend_any g m d w HH.out HO.out hf).mono ?_
   rintro e w1 ⟨rfl,hh1,hw1⟩
   have HD := hid (ticked hh1 hg (HB.out.head HH.out hw1) hw1)
   clear hh1 hw1
   rw [HT.out]
   go_wp2
   go_ret
   rw [HS.out]
   exact ⟨rfl,HD.out⟩
  ·have HT := hid (told_more hl d.files).1
   have HS := hid (show remove d f = (0,{ tick d with files := del d.files f }) by rw [remove,if_pos hr,(told_more hl _).2])
   clear hl hr
   go_enter Tryz.func109,Tryz.ntmps109
   go_wp2_with fail
   refine (find_yes F g m pl d f x w HH.out HB.out HO.out HX.out).mono ?_
   rintro e w' ⟨rfl,rfl⟩
   go_wp2_with fail
   refine (spend_any g m d w HH.out HO.out hf).mono ?_
   rintro e w1 ⟨rfl,hh1,hw1⟩
   have HB1 := hid (HB.out.head HH.out hw1)
   have HW1 := hid hw1
   have HH1 := hid hh1
   have c3 := hh1.cells.2.2.2
   clear hh1 hw1
   rw [HT.out]
   go_wp2_with (first
    | (at_delete
       refine wpList_delete_own _ rfl _ _ 86 3 rfl 101 (Maps.int_keyed Tryz.underlying3) Tryz.underlying86 rd m _ _ rfl HB1.out.2.1 (.int .i64 f) _ rfl (key_of HI.out) ?_
       intro w2 hown2 hturn2
       have HO2 := hid hown2
       have HG2 := hid hturn2.grown
       clear hown2 hturn2)
    | fail)
   go_ret
   rw [HS.out]
   refine ⟨rfl,⟨m,pl,(HG2.out.block g (Blk.lt HH1.out) fun e => ?_).trans HH1.out,.inl hg,(HB1.out.gone HO2.out HG2.out).mono fun _ hi => .inl hi⟩,?_⟩
   ·injection e with e
    obtain ⟨es,cl,hm⟩ := map_obj HB1.out
    have a := HH1.out
    unfold Head Blk at a
    rw [e,hm] at a
    cases a
   ·exact (Turn.grown HW1.out fun k e => by injection e with e; rw [<- e]; exact hg).trans (Turn.grown (F := F) HG2.out fun k e => by injection e with e; rw [<- e]; exact HB1.out.1) fun _ hi => .inl hi
 ·have HS := hid (remove_no rfl hr)
  generalize hk : refuse d f true = k at hr HS
  have HK := hid hk
  have HH := hid hh
  have HB := hid hb
  have hne : (k == 0) = false := by simpa using hr
  clear hh hb hk
  go_enter Tryz.func109,Tryz.ntmps109
  go_wp2_with fail
  refine (find_no F g m pl d f k w HH.out HB.out HK.out hr).mono ?_
  rintro e w' ⟨rfl,rfl⟩
  go_wp2
  go_ret
  rw [HS.out]
  exact Done.no ⟨m,pl,HH.out,hg,HB.out⟩
end Disk
namespace Disk
open Go.RowKit Base DiskMath Foot
theorem Body.grew {w w1 : World} {F : Nat -> Prop} {l : List Fl} {m : Nat} {pl : Int -> Pl} {f : Int} {x : Fl} {b : List UInt8} {A : Option Addr} {k c : Nat} (h : Body w F l m pl) (hx : seek l f = some x) (hown : w1.ownsRow 0 5 1 (.slice A k c) k (bv (x.b ++ b)))
 (hG : Grew w (pl f).row w1 (.slice A k c)) : Body (w1.setCell ⟨(pl f).p,0,none⟩ (.slice A k c)) (Out F w w1) (put l f (grow b)) m (upd pl f ⟨(pl f).p,A,c⟩) /\ Turn F w (w1.setCell ⟨(pl f).p,0,none⟩ (.slice A k c)) := by
 obtain rfl : (x.b ++ b).length = k := by have := hown.1; rw [bv_length,Nat.mul_one] at this; exact this
 have hX := h.2.2.1.1 x (seek_mem hx).1
 rw [(seek_mem hx).2] at hX
 have hp1 : w1.heap[(pl f).p]? = w.heap[(pl f).p]? := hG.1.block _ (Blk.lt hX.1) fun e => by
  obtain ⟨cur,hcur⟩ := own_type hX.2.2.1 (g := (pl f).p) (by rw [row_own]; exact e.symm)
  have a := hX.1
  unfold Blk at a
  rw [hcur] at a
  cases a
 have hpb : Blk w1 (pl f).p 153 #[.slice (pl f).A x.b.length (pl f).c,.int .i64 x.safe] := hp1.trans hX.1
 have hrow : ∀ g,(Pl.mk (pl f).p A c).row = some g -> Out F w w1 g := fun g hg => by
  rw [<- row_own _ (x.b ++ b).length c] at hg
  obtain ⟨cur,hcur⟩ := own_type hown hg
  rcases hG.2 with e | e
  ·exact .inl (hX.2.2.2 g (by rw [<- e]; exact hg))
  ·exact .inr ⟨e g hg,(Array.getElem?_eq_some_iff.1 hcur).1⟩
 constructor
 ·refine h.turn hx (t := grow b) (fun _ => rfl) (grow_ok b) (fun i hi hp hr => ?_) ⟨?_,.inl hX.2.1,?_,hrow⟩ rfl ?_ fun _ hi => .inl hi
  ·exact (Below.heap_setCell _ _ _ _ hp).trans (hG.1.block i hi hr)
  ·exact Blk.set_ hpb 0 _
  ·refine own_same hown fun g hg => Below.heap_setCell _ _ _ _ fun e => ?_
   obtain ⟨cur,hcur⟩ := own_type hown hg
   unfold Blk at hpb
   dsimp only at e
   rw [<- e,hcur] at hpb
   cases hpb
  ·rcases hG.2 with e | e
   ·refine .inl ?_
    rw [<- e,<- row_own _ (x.b ++ b).length c]
   ·refine .inr fun g hg => e g ?_
    rw [<- row_own _ (x.b ++ b).length c] at hg
    exact hg
 ·exact (Turn.grown (F := F) hG.1 hX.2.2.2).setCell (.inl hX.2.1) _
theorem Head.grew {w w1 : World} {F : Nat -> Prop} {l : List Fl} {m g : Nat} {d : Dk} {pl : Int -> Pl} {f : Int} {x : Fl} {v : Value} (hh : Head w g d m) (h : Body w F l m pl) (hx : seek l f = some x) (hG : Grew w (pl f).row w1 v) (u : Value) :
 Head (w1.setCell ⟨(pl f).p,0,none⟩ u) g d m := by
 have hX := h.2.2.1.1 x (seek_mem hx).1
 rw [(seek_mem hx).2] at hX
 refine Blk.far (Blk.grown hh hG.1 fun e => ?_) (fun e => ?_) _
 ·obtain ⟨cur,hcur⟩ := own_type hX.2.2.1 (g := g) (by rw [row_own]; exact e.symm)
  unfold Head Blk at hh
  rw [hcur] at hh
  cases hh
 ·dsimp only at e
  have a := hX.1
  unfold Blk at a
  unfold Head Blk at hh
  rw [<- e,hh] at a
  cases a
theorem file_grew {w w1 : World} {F : Nat -> Prop} {l : List Fl} {m : Nat} {pl : Int -> Pl} {f : Int} {x : Fl} {v : Value} (h : Body w F l m pl) (hx : seek l f = some x) (hG : Grew w (pl f).row w1 v) :
 Blk w1 (pl f).p 153 #[.slice (pl f).A x.b.length (pl f).c,.int .i64 x.safe] := by
 have hX := h.2.2.1.1 x (seek_mem hx).1
 rw [(seek_mem hx).2] at hX
 refine Blk.grown hX.1 hG.1 fun e => ?_
 obtain ⟨cur,hcur⟩ := own_type hX.2.2.1 (g := (pl f).p) (by rw [row_own]; exact e.symm)
 have a := hX.1
 unfold Blk at a
 rw [hcur] at a
 cases a
theorem refuse_false {d : Dk} {f : Int} (h : refuse d f true ≠ 5) : refuse d f false = refuse d f true := by
 unfold refuse at *
 split
 ·rfl
 ·rename_i h1
  rw [if_neg h1] at h
  split
  ·rfl
  ·rename_i h2
   rw [if_neg h2] at h
   split at h
   ·exact absurd rfl h
   ·rename_i h3
    rw [if_neg h3,if_neg (by simp)]
theorem append_no {d : Dk} {f k : Int} {b : List UInt8} (h : refuse d f true = k) (hk : k ≠ 0) (h5 : k ≠ 5) : append d f b = (k,d) := by
 have := refuse_false (d := d) (f := f) (by rw [h]; exact h5)
 rw [append,this,h,if_neg hk]
theorem append_yes {d : Dk} {f : Int} {b : List UInt8} {x : Fl} (h : refuse d f true = 0) (hx : seek d.files f = some x) : append d f b = (told d,{ tick d with files := put d.files f (grow b) }) := by
 have := refuse_false (d := d) (f := f) (by rw [h]; omega)
 have hb : begunL d.files f = d.files := by unfold begunL; exact if_neg (by rw [hx]; simp)
 rw [append,this,h,if_pos rfl,hb]
theorem refuse_five {d : Dk} {f : Int} (h : refuse d f true = 5) : d.off = false /\ 0 <= f /\ f < 16384 /\ seek d.files f = none /\ refuse d f false = 0 := by
 unfold refuse at h
 split at h
 ·omega
 ·rename_i h1
  split at h
  ·omega
  ·rename_i h2
   split at h
   ·rename_i h3
    refine ⟨by simpa using h1,by omega,by omega,h3.2,?_⟩
    rw [refuse,if_neg h1,if_neg h2,if_neg (by simp)]
   ·omega
theorem append_new {d : Dk} {f : Int} {b : List UInt8} (h : refuse d f true = 5) : append d f b = (told d,{ tick d with files := put (ins f d.files) f (grow b) }) := by
 obtain ⟨_,_,_,h4,h5⟩ := refuse_five h
 have hb : begunL d.files f = ins f d.files := by unfold begunL; exact if_pos h4
 rw [append,h5,if_pos rfl,hb]
theorem appended {F : Nat -> Prop} {w w1 w2 : World} {g m : Nat} {pl : Int -> Pl} {d : Dk} {l : List Fl} (hh : Head w1 g d m) (hh2 : Head w2 g (tick d) m) (hg : F g) (hb : Body w1 (Out F w w1) l m pl) (ht : Turn F w w1) (hw : w1.grownBy w2 (some g)) :
 DiskAt (Out F w w2) w2 g { tick d with files := l } /\ Turn F w w2 := by
 refine ⟨⟨m,pl,hh2,.inl hg,(hb.head hh hw).mono fun i hi => Out.mono hw.size hi⟩,?_⟩
 exact ht.trans (Turn.grown (F := F) hw fun k e => by injection e with e; rw [<- e]; exact hg) fun _ hi => .inl hi
theorem cells_map {w w1 w2 : World} {m : Nat} {o : Obj} (h1 : w1 = w.alloc o) (hg : w1.grownBy w2 (some m)) (hm : ∃ es cl,w.heap[m]? = some (.map es cl)) (hm2 : ∃ es cl,w2.heap[m]? = some (.map es cl)) (p : Addr) (hp : p.block < w.heap.size) : w2.cell? p = w.cell? p := by
 subst h1
 by_cases e : p.block = m
 ·obtain ⟨es,cl,h⟩ := hm
  obtain ⟨es2,cl2,h2⟩ := hm2
  rw [<- e] at h h2
  simp [World.cell?,h,h2]
 ·exact World.cell?_of_block ((hg.block _ (by simp; omega) fun e1 => e (by injection e1)).trans (Below.heap_alloc w o _ hp))
theorem append_any (F : Nat -> Prop) (g : Nat) (d : Dk) (f : Int) (B : Nat) (A : Option Addr) (n c : Nat) (b : List UInt8) (w : World) (h : DiskAt F w g d) (hf : Fits d) (hr : Bytes w B A n c b) (hB : B <= w.heap.size)
 (hn : n <= 140737488355328) (hsz : ∀ x,seek d.files f = some x -> x.b.length + n <= 140737488355328) :
 Calls Tryz.prog 32 #[.pointer (some ⟨g,0,none⟩),.int .i64 f,.slice A n c] w (Done F w g (append d f b)) := by
 have HR := hid hr
 clear hr
 obtain ⟨m,pl,hh,hg,hb⟩ := h
 by_cases hr : refuse d f true = 0
 ·obtain ⟨hoff,h0,h1,x,hx⟩ := refuse_zero hr
  have hlen := hsz x hx
  have HS := hid (append_yes (b := b) hr hx)
  have HX := hid hx
  have HH := hid hh
  have HB := hid hb
  have HO := hid hoff
  have HF : Hid (FileAt w F x (pl f)) := by
   have hX := hb.2.2.1.1 x (seek_mem hx).1
   rwa [(seek_mem hx).2] at hX
  have c0 : w.cell? ⟨(pl f).p,0,none⟩ = some (.slice (pl f).A x.b.length (pl f).c) := Blk.cell HF.out.1 0
  clear hh hb hx hoff h0 h1 hr hsz
  go_enter Tryz.func32,Tryz.ntmps32
  go_wp2_with fail
  refine (find_yes F g m pl d f x w HH.out HB.out HO.out HX.out).mono ?_
  rintro e w' ⟨rfl,rfl⟩
  go_wp2_with (first
   | (at_builtin
      refine wpList_append_row rfl (.tmp 32) (.tmp 33) rfl eb 0 (.slice (pl f).A x.b.length (pl f).c) x.b.length (bv x.b) rfl HF.out.2.2.1 B A n c (bv b) rfl HR.out (bv_one _) (by omega) (by omega) (Nat.zero_le _) ?_
      intro A1 c1 w1 hown1 hg1 _
      rw [<- bv_append] at hown1
      rw [row_own] at hg1
      have hbk := file_grew HB.out HX.out hg1
      have k0 : w1.cell? ⟨(pl f).p,0,none⟩ = some (.slice (pl f).A x.b.length (pl f).c) := Blk.cell hbk 0
      have z0 := Blk.frozen hbk 0
      have HD1 := hid (HB.out.grew HX.out hown1 hg1)
      have HH1 := hid (HH.out.grew HB.out HX.out hg1 (.slice A1 (x.b.length + n) c1))
      clear hown1 hg1 hbk)
   | fail)
  refine (spend_any g m d _ HH1.out HO.out hf).mono ?_
  rintro e w3 ⟨rfl,hh3,hw3⟩
  have HD := hid (appended HH1.out hh3 hg (HD1.out.1.mono fun i hi => Out.mono (by simp [World.setCell]) hi) HD1.out.2 hw3)
  clear hh3 hw3
  go_wp2
  go_ret
  rw [HS.out]
  exact ⟨rfl,HD.out⟩
 ·by_cases h5 : refuse d f true = 5
  ·obtain ⟨hoff,h0,h1,hx,_⟩ := refuse_five h5
   have HS := hid (append_new (b := b) h5)
   have HI : Hid (I64 f) := ⟨by omega,by omega⟩
   have HH := hid hh
   have HB := hid hb
   have HO := hid hoff
   have H5 := hid h5
   have HX := hid hx
   have HF := hid (show 0 <= f /\ f < 16384 from ⟨h0,h1⟩)
   have hlt : g < w.heap.size := Blk.lt hh
   have c3 := hh.cells.2.2.2
   have hroom := hb.2.2.2.le
   clear hh hb hx hoff h0 h1 hr hsz h5
   go_enter Tryz.func32,Tryz.ntmps32
   go_wp2_with fail
   refine (find_no F g m pl d f 5 w HH.out HB.out H5.out (by omega)).mono ?_
   rintro e w' ⟨rfl,rfl⟩
   go_wp2_with (first
    | (at_mapUpdate
       refine wpList_mapUpdate_own _ rfl _ _ _ 86 rfl 3 101 (Maps.int_keyed Tryz.underlying3) Tryz.underlying86 rd m _ _ rfl (HB.out.2.1.alloc _) (by unfold maxLen; omega) (.int .i64 f) (.pointer (some ⟨w.heap.size,0,none⟩)) _ rfl rfl (key_of HI.out) (.lit (.int .i64 w.heap.size)) [] rfl ?_
       intro w2 hown2 hg2
       have hB2 := HB.out.begin (F' := Out F w w2) HF.out.1 HF.out.2 HX.out rfl rfl hown2 hg2 (fun _ hi => .inl hi) (.inr ⟨Nat.le_refl _,by have := hg2.size; simp at this; omega⟩)
       have hx2 : seek (ins f d.files) f = some ⟨f,[],0⟩ := seek_of (x := ⟨f,[],0⟩) hB2.2.2.2 (ins_here f _)
       have hF2 : FileAt w2 (Out F w w2) ⟨f,[],0⟩ ⟨w.heap.size,none,0⟩ := by
        have := hB2.2.2.1.1 _ (ins_here f d.files)
        dsimp only at this
        rwa [upd_same] at this
       have hc2 := cells_map rfl hg2 (map_obj HB.out) (map_obj hB2)
       have hR2 : Bytes w2 B A n c b := Row.keep HR.out fun p hp => hc2 p (by omega)
       have hgm : some g ≠ some m := fun e => by
        injection e with e
        obtain ⟨es,cl,hm⟩ := map_obj HB.out
        have a := HH.out
        unfold Head Blk at a
        rw [e,hm] at a
        cases a
       have HT2 : Hid (Turn F w w2) := ((Turn.refl F w).alloc _).trans (Turn.grown (F := F) hg2 fun k e => by injection e with e; rw [<- e]; exact HB.out.1) fun _ hi => .inl hi
       have HH2 : Hid (Head w2 g d m) := Blk.grown (Blk.alloc HH.out _) hg2 hgm
       have HB2 := hid hB2
       have HF2 := hid hF2
       have HR2 := hid hR2
       have HX2 := hid hx2
       have c0 : w2.cell? ⟨w.heap.size,0,none⟩ = some (.slice none 0 0) := Blk.cell hF2.1 0
       clear hB2 hx2 hF2 hc2 hR2 hgm hown2 hg2)
    | (at_builtin
       refine wpList_append_row rfl (.tmp 32) (.tmp 33) rfl eb 0 (.slice none 0 0) 0 [] rfl HF2.out.2.2.1 B A n c (bv b) rfl HR2.out (bv_one _) (by omega) (by omega) (Nat.zero_le _) ?_
       intro A1 c1 w3 hown1 hg1 _
       have hown2 : w3.ownsRow 0 5 1 (.slice A1 (0 + n) c1) (0 + n) (bv ([] ++ b)) := hown1
       have hg2 : Grew w2 (upd pl f ⟨w.heap.size,none,0⟩ f).row w3 (.slice A1 (0 + n) c1) := by rw [upd_same]; exact hg1
       have hbk := file_grew HB2.out HX2.out hg2
       have HD1 := HB2.out.grew HX2.out hown2 hg2
       have HH1 := HH2.out.grew HB2.out HX2.out hg2 (.slice A1 (0 + n) c1)
       rw [upd_same] at hbk HD1 HH1
       rw [Nat.zero_add] at HD1 HH1 ⊢
       dsimp only at hbk HD1 HH1
       have HD2 := hid HD1
       have HH3 := hid HH1
       have k0 : w3.cell? ⟨w.heap.size,0,none⟩ = some (.slice none 0 0) := Blk.cell hbk 0
       have z0 := Blk.frozen hbk 0
       clear hown1 hg1 hown2 hg2 hbk HD1 HH1)
    | fail)
   refine (spend_any g m d _ HH3.out HO.out hf).mono ?_
   rintro e w4 ⟨rfl,hh3,hw3⟩
   have HD := hid (appended HH3.out hh3 hg (HD2.out.1.mono fun i hi => Out.two HT2.out (Out.mono (w1 := w3) (by simp [World.setCell]) hi) HD2.out.2.size) (HT2.out.two HD2.out.2) hw3)
   clear hh3 hw3
   go_wp2
   go_ret
   rw [HS.out]
   exact ⟨rfl,HD.out⟩
  ·have HS := hid (append_no (b := b) rfl hr h5)
   generalize hk : refuse d f true = k at hr HS h5
   have HK := hid hk
   have HH := hid hh
   have HB := hid hb
   have hne : (k == 5) = false := by simpa using h5
   have hne2 : (k != 0) = true := by simpa using hr
   clear hh hb hk hsz
   go_enter Tryz.func32,Tryz.ntmps32
   go_wp2_with fail
   refine (find_no F g m pl d f k w HH.out HB.out HK.out hr).mono ?_
   rintro e w' ⟨rfl,rfl⟩
   go_wp2
   go_ret
   rw [HS.out]
   exact Done.no ⟨m,pl,HH.out,hg,HB.out⟩
end Disk
end Go.Proofs.YtefnmnpfecfdaaaGreat
