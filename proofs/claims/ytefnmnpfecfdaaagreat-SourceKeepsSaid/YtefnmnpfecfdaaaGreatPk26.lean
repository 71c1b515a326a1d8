/-
  Texts of one proof: RecScan, SegRead, WalOpen, Lays.
-/
import Derived.Test.YtefnmnpfecfdaaaGreatPk25
import Derived.Shelf.SlSorted.Search
import Derived.Shelf.SlicesE.DeleteFunc
set_option linter.all false
set_option maxRecDepth 100000
set_option maxHeartbeats 1600000
open Go.Lib (hid)
namespace Go.Proofs.YtefnmnpfecfdaaaGreat
namespace Rec
open Go.RowKit Base FieldMath RecMath
open Go.Proofs.YtefnmnpfecfdaaaGreat.Field
theorem es : Elem Tryz.prog 81 68 1 24 (.slice none 0 0) := Elem.of Tryz.underlying81 (by kernel_rfl) rfl (by omega)
def ScannedNew (w : World) (r : List (List UInt8) × Nat) (e : Ending) (w' : World) : Prop :=
 ∃ A c,e = .returned (.tuple #[.slice A r.1.length c,.int .i64 r.2]) /\ ListsIn w' (w.heap.size <= ·) A r.1.length c r.1 /\ Below w.heap.size w w'
def ScanRel (w : World) (n : Nat) (l : List UInt8) (v i : Value) (wr : World) : Prop :=
 ∃ (off k : Nat) (ls : List (List UInt8)) (vs : List Value) (A : Option Addr) (c : Nat),off <= n /\ 8 * k <= off /\ ls.length = k /\ i = .int .i64 off /\ v = .slice A k c /\ wr.ownsRow w.heap.size 68 1 (.slice A k c) k vs /\ Each wr (Value.slice A k c).ownBlock vs ls /\ Placed (w.heap.size <= ·) vs /\
   Below w.heap.size w wr /\ scan l = (ls ++ (scan (l.drop off)).1,off + (scan (l.drop off)).2)
theorem scan_step {l p : List UInt8} {off : Nat} {ls : List (List UInt8)} (h : scan l = (ls ++ (scan (l.drop off)).1,off + (scan (l.drop off)).2)) (hk : tk (l.drop off) = .ok p) :
 scan l = ((ls ++ [p]) ++ (scan (l.drop (off + (8 + p.length)))).1,(off + (8 + p.length)) + (scan (l.drop (off + (8 + p.length)))).2) := by
 rw [h,scan_more hk,List.drop_drop]
 simp only [List.append_assoc,List.singleton_append,Prod.mk.injEq,true_and]
 omega
theorem scan_stop {l : List UInt8} {off e : Nat} {ls : List (List UInt8)} (h : scan l = (ls ++ (scan (l.drop off)).1,off + (scan (l.drop off)).2)) (hk : tk (l.drop off) = .error e) : scan l = (ls,off) := by
 rw [h,scan_end hk]
 simp
theorem scan_new (B : Nat) (A : Option Addr) (n c : Nat) (l : List UInt8) (w : World) (hr : Bytes w B A n c l) (hB : B <= w.heap.size) (hn : n <= 35184372088832) :
 Calls Tryz.prog 301 #[.slice A n c] w (ScannedNew w (scan l)) := by
 have HL := hid hr.len
 have HR := hid hr
 clear hr
 go_enter Tryz.func301,Tryz.ntmps301
 go_wp2
 go_loopw [4,5] (fun v i wr => ScanRel w n l v i wr) (fun _ i _ => n - (RowKit.intOf i).toNat)
 case atStart =>
  exact ⟨0,0,[],[],none,0,by omega,by omega,rfl,rfl,rfl,World.ownsRow_nil _ _ _ _,Each.nil_ _ _,Placed.nil_ _,Below.refl _ _,by simp⟩
 case round =>
  obtain ⟨off,k,ls,vs,A1,c1,hoff,hk8,hkl,rfl,rfl,hown,heach,hpl,hbel,hsc⟩ := hrel
  have HO := hid hown
  have HE := hid heach
  have HPL := hid hpl
  have HB := hid hbel
  have HS := hid hsc
  have HKL := hid hkl
  clear hown heach hpl hbel hsc hkl
  have hsl : ∀ w,(Instr.sliceAt 68 (.slice A n c) (some (.int .i64 off)) none none).run Tryz.prog w = .ok (.slice (cutAt A c off) (n - off) (c - off)) w := fun w => run_cut w _ n c off hoff
  have HC := hid ((HR.out.below (HB.out.mono hB)).cut (k := off) hoff)
  generalize cutAt A c off = Ar at hsl HC
  go_wp2_with fail
  refine (take_any B _ _ _ (l.drop off) _ HC.out (Nat.le_trans hB HB.out.size)).mono ?_
  rintro e w1 ⟨A2,n2,c2,rfl,hown2,hb2⟩
  cases hk : tk (l.drop off) with
  | error q =>
    have h3 := tk_err hk
    have hq : ((q : Int) != 0) = true := by simp; omega
    rw [show err (Except.error q : Except Nat (List UInt8)) = q from rfl,show tsize (Except.error q) = 0 from rfl]
    have HX := hid (scan_stop HS.out hk)
    have HB2 := hid (held_two HB.out hb2)
    have HO2 := hid (own_keep HO.out hb2)
    have HE2 := hid (HE.out.keep hb2)
    clear hown2 hb2 hk
    go_wp2
    go_ret2
    rw [HX.out]
    exact ⟨A1,c1,by rw [HKL.out]; rfl,by rw [HKL.out]; exact ListsIn.of HE2.out HO2.out HPL.out,HB2.out⟩
  | ok p =>
    have hf := tk_fits hk
    rw [List.length_drop,HL.out] at hf
    obtain ⟨hf1,hf2⟩ := hf
    rw [hk] at hown2
    rw [show err (Except.ok p) = 0 from rfl,show tsize (Except.ok p) = 8 + p.length from rfl]
    have hn2 : p.length = n2 := by have := hown2.1; rw [show got (Except.ok p) = p from rfl,bv_length,Nat.mul_one] at this; exact this
    have HX := hid (scan_step HS.out hk)
    have HB2 := hid (held_two HB.out hb2)
    have HO2 := hid (own_keep HO.out hb2)
    have HAP := hid (own_apart hown2 HO.out (Nat.le_refl _))
    have HPL2 := hid (HPL.out.snoc (c := c2) ((own_lies hown2).mono fun b hb => Nat.le_trans HB.out.size hb))
    have HY2 : Hid (Bytes w1 w1.heap.size A2 n2 c2 p) := Bytes.of_own hown2
    have HE2 := hid ((HE.out.keep hb2).snoc HY2.out HAP.out (Typed.own hown2))
    generalize p.length = m at hf1 hf2 HX hn2
    clear hown2 hb2 hk HE
    go_wp2_with (first
     | (at_builtin
        refine wpList_append_row rfl (.tmp 21) (.tmp 23) rfl es w.heap.size _ k vs rfl (HO2.out.alloc _) _ _ 1 1 [.slice A2 n2 c2] rfl (one_slice w1 _ A2 n2 c2 rfl) (slices_one _ _ _) (by omega) (by omega) (by have := HB2.out.size; simp; omega) ?_
        intro A3 c3 w3 hown3 hg3 hb3
        have HO3 := hid hown3
        have HE3 := hid ((HE2.out.keep ((Below.refl _ _).alloc (Nat.le_refl _) _)).grew hg3)
        have HB3 := hid ((HB2.out.alloc HB2.out.size _).trans hb3)
        clear hown3 hg3 hb3)
     | fail)
    go_roundw
    case rel =>
     exact ⟨off + (8 + m),k + 1,ls ++ [p],_,A3,c3,by omega,by omega,by rw [List.length_append,HKL.out]; rfl,by go_num,rfl,HO3.out,HE3.out,HPL2.out,HB3.out,HX.out⟩
    case measure => simp [RowKit.intOf]; omega
end Rec
namespace Seg
open Go.RowKit Base FieldMath RecMath SegMath
open Go.Proofs.YtefnmnpfecfdaaaGreat.Field Go.Proofs.YtefnmnpfecfdaaaGreat.Rec
theorem run_cuts (w : World) (A : Option Addr) (n c k : Nat) (hk : k <= n) : (Instr.sliceAt 81 (.slice A n c) (some (.int .i64 k)) none none).run Tryz.prog w = .ok (.slice (cutAt A c k) (n - k) (c - k)) w := by
 rw [run_sliceAt_slice _ _ _ _ _ _ Tryz.underlying81,run_slice_l _ _ _ _ _ Tryz.underlying81 .i64 k (by omega) (by omega)]
 have : (sizeOf (Tryz.prog.elem 81)).run Tryz.prog w = .ok 1 w := by kernel_rfl
 rw [this]
 simp [Result.andThen,sliced,cutAt]
def SegRead (w : World) (r : Sr) (e : Ending) (w' : World) : Prop :=
 ∃ A c,e = .returned (.tuple #[.int .i64 r.x,.slice A r.rows.length c,.int .i64 r.n,.int .i64 r.e]) /\ ListsIn w' (w.heap.size <= ·) A r.rows.length c r.rows /\ Below w.heap.size w w'
theorem segread_bad {w w' : World} (hb : Below w.heap.size w w') : SegRead w bad (.returned (.tuple #[.int .i64 0,.slice none 0 0,.int .i64 0,.int .i64 3])) w' := ⟨none,0,rfl,ListsIn.nil_ _ _,hb⟩
theorem records_any (B : Nat) (A : Option Addr) (n c : Nat) (l : List UInt8) (w : World) (hr : Bytes w B A n c l) (hB : B <= w.heap.size) (hn : n <= 35184372088832) :
 Calls Tryz.prog 283 #[.agg #[.slice A n c]] w (ScannedNew w (scan l)) := by
 have HR := hid hr
 clear hr
 go_enter Tryz.func283,Tryz.ntmps283
 go_wp2_with fail
 refine (scan_new B A n c l _ (HR.out.alloc hB _) (by simp; omega) hn).mono ?_
 rintro e w1 ⟨A1,c1,rfl,hl1,hb1⟩
 have HL1 := hid (hl1.mono (S' := (w.heap.size <= ·)) fun b (hb : _ <= b) => by simp at hb; omega)
 have HB1 := hid (held_two ((Below.refl w.heap.size w).alloc (Nat.le_refl _) _) hb1)
 clear hl1 hb1
 generalize hs : scan l = s at *
 obtain ⟨ls,x⟩ := s
 go_wp2
 go_ret2
 exact ⟨A1,c1,rfl,HL1.out,HB1.out⟩
def FirstOf (w : World) (r : Option Int) (e : Ending) (w' : World) : Prop := e = .returned (.tuple #[.int .i64 (r.getD 0),.bool r.isSome]) /\ Below w.heap.size w w'
theorem only_bad {f : Fld} (h : ¬ (f.kind = 1 /\ 1 <= f.n /\ f.n <= 1099511627776)) : only (.ok [f]) = none := if_neg h
theorem only_ok {f : Fld} (h : f.kind = 1 /\ 1 <= f.n /\ f.n <= 1099511627776) : only (.ok [f]) = some f.n := if_pos h
theorem only_len {fs : List Fld} (h : fs.length ≠ 1) : only (.ok fs) = none := by
 match fs,h with
 | [],_ => rfl
 | [_],h => exact absurd rfl h
 | _ :: _ :: _,_ => rfl
theorem dec_bad {b : List UInt8} {e : Nat} (h : dec b = .error e) : e = 2 \/ e = 3 := by
 have hN : ∀ (n : Nat) (b : List UInt8) (e : Nat),takeN n b = .error e -> e = 2 \/ e = 3 := by
  intro n
  induction n with
  | zero => intro b e h; cases h
  | succ n ih =>
    intro b e h
    rw [takeN] at h
    split at h
    ·rename_i h1
     injection h with h
     subst h
     exact takeF_err h1
    ·split at h
     ·rename_i h1
      injection h with h
      subst h
      exact ih _ _ h1
     ·cases h
 unfold dec at h
 split at h
 ·injection h with h; exact .inl h.symm
 ·split at h
  ·injection h with h; exact .inr h.symm
  ·split at h
   ·rename_i h1
    injection h with h
    subst h
    exact hN _ _ _ h1
   ·split at h
    ·injection h with h; exact .inr h.symm
    ·cases h
theorem firstof_any (B : Nat) (A : Option Addr) (n c : Nat) (l : List UInt8) (w : World) (hr : Bytes w B A n c l) (hB : B <= w.heap.size) :
 Calls Tryz.prog 284 #[.slice A n c] w (FirstOf w (first l)) := by
 have HR := hid hr
 clear hr
 go_enter Tryz.func284,Tryz.ntmps284
 go_wp2_with fail
 refine (decode_any B A n c l _ HR.out hB).mono ?_
 rintro e w1 ⟨A1,n1,c1,rfl,hf1,hb1⟩
 have HB1 := hid hb1
 clear hb1
 cases hd : dec l with
 | error k =>
   have hk := dec_bad hd
   have HX := hid (show first l = none by unfold first; rw [hd]; rfl)
   have hk0 : ((k : Int) != 0) = true := by simp; omega
   rw [show err (Except.error k : Except Nat (List Fld)) = k from rfl]
   clear hf1 hk hd
   go_wp2
   go_ret2
   rw [HX.out]
   exact ⟨rfl,HB1.out⟩
 | ok fs =>
   rw [hd] at hf1
   rw [show err (Except.ok fs) = 0 from rfl]
   rw [show got (Except.ok fs) = fs from rfl] at hf1
   have hlen := hf1.len
   have HD := hid hd
   clear hd
   by_cases h1 : n1 = 1
   ·subst h1
    obtain ⟨b,off,f,rfl,hb,hc0,hc1,_,hget,_⟩ := hf1.at_ (k := 0) (by omega)
    obtain rfl : fs = [f] := by
     match fs,hlen,hget with
     | [g],_,hget =>
       simp at hget
       rw [hget]
    rw [Nat.zero_mul,Nat.add_zero] at hc0 hc1
    clear hf1 hlen hget
    by_cases hk : f.kind = 1
    ·rw [hk] at hc0
     by_cases hx : 1 <= f.n /\ f.n <= 1099511627776
     ·have hdec : decide (1 <= f.n /\ f.n <= 1099511627776) = true := by simpa using hx
      have HX := hid (show first l = some f.n by unfold first; rw [HD.out]; exact only_ok ⟨hk,hx⟩)
      obtain ⟨y,x,s⟩ := f
      dsimp only at *
      clear hk hx HD
      go_wp2_with fail
      refine (maybe_any x _).mono ?_
      rintro e w2 ⟨rfl,rfl⟩
      rw [hdec]
      clear hdec
      go_wp2
      go_ret2
      rw [HX.out]
      exact ⟨rfl,HB1.out⟩
     ·have hdec : decide (1 <= f.n /\ f.n <= 1099511627776) = false := by simpa using hx
      have HX := hid (show first l = none by unfold first; rw [HD.out]; exact only_bad (fun h => hx h.2))
      obtain ⟨y,x,s⟩ := f
      dsimp only at *
      clear hk hx HD
      go_wp2_with fail
      refine (maybe_any x _).mono ?_
      rintro e w2 ⟨rfl,rfl⟩
      rw [hdec]
      clear hdec
      go_wp2
      go_ret2
      rw [HX.out]
      exact ⟨rfl,HB1.out⟩
    ·have hk' : (f.kind != 1) = true := by simpa using hk
     have HX := hid (show first l = none by unfold first; rw [HD.out]; exact only_bad (fun h => hk h.1))
     obtain ⟨y,x,s⟩ := f
     dsimp only at *
     clear hk HD
     go_wp2
     go_ret2
     rw [HX.out]
     exact ⟨rfl,HB1.out⟩
   ·have h1' : ((n1 : Int) != 1) = true := by simp; omega
    have HX := hid (show first l = none by unfold first; rw [HD.out]; exact only_len (by omega))
    clear hf1 hlen h1 HD
    go_wp2
    go_ret2
    rw [HX.out]
    exact ⟨rfl,HB1.out⟩
def ReadAt (w : World) (g : Nat) (A : Option Addr) (n c : Nat) (r : Sr) (e : Ending) (w' : World) : Prop :=
 e = .returned (.int .i64 r.e) /\ Below g w w' /\ w.heap.size <= w'.heap.size /\ (r.e = 0 -> ∃ A1 c1,Blk w' g 321 #[.slice A n c,.int .i64 r.x,.slice A1 r.rows.length c1,.int .i64 r.n] /\ ListsIn w' (w.heap.size <= ·) A1 r.rows.length c1 r.rows)
theorem read_at (B g : Nat) (A : Option Addr) (n c : Nat) (l : List UInt8) (w : World) (hbk : Blk w g 321 #[.slice A n c,.int .i64 0,.slice none 0 0,.int .i64 0]) (hr : Bytes w B A n c l) (hB : B <= g) (hn : n <= 35184372088832) :
 Calls Tryz.prog 249 #[.pointer (some ⟨g,0,none⟩)] w (ReadAt w g A n c (sread l)) := by
 have HR := hid hr
 have HK := hid hbk
 have hg := hbk.lt
 have hc0 : w.cell? ⟨g,0,none⟩ = some (.slice A n c) := hbk.cell 0
 clear hr hbk
 go_enter Tryz.func249,Tryz.ntmps249
 go_wp2_with fail
 refine (records_any B A n c l _ HR.out (by omega) hn).mono ?_
 rintro e w1 ⟨A1,c1,rfl,hl1,hb1⟩
 have HL1 := hid hl1
 have HB1 := hid hb1
 have HK1 := hid (HK.out.below hb1 hg)
 clear hl1 hb1
 have HC := hid (scan_count l)
 generalize hs : scan l = s at *
 obtain ⟨ls,x⟩ := s
 cases ls with
 | nil =>
   have HX := hid (show sread l = bad by unfold sread; rw [hs]; rfl)
   clear hs
   go_wp2
   go_ret
   rw [HX.out]
   exact ⟨rfl,HB1.out.mono (by omega),HB1.out.size,fun h => by cases h⟩
 | cons p ls =>
   dsimp only at *
   obtain ⟨b,off,A2,n2,c2,q,rfl,hb,hcell,hy,hget,_⟩ := HL1.out.lists.at_ (k := 0) (by simp)
   simp only [List.getElem?_cons_zero,Option.some.injEq] at hget
   subst hget
   rw [Nat.add_zero] at hcell
   have HY := hid hy
   have HS := hid hs
   clear hy hs
   generalize hm : (p :: ls).length = m at *
   have hm1 : ls.length + 1 = m := by rw [<- hm]; rfl
   have HM := hid hm1
   clear hm
   have hm0 : ¬ m = 0 := by omega
   have hm0' : ((m : Int) == 0) = false := by simp; omega
   go_wp2_with fail
   refine (firstof_any _ A2 n2 c2 p _ HY.out (Nat.le_refl _)).mono ?_
   rintro e w2 ⟨rfl,hb2⟩
   have HB2 := hid (held_two HB1.out hb2)
   have HK2 := hid (HK1.out.below hb2 (by have := HB1.out.size; omega))
   have HL2 := hid (HL1.out.below hb2)
   clear hb2 hcell
   cases hf : first p with
   | none =>
     have HX := hid (show sread l = bad by unfold sread sreads; rw [HS.out]; simp only [hf])
     rw [show (none : Option Int).getD 0 = 0 from rfl,show (none : Option Int).isSome = false from rfl]
     clear hf
     go_wp2
     go_ret
     rw [HX.out]
     exact ⟨rfl,HB2.out.mono (by omega),HB2.out.size,fun h => by cases h⟩
   | some y =>
     have HX := hid (show sread l = ⟨y,ls,x,0⟩ by unfold sread sreads; rw [HS.out]; simp only [hf])
     rw [show (some y).getD 0 = y from rfl,show (some y).isSome = true from rfl]
     clear hf
     have hsl : ∀ w,(Instr.sliceAt 81 (.slice (some ⟨b,off,none⟩) m c1) (some (.int .i64 1)) none none).run Tryz.prog w = .ok (.slice (cutAt (some ⟨b,off,none⟩) c1 1) (m - 1) (c1 - 1)) w := fun w => run_cuts w _ m c1 1 (by omega)
     have HL3 := hid (HL2.out.cut (k := 1) (by omega))
     generalize cutAt (some ⟨b,off,none⟩) c1 1 = A3 at hsl HL3
     have hf1 : w2.frozen? ⟨g,1,none⟩ = false := HK2.out.frozen 1
     have hf2 : w2.frozen? ⟨g,2,none⟩ = false := HK2.out.frozen 2
     have hf3 : w2.frozen? ⟨g,3,none⟩ = false := HK2.out.frozen 3
     have hc1 : w2.cell? ⟨g,1,none⟩ = some (.int .i64 0) := HK2.out.cell 1
     have hc2 : w2.cell? ⟨g,2,none⟩ = some (.slice none 0 0) := HK2.out.cell 2
     have hc3 : w2.cell? ⟨g,3,none⟩ = some (.int .i64 0) := HK2.out.cell 3
     go_wp2
     go_region
     go_wp2
     go_ret
     rw [HX.out]
     have hm2 : ls.length = m - 1 := by omega
     refine ⟨rfl,?_,?_,fun _ => ⟨A3,c1 - 1,?_,?_⟩⟩
     ·have h0 : Below g w w2 := HB2.out.mono (by omega)
      exact (((h0.setCell (Nat.le_refl g) _).setCell (Nat.le_refl g) _).setCell (Nat.le_refl g) _).drew
     ·have := HB2.out.size
      simpa using this
     ·have h1 := ((HK2.out.set_ 1 (.int .i64 y)).set_ 2 (.slice A3 (m - 1) (c1 - 1))).set_ 3 (.int .i64 x)
      show Blk _ g 321 #[.slice A n c,.int .i64 y,.slice A3 ls.length (c1 - 1),.int .i64 x]
      rw [hm2]
      exact h1
     ·show ListsIn _ _ A3 ls.length _ ls
      rw [hm2]
      have hng : ¬ w.heap.size <= g := by omega
      have h1 := ((HL3.out.setCell (p := ⟨g,1,none⟩) hng (.int .i64 y)).setCell (p := ⟨g,2,none⟩) hng (.slice A3 (m - 1) (c1 - 1))).setCell (p := ⟨g,3,none⟩) hng (.int .i64 x)
      exact h1
theorem results_tmp4 {fn : Func} {t u v x : Tmp} (h : fn.results = #[.tmp t,.tmp u,.tmp v,.tmp x]) (tmps : Array Value) (P : Program) (w : World) :
 (results fn tmps).run P w = .ok (.tuple #[tmps.getD t undef,tmps.getD u undef,tmps.getD v undef,tmps.getD x undef]) w := by
 simp [results,h]
theorem zero_e (l : List UInt8) : (sread l).e = 0 \/ sread l = bad := by
 unfold sread sreads
 split
 ·exact .inr rfl
 ·split
  ·exact .inl rfl
  ·exact .inr rfl
theorem segread_any (B : Nat) (A : Option Addr) (n c : Nat) (l : List UInt8) (w : World) (hr : Bytes w B A n c l) (hB : B <= w.heap.size) (hn : n <= 35184372088832) :
 Calls Tryz.prog 210 #[.slice A n c] w (SegRead w (sread l)) := by
 have HR := hid hr
 clear hr
 go_enter Tryz.func210,Tryz.ntmps210
 go_wp2_with fail
 refine (read_at B w.heap.size A n c l _ (Blk.new w _ _) (HR.out.alloc hB _) hB hn).mono ?_
 rintro e w1 ⟨rfl,hb1,hz1,h1⟩
 have HB1 : Hid (Below w.heap.size w w1) := ((Below.refl w.heap.size w).alloc (Nat.le_refl _) _).trans hb1
 rcases zero_e l with h0 | h0
 ·obtain ⟨A1,c1,hk,hl⟩ := h1 h0
  have HL := hid (hl.mono (S' := (w.heap.size <= ·)) fun b (hb : _ <= b) => by simp at hb; omega)
  have hc1 : w1.cell? ⟨w.heap.size,1,none⟩ = some (.int .i64 (sread l).x) := hk.cell 1
  have hc2 : w1.cell? ⟨w.heap.size,2,none⟩ = some (.slice A1 (sread l).rows.length c1) := hk.cell 2
  have hc3 : w1.cell? ⟨w.heap.size,3,none⟩ = some (.int .i64 (sread l).n) := hk.cell 3
  have H0 := hid h0
  rw [h0]
  clear hb1 hz1 h1 h0 hl hk
  generalize sread l = s at *
  obtain ⟨x,rows,m,k⟩ := s
  dsimp only at *
  generalize hrl : rows.length = r at *
  have HN := hid hrl
  clear hrl
  go_wp2
  go_region
  go_wp2
  try simp only [Exit.inBlock,Exit.then]
  refine bodyPost_ret (results_tmp4 rfl _ _ _) rfl ?_
  obtain rfl : k = 0 := H0.out
  refine ⟨A1,c1,by rw [HN.out]; rfl,?_,HB1.out.drew⟩
  rw [HN.out]
  exact HL.out
 ·have HX := hid h0
  rw [h0]
  clear hb1 hz1 h1 h0
  rw [show bad.e = 3 from rfl]
  go_wp2
  try simp only [Exit.inBlock,Exit.then]
  refine bodyPost_ret (results_tmp4 rfl _ _ _) rfl ?_
  rw [HX.out]
  exact segread_bad HB1.out
end Seg
namespace Wal
open Go.RowKit Base WalMath
open Disk (DiskAt I64 Fits)
open Foot (Turn Out own_same own_type)
open DiskMath (Fl Dk)
theorem istorn_any (F G : Nat -> Prop) (g gd : Nat) (l : Lg) (d : Dk) (f x : Int) (A : Option Addr) (r c z : Nat) (w : World) (h : LogAt G w g gd l) (hdk : DiskAt F w gd d) (hI : I64 f) :
 Calls Tryz.prog 161 #[.pointer (some ⟨g,0,none⟩),.agg #[.int .i64 f,.int .i64 x,.slice A r c,.int .i64 z]] w fun e w' => e = .returned (.bool (decide ((z : Int) < DiskMath.size d f))) /\ Below w.heap.size w w' := by
 obtain ⟨A',n',c',qs,lp,h⟩ := h
 have hbW : Below w.heap.size w (w.alloc (.cells #[.int .i64 f,.int .i64 x,.slice A r c,.int .i64 z] 172)) := (Below.refl _ _).alloc (Nat.le_refl _) _
 have c1 : (w.alloc (.cells #[.int .i64 f,.int .i64 x,.slice A r c,.int .i64 z] 172)).cell? ⟨g,1,none⟩ = some (.pointer (some ⟨gd,0,none⟩)) := held_cell hbW h.cells.2.1
 have hbk := Blk.new w 172 #[.int .i64 f,.int .i64 x,.slice A r c,.int .i64 z]
 have b0 : (w.alloc (.cells #[.int .i64 f,.int .i64 x,.slice A r c,.int .i64 z] 172)).cell? ⟨w.heap.size,0,none⟩ = some (.int .i64 f) := hbk.cell 0
 have b3 : (w.alloc (.cells #[.int .i64 f,.int .i64 x,.slice A r c,.int .i64 z] 172)).cell? ⟨w.heap.size,3,none⟩ = some (.int .i64 z) := hbk.cell 3
 have HBW := hid hbW
 have hdW := hdk.new hbW
 have QL := hid (fun n => quiet (w := w.alloc (.cells #[.int .i64 f,.int .i64 x,.slice A r c,.int .i64 z] 172)) (n := n) (Disk.len_any F gd d f _ (hdW.drewN n) hI))
 clear h hdk hdW hbk hbW
 generalize hW : w.alloc (.cells #[.int .i64 f,.int .i64 x,.slice A r c,.int .i64 z] 172) = W at *
 generalize DiskMath.size d f = sz at *
 go_enter Tryz.func161,Tryz.ntmps161
 go_wp2_with fail
 go_quiet (first | (go_at_call 211; exact QL.out _))
 go_wp2
 go_ret
 exact ⟨rfl,below_drewN HBW.out nq⟩
theorem iswhole_any (F G : Nat -> Prop) (g gd : Nat) (l : Lg) (d : Dk) (f x : Int) (A : Option Addr) (r c z n : Nat) (w : World) (h : LogAt G w g gd l) (hdk : DiskAt F w gd d) (hI : I64 f) (hn : DiskMath.size d f = n) :
 Calls Tryz.prog 160 #[.pointer (some ⟨g,0,none⟩),.agg #[.int .i64 f,.int .i64 x,.slice A r c,.int .i64 z]] w fun e w' => e = .returned (.bool (decide (0 < r) && !decide (z < n))) /\ Below w.heap.size w w' := by
 have HBW : Hid (Below w.heap.size w (w.alloc (.cells #[.int .i64 f,.int .i64 x,.slice A r c,.int .i64 z] 172))) := (Below.refl _ _).alloc (Nat.le_refl _) _
 have HQ := hid (istorn_any F G g gd l d f x A r c z _ (h.new HBW.out) (hdk.new HBW.out) hI)
 generalize hres : (decide (0 < r) && !decide (z < n)) = res
 have HRES := hid hres
 clear hres
 have hE : decide ((z : Int) < DiskMath.size d f) = decide (z < n) := by rw [hn]; simp
 generalize ht : decide (z < n) = t at hE HRES
 have HE := hid hE
 clear h hdk hn ht hE
 by_cases h0 : 0 < r
 ·have HR := hid (show res = !t by rw [<- HRES.out,decide_eq_true h0]; rfl)
  clear HRES
  cases t
  all_goals
   go_enter Tryz.func160,Tryz.ntmps160
   go_wp2_with fail
   refine HQ.out.mono ?_
   rintro e w1 ⟨rfl,hb1⟩
   rw [HE.out]
   have HB1 := hid (held_two HBW.out hb1)
   clear hb1
   go_wp2
   go_ret
   exact ⟨by rw [HR.out]; rfl,HB1.out⟩
 ·obtain rfl : r = 0 := by omega
  have HR := hid (show res = false by rw [<- HRES.out]; rfl)
  clear h0 HRES
  go_enter Tryz.func160,Tryz.ntmps160
  go_wp2
  go_ret
  exact ⟨by rw [HR.out]; rfl,HBW.out⟩
theorem goeson_any (G : Nat -> Prop) (g gd : Nat) (l : Lg) (f x : Int) (A : Option Addr) (r c z : Nat) (s : Sg) (w : World) (h : LogAt G w g gd l) (ho : ∀ s ∈ l.segs,SgOk s) (hx : 0 <= x) (hxr : x + r <= 9223372036854775807) (hsx : s.first = x) (hsr : s.rows.length = r) :
 Calls Tryz.prog 159 #[.pointer (some ⟨g,0,none⟩),.agg #[.int .i64 f,.int .i64 x,.slice A r c,.int .i64 z]] w fun e w' => e = .returned (.bool (goesOn l.segs s)) /\ Below w.heap.size w w' := by
 generalize hres : goesOn l.segs s = res
 have HG : Hid (res = ((decide (l.segs.length = 0) || decide (x = hd l.segs + 1)) && decide (x + r - 1 <= 1099511627776))) := by
  rw [<- hres]
  unfold goesOn last
  rw [hsx,hsr]
  exact rfl
 clear hres hsx hsr
 generalize hls : decide (x + (r : Int) - 1 <= 1099511627776) = lb at HG
 have hhb := hd_bd ho
 obtain ⟨A',n',c',qs,lp,hL⟩ := h
 have hlen := hL.len
 have hbW : Below w.heap.size w (w.alloc (.cells #[.int .i64 f,.int .i64 x,.slice A r c,.int .i64 z] 172)) := (Below.refl _ _).alloc (Nat.le_refl _) _
 have c0 : (w.alloc (.cells #[.int .i64 f,.int .i64 x,.slice A r c,.int .i64 z] 172)).cell? ⟨g,0,none⟩ = some (.slice A' n' c') := held_cell hbW hL.cells.1
 have HBK := hid (Blk.new w 172 #[.int .i64 f,.int .i64 x,.slice A r c,.int .i64 z])
 have b0 : (w.alloc (.cells #[.int .i64 f,.int .i64 x,.slice A r c,.int .i64 z] 172)).cell? ⟨w.heap.size,0,none⟩ = some (.int .i64 f) := HBK.out.cell 0
 have b1 : (w.alloc (.cells #[.int .i64 f,.int .i64 x,.slice A r c,.int .i64 z] 172)).cell? ⟨w.heap.size,1,none⟩ = some (.int .i64 x) := HBK.out.cell 1
 have b2 : (w.alloc (.cells #[.int .i64 f,.int .i64 x,.slice A r c,.int .i64 z] 172)).cell? ⟨w.heap.size,2,none⟩ = some (.slice A r c) := HBK.out.cell 2
 have b3 : (w.alloc (.cells #[.int .i64 f,.int .i64 x,.slice A r c,.int .i64 z] 172)).cell? ⟨w.heap.size,3,none⟩ = some (.int .i64 z) := HBK.out.cell 3
 have HBW := hid hbW
 have HLW : Hid (LogAt G (w.alloc (.cells #[.int .i64 f,.int .i64 x,.slice A r c,.int .i64 z] 172)) g gd l) := LogAt.new ⟨_,_,_,_,_,hL⟩ hbW
 have HO := hid ho
 clear hL hbW ho
 generalize hW : w.alloc (.cells #[.int .i64 f,.int .i64 x,.slice A r c,.int .i64 z] 172) = W at *
 generalize hs0 : w.heap.size = s0 at b0 b1 b2 b3
 have HS0 := hid hs0
 by_cases hn : n' = 0
 ·subst hn
  have HN := hid (show res = lb by rw [HG.out,decide_eq_true hlen]; rfl)
  clear hlen HG
  go_enter Tryz.func159,Tryz.ntmps159
  go_wp2_with fail
  go_quiet (fail)
  generalize hW3 : W.drewN nq = W3
  have B3 : Hid (Below w.heap.size w W3) := by rw [<- hW3]; exact below_drewN HBW.out nq
  have d0 : W3.cell? ⟨s0,0,none⟩ = some (.int .i64 f) := by rw [<- hW3]; exact b0
  have d1 : W3.cell? ⟨s0,1,none⟩ = some (.int .i64 x) := by rw [<- hW3]; exact b1
  have d2 : W3.cell? ⟨s0,2,none⟩ = some (.slice A r c) := by rw [<- hW3]; exact b2
  have d3 : W3.cell? ⟨s0,3,none⟩ = some (.int .i64 z) := by rw [<- hW3]; exact b3
  clear hW hW3 hs0 b0 b1 b2 b3 c0
  go_wp2_with fail
  refine (last_any f x A r c z _ hx hxr).mono ?_
  rintro e w4 ⟨rfl,hb4⟩
  have HB4 := hid (held_two B3.out hb4)
  clear hb4
  go_wp2
  go_ret
  rw [HN.out]
  exact ⟨rfl,HS0.out ▸ HB4.out⟩
 ·have hn1 : ((n' : Int) == 0) = false := by simp; omega
  have HN := hid (show res = (decide (x = hd l.segs + 1) && lb) by rw [HG.out,decide_eq_false (show ¬ l.segs.length = 0 by omega)]; rfl)
  clear HG
  have hwh : IntKind.i64.wrap (hd l.segs + 1) = hd l.segs + 1 := IntWalk.i64_in _ (by omega)
  clear hn
  generalize hhd : hd l.segs = hh at *
  have HHD := hid hhd
  clear hhd hlen
  go_enter Tryz.func159,Tryz.ntmps159
  go_wp2_with fail
  clear hW hs0
  go_region_held3 (fun w' => w'.cell? ⟨g,0,none⟩ = some (.slice A' n' c') /\ w'.cell? ⟨s0,1,none⟩ = some (.int .i64 x) /\ Below W.heap.size W w')
   (first
     | exact held2 (held_start W) c0 b1
     | assumption
     | (go_split_ands; exact held2 (held_call (by assumption) hbc) c0 b1)
     | fail)
   (first
     | (go_at_call 48; go_split_ands; refine (head_any G g gd l _ (HLW.out.new (by assumption)) HO.out).mono ?_; rintro e wc ⟨rfl,hbc⟩; rw [HHD.out])
     | fail)
  have hb4 := held_call (held_start W) hbc
  have d0 := held_cell hb4 b0
  have d1 := held_cell hb4 b1
  have d2 := held_cell hb4 b2
  have d3 := held_cell hb4 b3
  have HB4 := hid (held_two HBW.out hb4)
  clear hbc hb4 b0 b1 b2 b3 c0 HBK
  by_cases hxe : x = hh + 1
  ·have hx2 : (x == hh + 1) = true := by simpa using hxe
   have HXE := hid (show res = lb by rw [HN.out,decide_eq_true hxe]; rfl)
   rw [hx2]
   clear hxe hx2
   go_wp2_with fail
   refine (last_any f x A r c z _ hx hxr).mono ?_
   rintro e w5 ⟨rfl,hb5⟩
   have HB5 := hid (held_two HB4.out hb5)
   clear hb5
   go_wp2
   go_ret
   rw [HXE.out]
   exact ⟨rfl,HS0.out ▸ HB5.out⟩
  ·have hx2 : (x == hh + 1) = false := by simpa using hxe
   have HXE := hid (show res = false by rw [HN.out,decide_eq_false hxe]; rfl)
   rw [hx2]
   clear hxe hx2
   go_wp2
   go_ret
   rw [HXE.out]
   exact ⟨rfl,HS0.out ▸ HB4.out⟩
end Wal
end Go.Proofs.YtefnmnpfecfdaaaGreat
namespace Go.Proofs
open Go.Shelf
def Tryz.searchA_ren : Go.Shelf.Ren := ⟨fun | 16 => 114 | n => n,fun | 3 => 3 | 35 => 114 | 4 => 4 | 38 => 96 | n => n,fun | n => n⟩
theorem Tryz.searchA : Go.Proofs.SlLaysO.n16 Tryz.prog Tryz.searchA_ren := {
 mixed := by kernel_rfl
 f16 := Tryz.func114.trans (congrArg some (by kernel_rfl))
 t3 := Tryz.underlying3
 a3 := Tryz.isAgg3
 z3 := Tryz.sizeOf3
 v3 := Tryz.zeroValue3
 t4 := Tryz.underlying4
 a4 := Tryz.isAgg4
 z4 := Tryz.sizeOf4
 v4 := Tryz.zeroValue4
 t35 := Tryz.underlying114
 a35 := Tryz.isAgg114
 z35 := Tryz.sizeOf114
 v35 := Tryz.zeroValue114
 t38 := Tryz.underlying96
 a38 := Tryz.isAgg96
 z38 := Tryz.sizeOf96
 v38 := Tryz.zeroValue96 }
def Tryz.delFA_ren : Go.Shelf.Ren := ⟨fun | 10 => 156 | 6 => 209 | n => n,fun | 22 => 23 | 23 => 3 | 25 => 114 | 3 => 3 | 4 => 4 | 0 => 0 | n => n,fun | n => n⟩
theorem Tryz.delFA : Go.Proofs.SlLaysH.n10 Tryz.prog Tryz.delFA_ren := {
 mixed := by kernel_rfl
 f6 := ⟨Tryz.f209.name,by decide,Tryz.func209.trans (congrArg some (by kernel_rfl))⟩
 f10 := ⟨Tryz.f156.name,by decide,Tryz.func156.trans (congrArg some (by kernel_rfl))⟩
 t0 := Tryz.underlying0
 a0 := Tryz.isAgg0
 z0 := Tryz.sizeOf0
 v0 := Tryz.zeroValue0
 t3 := Tryz.underlying3
 a3 := Tryz.isAgg3
 z3 := Tryz.sizeOf3
 v3 := Tryz.zeroValue3
 t4 := Tryz.underlying4
 a4 := Tryz.isAgg4
 z4 := Tryz.sizeOf4
 v4 := Tryz.zeroValue4
 t22 := Tryz.underlying23
 a22 := Tryz.isAgg23
 z22 := Tryz.sizeOf23
 v22 := Tryz.zeroValue23
 a23 := Tryz.isAgg3
 z23 := Tryz.sizeOf3
 t25 := Tryz.underlying114
 a25 := Tryz.isAgg114
 z25 := Tryz.sizeOf114
 v25 := Tryz.zeroValue114 }
end Go.Proofs
namespace Go.Proofs.YtefnmnpfecfdaaaGreat
end Go.Proofs.YtefnmnpfecfdaaaGreat
