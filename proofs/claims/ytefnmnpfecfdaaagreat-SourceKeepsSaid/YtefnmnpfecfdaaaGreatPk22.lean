/-
  Texts of one proof: WalAsk, RefNums, FieldPuts, FieldFlds, FieldEncode, CrcWalks.
-/
import Derived.Test.YtefnmnpfecfdaaaGreatPk21
set_option linter.all false
set_option maxRecDepth 100000
set_option maxHeartbeats 1600000
open Go.Lib (hid)
namespace Go.Proofs.YtefnmnpfecfdaaaGreat
namespace Wal
open Go.RowKit Base WalMath
open Disk (DiskAt I64 Fits)
open Foot (Turn Out)
open DiskMath (Fl Dk)
theorem last_any (f x : Int) (A : Option Addr) (n c : Nat) (z : Int) (w : World) (h1 : 0 <= x) (h2 : x + n <= 9223372036854775807) :
 Calls Tryz.prog 108 #[.agg #[.int .i64 f,.int .i64 x,.slice A n c,.int .i64 z]] w fun e w' => e = .returned (.int .i64 (x + n - 1)) /\ Below w.heap.size w w' := by
 go_enter Tryz.func108,Tryz.ntmps108
 go_wp2
 go_ret
 exact ⟨rfl,(Below.refl _ _).alloc (Nat.le_refl _) _⟩
theorem head_any (G : Nat -> Prop) (g gd : Nat) (l : Lg) (w : World) (h : LogAt G w g gd l) (ho : ∀ s ∈ l.segs,SgOk s) :
 Calls Tryz.prog 48 #[.pointer (some ⟨g,0,none⟩)] w fun e w' => e = .returned (.int .i64 (hd l.segs)) /\ Below w.heap.size w w' := by
 obtain ⟨A,n,c,qs,lp,h⟩ := h
 have c0 := h.cells.1
 have hlen := h.len
 rcases List.eq_nil_or_concat l.segs with e | ⟨pre,s,e⟩
 ·rw [e] at hlen ⊢
  obtain rfl : 0 = n := hlen
  clear h ho e
  go_enter Tryz.func48,Tryz.ntmps48
  go_wp2
  go_ret
  exact ⟨rfl,Below.refl _ _⟩
 ·rw [List.concat_eq_append] at e
  rw [e,List.length_append,List.length_singleton] at hlen
  obtain ⟨b,q,rfl,_,_,hb,hpn,⟨hnc,hcm⟩,_,k0,k1,k2,k3⟩ := h.at_ (k := pre.length) (s := s) (by rw [e]; simp)
  have hs := ho s (by rw [e]; simp)
  rw [e,hd_snoc]
  have HL := hid (show last s = s.first + s.rows.length - 1 from rfl)
  obtain ⟨_,_,h1,h2,_⟩ := hs
  rw [HL.out] at h2
  clear h ho e
  obtain ⟨f,x,rows,z⟩ := s
  dsimp only at *
  generalize rows.length = r at *
  generalize pre.length = p at *
  go_enter Tryz.func48,Tryz.ntmps48
  have hwp : IntKind.i64.wrap ((n : Int) - 1) = p := by rw [IntWalk.i64_in _ (by omega)]; omega
  have hn0 : ((n : Int) == 0) = false := by simp; omega
  clear hlen
  go_wp2
  go_still_tail 12,(by kernel_rfl)
  go_wp2_with fail
  refine (last_any f x q.A r q.c z _ (by omega) (by omega)).mono ?_
  rintro e w1 ⟨rfl,hb1⟩
  have HB := hid (below_of_drew hb1)
  clear hb1
  go_wp2
  go_ret
  exact ⟨by rw [HL.out]; rfl,HB.out⟩
theorem low_any (G : Nat -> Prop) (g gd : Nat) (l : Lg) (w : World) (h : LogAt G w g gd l) :
 Calls Tryz.prog 49 #[.pointer (some ⟨g,0,none⟩)] w fun e w' => e = .returned (.int .i64 (low l.segs)) /\ w = w' := by
 obtain ⟨A,n,c,qs,lp,h⟩ := h
 have c0 := h.cells.1
 have hlen := h.len
 cases e : l.segs with
 | nil =>
   rw [e] at hlen
   obtain rfl : 0 = n := hlen
   clear h e
   go_enter Tryz.func49,Tryz.ntmps49
   go_wp2
   go_ret
   exact ⟨rfl,rfl⟩
 | cons s r =>
   obtain ⟨b,q,rfl,_,_,hb,hpn,⟨hnc,hcm⟩,_,k0,k1,k2,k3⟩ := h.at_ (k := 0) (s := s) (by rw [e]; rfl)
   have hn0 : ((n : Int) == 0) = false := by simp; omega
   rw [Nat.zero_mul,Nat.zero_add] at k1
   clear h e hlen k0 k2 k3
   go_enter Tryz.func49,Tryz.ntmps49
   go_wp2
   go_ret
   exact ⟨rfl,rfl⟩
theorem quiet {f : FuncId} {args : Array Value} {w : World} {n : Nat} {v : Value} (h : Calls Tryz.prog f args (w.drewN n) fun e w' => e = .returned v /\ w.drewN n = w') : Calls Tryz.prog f args (w.drewN n) fun e w'' => e = .returned v /\ ∃ m,w'' = w.drewN m :=
 h.mono fun _ _ h => ⟨h.1,n,h.2.symm⟩
def ReadS (w : World) (r : Option (List UInt8)) (e : Ending) (w' : World) : Prop := match r with
 | none => e = .returned (.tuple #[.slice none 0 0,.int .i64 5]) /\ Below w.heap.size w w'
 | some p => ∃ A c,e = .returned (.tuple #[.slice A p.length c,.int .i64 0]) /\ w'.ownsRow w.heap.size 5 1 (.slice A p.length c) p.length (bv p) /\ Below w.heap.size w w'
def entry (l : List Sg) (n : Int) : Option (List UInt8) := if low l <= n /\ n <= hd l then (rowsOf l)[(n - low l).toNat]? else none
theorem readno_any (G : Nat -> Prop) (g gd : Nat) (l : Lg) (lsn : Int) (w : World) (h : LogAt G w g gd l) (ho : ∀ s ∈ l.segs,SgOk s) (hn : ¬ (low l.segs <= lsn /\ lsn <= hd l.segs)) :
 Calls Tryz.prog 50 #[.pointer (some ⟨g,0,none⟩),.int .i64 lsn] w (ReadS w none) := by
 have HL := hid h
 have HO := hid ho
 clear h ho
 have HW : Hid (Below w.heap.size w ((w.alloc (.cells #[.pointer (some ⟨g,0,none⟩)] 179)).alloc (.cells #[.int .i64 lsn] 2))) := ((Below.refl _ _).alloc (Nat.le_refl _) _).alloc (by simp) _
 have hc0 : ((w.alloc (.cells #[.pointer (some ⟨g,0,none⟩)] 179)).alloc (.cells #[.int .i64 lsn] 2)).cell? ⟨w.heap.size,0,none⟩ = some (.pointer (some ⟨g,0,none⟩)) := by simp
 have hc1 : ((w.alloc (.cells #[.pointer (some ⟨g,0,none⟩)] 179)).alloc (.cells #[.int .i64 lsn] 2)).cell? ⟨w.heap.size + 1,0,none⟩ = some (.int .i64 lsn) := by simp
 by_cases h1 : lsn < low l.segs
 ·clear hn
  generalize hlo : low l.segs = lo at h1
  have HLO := hid hlo
  have hd1 : decide (lsn < lo) = true := by simpa using h1
  clear hlo h1
  go_enter Tryz.func50,Tryz.ntmps50
  go_wp2_with fail
  generalize (w.alloc (.cells #[.pointer (some ⟨g,0,none⟩)] 179)).alloc (.cells #[.int .i64 lsn] 2) = W at hc0 hc1 HW ⊢
  generalize w.heap.size = s0 at hc0 hc1
  have HLW := hid (HL.out.new HW.out)
  have QL := hid (fun n => quiet (w := W) (n := n) (low_any G g gd l (W.drewN n) HLW.out))
  rw [HLO.out] at QL
  go_quiet (first | (go_at_call 49; exact QL.out _))
  go_wp2
  go_ret2
  exact ⟨rfl,below_drewN HW.out nq⟩
 ·have h2 : hd l.segs < lsn := by omega
  clear hn
  generalize hlo : low l.segs = lo at h1
  generalize hhi : hd l.segs = hi at h2
  have HLO := hid hlo
  have HHI := hid hhi
  have hd1 : decide (lsn < lo) = false := by simpa using h1
  have hd2 : decide (hi < lsn) = true := by simpa using h2
  clear hlo hhi h1 h2
  go_enter Tryz.func50,Tryz.ntmps50
  go_wp2_with fail
  generalize (w.alloc (.cells #[.pointer (some ⟨g,0,none⟩)] 179)).alloc (.cells #[.int .i64 lsn] 2) = W at hc0 hc1 HW ⊢
  generalize w.heap.size = s0 at hc0 hc1
  have HLW := hid (HL.out.new HW.out)
  go_region_held3 (fun w' => w'.cell? ⟨s0,0,none⟩ = some (.pointer (some ⟨g,0,none⟩)) /\ w'.cell? ⟨s0 + 1,0,none⟩ = some (.int .i64 lsn) /\ Below W.heap.size W w')
   (first
     | exact held2 (held_start W) hc0 hc1
     | assumption
     | (go_split_ands; exact held2 (held_call (by assumption) hbc) hc0 hc1)
     | fail)
   (first
     | (go_at_call 49; go_split_ands; refine (low_any G g gd l _ (HLW.out.new (by assumption))).mono ?_; rintro e wc ⟨rfl,rfl⟩; rw [HLO.out])
     | (go_at_call 48; go_split_ands; refine (head_any G g gd l _ (HLW.out.new (by assumption)) HO.out).mono ?_; rintro e wc ⟨rfl,hbc⟩; rw [HHI.out])
     | fail)
  go_wp2
  go_ret2
  exact ⟨rfl,held_two HW.out (held_call (held_start W) hbc)⟩
end Wal
namespace Field
open Go.RowKit Base FieldMath
theorem byte_shr {x : Int} (hx0 : 0 <= x) (k : Nat) : x / 2 ^ (8 * k) % 256 = ((UInt8.ofNat (x.toNat / 256 ^ k)).toNat : Int) := by
 obtain ⟨y,rfl⟩ := Int.eq_ofNat_of_zero_le hx0
 have e : (2 : Nat) ^ (8 * k) = 256 ^ k := by rw [Nat.pow_mul]
 rw [UInt8.toNat_ofNat',Int.toNat_natCast]
 show (y : Int) / 2 ^ (8 * k) % 256 = ((y / 256 ^ k % 256 : Nat) : Int)
 rw [<- e]
 simp
theorem one_byte (w : World) (e : TypeId) (z : UInt8) {s : Nat} (hs : s = w.heap.size) {y : Int} (hy : y = z.toNat) : Row (w.alloc (.cells #[.int .u8 y] e)) (w.heap.size + 1) 1 (some ⟨s,0,none⟩) 1 1 (bv [z]) := by
 subst hy
 exact Row.lit w #[.int .u8 z.toNat] e (0,0) hs rfl (by omega)
def OwnBytes (base : Nat) (w : World) (row : Option Nat) (l : List UInt8) (e : Ending) (w' : World) : Prop :=
 ∃ A c,e = .returned (.slice A l.length c) /\ w'.ownsRow base 5 1 (.slice A l.length c) l.length (bv l) /\ Grew w row w' (.slice A l.length c)
theorem own_bytes {base n c : Nat} {w w' : World} {row : Option Nat} {A : Option Addr} {l l' : List UInt8} {e : Ending} (he : e = .returned (.slice A n c)) (h : w'.ownsRow base 5 1 (.slice A n c) n (bv l')) (hl : l' = l) (hb : Grew w row w' (.slice A n c)) : OwnBytes base w row l e w' := by
 subst hl
 have hn : l'.length = n := by have := h.1; rw [bv_length,Nat.mul_one] at this; exact this
 subst hn
 exact ⟨A,c,he,h,hb⟩
theorem run_mk (w : World) (n : Nat) (hn : n <= 140737488355328) : (Instr.makeSlice 68 (.int .i64 0) (.int .i64 n)).run Tryz.prog w = .ok (.slice (some ⟨w.heap.size,0,none⟩) 0 n) (w.alloc (.cells (madeCells #[.int .u8 0] n) 5)) := by
 obtain ⟨i,ht,hi,hz,hs,hb,_,_⟩ := eb
 have := run_make (P := Tryz.prog) w 68 5 i _ ht hi hz .i64 .i64 0 n (by omega) (by omega) (by rw [hb]; omega) (by omega)
 rw [hs,Nat.mul_one,Int.toNat_natCast] at this
 exact this
theorem made_own (w : World) (base n : Nat) {s : Nat} (hs : s = w.heap.size) (hb : base <= w.heap.size) (hn : n <= 140737488355328) : (w.alloc (.cells (madeCells #[.int .u8 0] n) 5)).ownsRow base 5 1 (.slice (some ⟨s,0,none⟩) 0 n) 0 (bv []) := by
 subst hs
 exact World.ownsRow_made w _ n hb (by unfold maxLen; omega) (by rw [size_madeCells,Nat.mul_one])
theorem run_cut (w : World) (A : Option Addr) (n c k : Nat) (hk : k <= n) : (Instr.sliceAt 68 (.slice A n c) (some (.int .i64 k)) none none).run Tryz.prog w = .ok (.slice (cutAt A c k) (n - k) (c - k)) w := by
 rw [run_sliceAt_slice _ _ _ _ _ _ Tryz.underlying68,run_slice_l _ _ _ _ _ Tryz.underlying68 .i64 k (by omega) (by omega)]
 have : (sizeOf (Tryz.prog.elem 68)).run Tryz.prog w = .ok 1 w := by kernel_rfl
 rw [this]
 simp [Result.andThen,sliced,cutAt]
theorem or_byte {y : Nat} (hy : y < 72057594037927936) (z : UInt8) : bits .or .u64 ((y : Int) * 256) (z.toNat : Int) = ((y * 256 + z.toNat : Nat) : Int) := by
 have hz := z.toNat_lt
 rw [show (y : Int) * 256 = ((y * 256 : Nat) : Int) by simp,u64_or_nat _ _ (by omega) (by omega),nat_join 8 (y * 256) z.toNat (by omega) (by omega)]
theorem take_num_lt {l : List UInt8} {n k : Nat} (hl : l.length = n) (hk : k < n) (hn : n <= 8) : num (l.take k) < 72057594037927936 := by
 have h := num_lt (l.take k)
 rw [List.length_take,hl,Nat.min_eq_left (by omega)] at h
 have h2 : 256 ^ k <= 256 ^ 7 := Nat.pow_le_pow_right (by omega) (by omega)
 have h3 : 256 ^ 7 = 72057594037927936 := by decide
 omega
end Field
namespace Field
open Go.RowKit Base FieldMath
def PutRel (base : Nat) (w : World) (row : Option Nat) (x n m : Nat) (l : List UInt8) (v i : Value) (wr : World) : Prop :=
 ∃ (j : Nat) (pre : List UInt8) (A : Option Addr) (c : Nat),pre.length + j = n /\ pre ++ big x j = big x n /\ v = .slice A (m + pre.length) c /\ wr.ownsRow base 5 1 (.slice A (m + pre.length) c) (m + pre.length) (bv (l ++ pre)) /\
   Grew w row wr (.slice A (m + pre.length) c) /\ ((j = 0 /\ i = .int .i64 (-1)) \/ ∃ k : Nat,j = k + 1 /\ i = .int .i64 k)
theorem put_any (base : Nat) (A : Option Addr) (m c : Nat) (l : List UInt8) (x : Int) (n : Nat) (w : World) (hx0 : 0 <= x) (_hx1 : x < 18446744073709551616) (hn0 : 0 < n) (hn : n <= 8) (hm : m <= 1099511627776)
 (hown : w.ownsRow base 5 1 (.slice A m c) m (bv l)) (hbase : base <= w.heap.size) :
 Calls Tryz.prog 216 #[.slice A m c,.int .u64 x,.int .i64 n] w (OwnBytes base w (Value.slice A m c).ownBlock (l ++ big x.toNat n)) := by
 have HO := hid hown
 clear hown
 go_enter Tryz.func216,Tryz.ntmps216
 go_wp2
 go_loopw [0,7] (fun v i wr => PutRel base w (Value.slice A m c).ownBlock x.toNat n m l v i wr) (fun _ i _ => (RowKit.intOf i + 1).toNat)
 case atStart =>
  exact ⟨n,[],A,c,by simp,rfl,rfl,by simpa using HO.out,Grew.refl _ _,.inr ⟨n - 1,by omega,by congr 1; omega⟩⟩
 case round =>
  obtain ⟨j,pre,A1,c1,hj,hpre,rfl,hown,hbel,hi⟩ := hrel
  have HP := hid hpre
  have HO1 := hid hown
  have HB := hid hbel
  clear hpre hown hbel
  rcases hi with ⟨rfl,rfl⟩ | ⟨k,rfl,rfl⟩
  ·go_wp2
   go_ret
   exact own_bytes rfl HO1.out (by have := HP.out; rw [big,List.append_nil] at this; rw [this]) HB.out
  ·have hk : k < 8 := by omega
   go_wp2_with (first
    | (at_builtin
       refine wpList_append_row rfl (.tmp 14) (.tmp 20) rfl eb base _ (m + pre.length) (bv (l ++ pre)) rfl (HO1.out.alloc _) (wr.heap.size + 1) _ 1 1 (bv [UInt8.ofNat (x.toNat / 256 ^ k)]) rfl (one_byte wr _ _ rfl (byte_shr hx0 k)) (bv_one _) (by omega) (by omega) (by have := HB.out.1.size; simp; omega) ?_
       intro A2 c2 w2 hown2 hg2 _
       have HO2 := hid hown2
       have HB2 := hid ((HB.out.alloc _).step hg2)
       clear hown2 hg2))
   go_roundw
   case rel =>
    refine ⟨k,pre ++ [UInt8.ofNat (x.toNat / 256 ^ k)],A2,c2,by rw [List.length_append,List.length_singleton]; omega,?_,?_,?_,?_,?_⟩
    ·rw [List.append_assoc,<- HP.out]; rfl
    ·simp [Nat.add_assoc]
    ·have h := HO2.out
     rw [<- bv_append,List.append_assoc] at h
     simpa [Nat.add_assoc] using h
    ·have h := HB2.out
     simpa [Nat.add_assoc] using h
    ·rcases Nat.eq_zero_or_pos k with h0 | h0
     ·subst h0; exact .inl ⟨rfl,rfl⟩
     ·exact .inr ⟨k - 1,by omega,by congr 1; omega⟩
   case measure => simp [RowKit.intOf]
end Field
namespace Field
open Go.RowKit Base FieldMath
def fcells (f : Fld) : List Value := [.int .i64 f.kind,.int .i64 f.n,.string f.s]
def fv (fs : List Fld) : List Value := fs.flatMap fcells
theorem fv_append (l m : List Fld) : fv (l ++ m) = fv l ++ fv m := List.flatMap_append
theorem fv_length (l : List Fld) : (fv l).length = l.length * 3 := by
 induction l with
 | nil => rfl
 | cons f l ih =>
   show (fcells f ++ fv l).length = _
   rw [List.length_append,ih,List.length_cons]
   show 3 + l.length * 3 = _
   omega
theorem fv_one (l : List Fld) : ∀ u ∈ fv l,u.oneCell' = true := by
 intro u hu
 obtain ⟨f,_,hf⟩ := List.mem_flatMap.1 hu
 simp only [fcells,List.mem_cons,List.not_mem_nil,or_false] at hf
 rcases hf with rfl | rfl | rfl <;> rfl
theorem fv_get (l : List Fld) (k : Nat) (f : Fld) (h : l[k]? = some f) (i : Nat) (hi : i < 3) : (fv l)[k * 3 + i]? = (fcells f)[i]? := by
 induction l generalizing k with
 | nil => simp at h
 | cons g l ih =>
   show (fcells g ++ fv l)[k * 3 + i]? = _
   cases k with
   | zero =>
     simp only [List.getElem?_cons_zero,Option.some.injEq] at h
     subst h
     rw [List.getElem?_append_left (by show 0 * 3 + i < 3; omega)]
     congr 1
     omega
   | succ k =>
     rw [List.getElem?_cons_succ] at h
     rw [List.getElem?_append_right (by show 3 <= (k + 1) * 3 + i; omega),<- ih k h]
     congr 1
     show (k + 1) * 3 + i - 3 = _
     omega
def Flds (w : World) (B : Nat) (A : Option Addr) (n c : Nat) (fs : List Fld) : Prop := Row w B 3 A n c (fv fs)
section
variable {w w' : World} {B B' n c : Nat} {A : Option Addr} {l : List Fld}
theorem Flds.len (h : Flds w B A n c l) : l.length = n := by have := h.1; rw [fv_length] at this; omega
theorem Flds.le (h : Flds w B A n c l) : n <= c /\ c <= 9223372036854775807 := ⟨h.2.1,h.2.2.1⟩
theorem Flds.nil_ (w : World) (B : Nat) : Flds w B none 0 0 [] := Row.nil_ w B 3
theorem Flds.below (h : Flds w B A n c l) (hb : Below B w w') : Flds w' B A n c l := Row.below h hb
theorem Flds.alloc (h : Flds w B A n c l) (hB : B <= w.heap.size) (o : Obj) : Flds (w.alloc o) B A n c l := Row.alloc h hB o
theorem Flds.setCell (h : Flds w B A n c l) {p : Addr} (hB : B <= p.block) (u : Value) : Flds (w.setCell p u) B A n c l := Row.setCell h hB u
theorem Flds.of_own {base : Nat} {e : TypeId} (h : w.ownsRow base e 3 (.slice A n c) n (fv l)) : Flds w w.heap.size A n c l := Row.of_own h
theorem Flds.at_ (h : Flds w B A n c l) {k : Nat} (hk : k < n) :
 ∃ b off f,A = some ⟨b,off,none⟩ /\ b < B /\ w.cell? ⟨b,off + k * 3,none⟩ = some (.int .i64 f.kind) /\ w.cell? ⟨b,off + k * 3 + 1,none⟩ = some (.int .i64 f.n) /\ w.cell? ⟨b,off + k * 3 + 2,none⟩ = some (.string f.s) /\
   l[k]? = some f /\ l.take (k + 1) = l.take k ++ [f] := by
 obtain ⟨b,off,e,hb,hc⟩ := h.2.2.2 (by omega)
 have hl : k < l.length := by rw [h.len]; exact hk
 have hg : l[k]? = some l[k] := List.getElem?_eq_getElem hl
 refine ⟨b,off,l[k],e,hb,?_,?_,?_,hg,List.take_succ_eq_append_getElem hl⟩
 ·exact hc (k * 3 + 0) _ (by rw [fv_get l k _ hg 0 (by omega)]; rfl)
 ·exact hc (k * 3 + 1) _ (by rw [fv_get l k _ hg 1 (by omega)]; rfl)
 ·exact hc (k * 3 + 2) _ (by rw [fv_get l k _ hg 2 (by omega)]; rfl)
end
theorem ef : Elem Tryz.prog 145 143 3 32 (.agg #[.int .i64 0,.int .i64 0,.string ⟨#[]⟩]) := Elem.of Tryz.underlying145 (by kernel_rfl) rfl (by omega)
theorem empty_iff (s : ByteArray) : s.toList.isEmpty = (s.size == 0) := by
 rw [ByteArray.toList_eq]
 obtain ⟨⟨l⟩⟩ := s
 cases l <;> rfl
theorem ret_bool {a b : Bool} (h : a = b) : Ending.returned (.bool a) = .returned (.bool b) := by rw [h]
theorem right_any (k n : Int) (s : ByteArray) (w : World) :
 Calls Tryz.prog 214 #[.agg #[.int .i64 k,.int .i64 n,.string s]] w fun e w' => e = .returned (.bool (Fld.right ⟨k,n,s⟩)) /\ Below w.heap.size w w' := by
 by_cases h1 : k = 1
 ·subst h1
  go_enter Tryz.func214,Tryz.ntmps214
  go_wp2
  go_ret
  exact ⟨ret_bool (by simp [Fld.right,empty_iff]),(Below.refl _ _).alloc (Nat.le_refl _) _⟩
 ·have h1' : (k == 1) = false := by simpa using h1
  by_cases h2 : k = 2
  ·subst h2
   by_cases h3 : n = 0
   ·subst h3
    go_enter Tryz.func214,Tryz.ntmps214
    go_wp2
    go_ret
    exact ⟨ret_bool (by simp [Fld.right]; omega),(Below.refl _ _).alloc (Nat.le_refl _) _⟩
   ·have h3' : (n == 0) = false := by simpa using h3
    go_enter Tryz.func214,Tryz.ntmps214
    go_wp2
    go_ret
    exact ⟨ret_bool (by simp [Fld.right,h3']),(Below.refl _ _).alloc (Nat.le_refl _) _⟩
  ·have h2' : (k == 2) = false := by simpa using h2
   go_enter Tryz.func214,Tryz.ntmps214
   go_wp2
   go_ret
   exact ⟨ret_bool (by simp [Fld.right,h1',h2']),(Below.refl _ _).alloc (Nat.le_refl _) _⟩
def fsize (f : Fld) : Nat := if f.kind = 1 then 9 else 3 + f.s.size
theorem fsize_enc (f : Fld) : (encF f).length = fsize f := by
 unfold encF fsize
 split
 ·rw [List.length_cons,big_length]
 ·rw [List.length_cons,List.length_append,big_length,size_list]; omega
theorem size_any (k n : Int) (s : ByteArray) (w : World) (hs : s.size <= 4096) :
 Calls Tryz.prog 215 #[.agg #[.int .i64 k,.int .i64 n,.string s]] w fun e w' => e = .returned (.int .i64 (fsize ⟨k,n,s⟩)) /\ Below w.heap.size w w' := by
 by_cases h1 : k = 1
 ·subst h1
  go_enter Tryz.func215,Tryz.ntmps215
  go_wp2
  go_ret
  exact ⟨rfl,(Below.refl _ _).alloc (Nat.le_refl _) _⟩
 ·have h1' : (k == 1) = false := by simpa using h1
  go_enter Tryz.func215,Tryz.ntmps215
  go_wp2
  go_ret
  exact ⟨ret_int (by rw [fsize,if_neg h1]; simp),(Below.refl _ _).alloc (Nat.le_refl _) _⟩
end Field
namespace Field
open Go.RowKit Base FieldMath
theorem wrap_u64 (n : Int) : IntKind.u64.wrap n = ((nat64 n : Nat) : Int) := by
 have hw : IntKind.u64.wrap n = n % 18446744073709551616 := by simp [IntKind.wrap,IntKind.bits,IntKind.signed]
 rw [hw,nat64]
 omega
theorem big_one : big 1 1 = [1] := by decide
theorem big_two : big 2 1 = [2] := by decide
theorem box_kept {w w1 : World} {base n : Nat} {e : TypeId} {size : Nat} {v v1 : Value} {xs : List Value} {t : TypeId} {x y z : Value} (hown : w.ownsRow base e size v n xs) (h : Grew (w.alloc (.cells #[x,y,z] t)) v.ownBlock w1 v1) :
 w1.cell? ⟨w.heap.size,0,none⟩ = some x /\ w1.cell? ⟨w.heap.size,1,none⟩ = some y /\ w1.cell? ⟨w.heap.size,2,none⟩ = some z := by
 have hb : Blk w1 w.heap.size t #[x,y,z] := (Blk.new w t #[x,y,z]).grown h.1 (fun e => by have := (hown.lt _ e.symm).2; omega)
 exact ⟨hb.cell 0,hb.cell 1,hb.cell 2⟩
theorem putField_any (base : Nat) (A : Option Addr) (m c : Nat) (l : List UInt8) (k n : Int) (s : ByteArray) (w : World) (hf : Fld.right ⟨k,n,s⟩ = true) (hm : m <= 1099511627000)
 (hown : w.ownsRow base 5 1 (.slice A m c) m (bv l)) (hbase : base <= w.heap.size) :
 Calls Tryz.prog 217 #[.slice A m c,.agg #[.int .i64 k,.int .i64 n,.string s]] w (OwnBytes base w (Value.slice A m c).ownBlock (l ++ encF ⟨k,n,s⟩)) := by
 have hlm : l.length = m := by have := hown.1; rw [bv_length,Nat.mul_one] at this; exact this
 subst hlm
 have HO := hid hown
 clear hown
 rcases right_cases hf with ⟨h1,h2⟩ | ⟨h1,h2,h3⟩
 ·simp only at h1 h2
  subst h1
  have HF : Hid (l ++ encF ⟨1,n,s⟩ = (l ++ big 1 1) ++ big (nat64 n) 8) := by rw [encF,if_pos rfl,big_one,List.append_assoc]; rfl
  rw [HF.out]
  clear HF h2 hf
  go_enter Tryz.func217,Tryz.ntmps217
  go_wp2_with fail
  refine (put_any base A l.length c l 1 1 _ (by omega) (by omega) (by omega) (by omega) (by omega) (HO.out.alloc _) (by simp; omega)).mono ?_
  rintro e w1 ⟨A1,c1,rfl,hown1,hg1⟩
  obtain ⟨d0,d1,d2⟩ := box_kept HO.out hg1
  have HO1 := hid hown1
  have HG1 := hid hg1
  have hz1 := hg1.1.size
  have hx := u64_lt n
  have HE := hid (wrap_u64 n)
  clear hown1 hg1
  have hll : (l ++ big (Int.toNat 1) 1).length = l.length + 1 := by rw [List.length_append,big_length]
  rw [hll] at HO1 HG1 ⊢
  go_wp2_with fail
  rw [HE.out]
  refine (put_any base A1 _ c1 _ ((nat64 n : Nat) : Int) 8 _ (by omega) (by omega) (by omega) (by omega) (by omega) HO1.out (by simp at hz1; omega)).mono ?_
  rintro e w2 ⟨A2,c2,rfl,hown2,hg2⟩
  have HO2 := hid hown2
  have HG2 := hid ((((Grew.refl w (.slice A l.length c)).alloc _).step HG1.out).step hg2)
  clear hown2 hg2
  have hll2 : (l ++ big (Int.toNat 1) 1 ++ big ((nat64 n : Nat) : Int).toNat 8).length = l.length + 9 := by rw [List.length_append,hll,big_length]
  rw [hll2] at HO2 HG2 ⊢
  clear hll hll2
  go_wp2
  go_ret
  exact own_bytes rfl HO2.out rfl HG2.out
 ·simp only at h1 h2 h3
  subst h1
  have HF : Hid (l ++ encF ⟨2,n,s⟩ = ((l ++ big 2 1) ++ big s.size 2) ++ s.data.toList) := by rw [encF,if_neg (by show ¬ (2 : Int) = 1; decide),big_two,List.append_assoc,List.append_assoc]; rfl
  rw [HF.out]
  clear HF h2 hf
  go_enter Tryz.func217,Tryz.ntmps217
  go_wp2_with fail
  refine (put_any base A l.length c l 2 1 _ (by omega) (by omega) (by omega) (by omega) (by omega) (HO.out.alloc _) (by simp; omega)).mono ?_
  rintro e w1 ⟨A1,c1,rfl,hown1,hg1⟩
  obtain ⟨d0,d1,d2⟩ := box_kept HO.out hg1
  have HO1 := hid hown1
  have HG1 := hid hg1
  have hz1 := hg1.1.size
  have hbox : Blk w1 w.heap.size 143 #[.int .i64 2,.int .i64 n,.string s] := (Blk.new w _ _).grown hg1.1 (fun e => by have := (HO.out.lt _ e.symm).2; omega)
  have HX := hid hbox
  clear hown1 hg1 hbox
  have hll : (l ++ big (Int.toNat 2) 1).length = l.length + 1 := by rw [List.length_append,big_length]
  rw [hll] at HO1 HG1 ⊢
  go_wp2_with fail
  refine (put_any base A1 _ c1 _ ((s.size : Nat) : Int) 2 _ (by omega) (by omega) (by omega) (by omega) (by omega) HO1.out (by simp at hz1; omega)).mono ?_
  rintro e w2 ⟨A2,c2,rfl,hown2,hg2⟩
  have HX2 := HX.out.grown hg2.1 (fun e => by
   rcases HG1.out.2 with h | h
   ·rw [<- e] at h
    have := (HO.out.lt _ h.symm).2
    omega
   ·have := h _ e.symm
    simp at this
    omega)
  have e2 : w2.cell? ⟨w.heap.size,2,none⟩ = some (.string s) := HX2.cell 2
  have HO2 := hid hown2
  have HG2 := hid ((((Grew.refl w (.slice A l.length c)).alloc _).step HG1.out).step hg2)
  have hz2 := hg2.1.size
  clear hown2 hg2 HX2 d0 d1 d2
  have hll2 : (l ++ big (Int.toNat 2) 1 ++ big ((s.size : Nat) : Int).toNat 2).length = l.length + 3 := by rw [List.length_append,hll,big_length]
  rw [hll2] at HO2 HG2 ⊢
  clear hll hll2
  go_wp2_with (first
   | (at_builtin
      refine wpList_append_str rfl (.tmp 24) (.tmp 26) rfl eb Tryz.underlying9 base _ _ _ rfl HO2.out s rfl (by omega) (by simp at hz1; omega) ?_
      intro A3 c3 w3 hown3 hg3 _
      have HO3 := hid hown3
      have HG3 := hid (HG2.out.step hg3)
      clear hown3 hg3))
  go_ret
  exact own_bytes rfl (by have := HO3.out; rw [bv_str,<- bv_append] at this; exact this) rfl HG3.out
def Encoded (w : World) (fs : List Fld) (e : Ending) (w' : World) : Prop :=
 ∃ A n c,e = .returned (.tuple #[.slice A n c,.int .i64 (err (enc fs))]) /\ w'.ownsRow w.heap.size 5 1 (.slice A n c) n (bv (got (enc fs))) /\ Below w.heap.size w w'
theorem enc_many {fs : List Fld} (h : 32767 < fs.length) : enc fs = .error 1 := by unfold enc; rw [if_pos (.inl h)]
theorem enc_wrong {fs : List Fld} {k : Nat} {f : Fld} (h : fs[k]? = some f) (hf : f.right = false) : enc fs = .error 1 := by
 have hall : fs.all Fld.right = false := by
  cases hall : fs.all Fld.right with
  | false => rfl
  | true =>
    have := List.all_eq_true.1 hall f (List.mem_of_getElem? h)
    rw [hf] at this
    cases this
 unfold enc
 rw [if_pos (.inr hall)]
theorem enc_ok {fs : List Fld} (h : fs.length <= 32767) (hf : fs.all Fld.right = true) : enc fs = .ok (FieldMath.encZ fs) := by
 unfold enc
 rw [if_neg (by rw [hf]; simp; omega)]
theorem encoded_err {w w' : World} {fs : List Fld} {e : Ending} {k : Nat} (h : enc fs = .error k) (he : e = .returned (.tuple #[.slice none 0 0,.int .i64 k])) (hb : Below w.heap.size w w') : Encoded w fs e w' := by
 unfold Encoded
 rw [h]
 exact ⟨none,0,0,he,World.ownsRow_nil _ _ _ _,hb⟩
theorem encoded_ok {w w' : World} {fs : List Fld} {e : Ending} {A : Option Addr} {n c : Nat} (h : enc fs = .ok (FieldMath.encZ fs)) (he : e = .returned (.tuple #[.slice A n c,.int .i64 0])) (ho : w'.ownsRow w.heap.size 5 1 (.slice A n c) n (bv (FieldMath.encZ fs))) (hb : Below w.heap.size w w') : Encoded w fs e w' := by
 unfold Encoded
 rw [h]
 exact ⟨A,n,c,he,ho,hb⟩
def part (fs : List Fld) (k : Nat) : List UInt8 := big fs.length 2 ++ (fs.take k).flatMap encF
theorem part_zero (fs : List Fld) : part fs 0 = big fs.length 2 := by simp [part]
theorem part_all (fs : List Fld) : part fs fs.length = FieldMath.encZ fs := by rw [part,List.take_length,FieldMath.encZ]
theorem part_succ {fs : List Fld} {k : Nat} {f : Fld} (h : fs.take (k + 1) = fs.take k ++ [f]) : part fs (k + 1) = part fs k ++ encF f := by
 rw [part,part,h,List.flatMap_append,List.append_assoc]
 simp
theorem right_size {f : Fld} (h : f.right = true) : f.s.size <= 4096 := by rcases right_cases h with ⟨_,h⟩ | ⟨_,_,h⟩ <;> omega
theorem all_take {fs : List Fld} {k : Nat} {f : Fld} (h : fs.take (k + 1) = fs.take k ++ [f]) (h1 : (fs.take k).all Fld.right = true) (h2 : f.right = true) : (fs.take (k + 1)).all Fld.right = true := by
 rw [h,List.all_append,h1]
 simp [h2]
theorem right_get {fs : List Fld} {k : Nat} {f : Fld} (h : fs.all Fld.right = true) (hf : fs[k]? = some f) : f.right = true := List.all_eq_true.1 h f (List.mem_of_getElem? hf)
theorem box3 {w w1 : World} {t : TypeId} {x y z : Value} (hb : Below (w.alloc (.cells #[x,y,z] t)).heap.size (w.alloc (.cells #[x,y,z] t)) w1) :
 w1.cell? ⟨w.heap.size,0,none⟩ = some x /\ w1.cell? ⟨w.heap.size,1,none⟩ = some y /\ w1.cell? ⟨w.heap.size,2,none⟩ = some z := by
 have h : Blk w1 w.heap.size t #[x,y,z] := (Blk.new w t #[x,y,z]).below hb (by simp)
 exact ⟨h.cell 0,h.cell 1,h.cell 2⟩
def SizeRel (w : World) (n : Nat) (fs : List Fld) (t i : Value) (wr : World) : Prop :=
 ∃ k z : Nat,k <= n /\ i = .int .i64 k /\ t = .int .i64 z /\ z <= 2 + 4100 * k /\ (fs.take k).all Fld.right = true /\ Below w.heap.size w wr
def EncRel (w : World) (n : Nat) (fs : List Fld) (v i : Value) (wr : World) : Prop :=
 ∃ (k z : Nat) (A : Option Addr) (c : Nat),k <= n /\ i = .int .i64 k /\ v = .slice A z c /\ z <= 2 + 4100 * k /\ wr.ownsRow w.heap.size 5 1 (.slice A z c) z (bv (part fs k)) /\ Below w.heap.size w wr
theorem encode_any (B : Nat) (A : Option Addr) (n c : Nat) (fs : List Fld) (w : World) (hr : Flds w B A n c fs) (hB : B <= w.heap.size) :
 Calls Tryz.prog 169 #[.slice A n c] w (Encoded w fs) := by
 have hle := hr.le
 have hlen := hr.len
 have HL := hid hlen
 have HR := hid hr
 clear hr hlen
 by_cases hbig : 32767 < n
 ·go_enter Tryz.func169,Tryz.ntmps169
  go_wp2
  go_ret2
  exact encoded_err (enc_many (by rw [HL.out]; exact hbig)) rfl (Below.refl _ _)
 ·have hsm : n <= 32767 := by omega
  clear hbig
  go_enter Tryz.func169,Tryz.ntmps169
  go_wp2
  go_loopw [4,15,6] (fun t i _ wr => SizeRel w n fs t i wr) (fun _ i _ _ => n - (RowKit.intOf i).toNat)
  case atStart => exact ⟨0,2,by omega,rfl,rfl,by omega,rfl,Below.refl _ _⟩
  case round =>
   obtain ⟨k,z,hk,rfl,rfl,hz,hall,hbel⟩ := hrel
   have HA := hid hall
   have HB := hid hbel
   clear hall hbel
   by_cases hlt : k < n
   ·obtain ⟨b,off,f,rfl,hb,q0,q1,q2,hget,htk⟩ := (HR.out.below (HB.out.mono hB)).at_ hlt
    have HG := hid hget
    have HK := hid htk
    clear hget htk
    obtain ⟨fk,fn,fss⟩ := f
    simp only at q0 q1 q2
    by_cases hrt : Fld.right ⟨fk,fn,fss⟩ = true
    ·have hss := right_size hrt
     simp only at hss
     have HRT := hid hrt
     clear hrt
     go_wp2_with fail
     refine (right_any _ _ _ _).mono ?_
     rintro e w1 ⟨rfl,hb1⟩
     rw [HRT.out]
     obtain ⟨d0,d1,d2⟩ := box3 hb1
     have HB1 := hid ((HB.out.alloc (by exact HB.out.size) _).trans (hb1.mono (by have := HB.out.size; simp; omega)))
     clear hb1
     go_wp2_with fail
     refine (size_any _ _ _ _ hss).mono ?_
     rintro e w2 ⟨rfl,hb2⟩
     have HB2 := hid (HB1.out.trans (hb2.mono HB1.out.size))
     have hfz : fsize ⟨fk,fn,fss⟩ <= 4100 := by unfold fsize; simp only; split <;> omega
     clear hb2
     generalize fsize ⟨fk,fn,fss⟩ = fz at hfz
     go_wp2
     go_roundw
     case rel => exact ⟨k + 1,z + fz,by omega,by go_num,by go_num,by omega,all_take HK.out HA.out HRT.out,HB2.out⟩
     case measure => simp [RowKit.intOf]; omega
    ·have hrf : Fld.right ⟨fk,fn,fss⟩ = false := by simpa using hrt
     have HRT := hid hrf
     clear hrt hrf
     go_wp2_with fail
     refine (right_any _ _ _ _).mono ?_
     rintro e w1 ⟨rfl,hb1⟩
     rw [HRT.out]
     have HB1 := hid ((HB.out.alloc (by exact HB.out.size) _).trans (hb1.mono (by have := HB.out.size; simp; omega)))
     clear hb1
     go_wp2
     go_ret2
     exact encoded_err (enc_wrong HG.out HRT.out) rfl HB1.out
   ·have hkn : fs.take k = fs := List.take_of_length_le (by rw [HL.out]; omega)
    rw [hkn] at HA
    have HOK := hid (enc_ok (by rw [HL.out]; exact hsm) HA.out)
    clear hkn
    obtain ⟨i0,ht0,hi0,hz0,hs0,hb0,_,_⟩ := eb
    go_wp2_with (first
     | (refine wpList_make_own _ rfl _ _ _ rfl w.heap.size 5 i0 _ 1 ht0 hi0 hz0 hs0 .i64 .i64 _ z rfl rfl rfl (by rw [hb0]; omega) (by unfold maxLen; omega) HB.out.size ?_
        intro w1 hown1 hg1
        have HO1 := hid hown1
        have HB1 := hid (HB.out.grown hg1 HB.out.size (fun _ h => by cases h))
        clear hown1 hg1))
    go_wp2_with fail
    refine (put_any w.heap.size _ 0 _ [] (n : Int) 2 _ (by omega) (by omega) (by omega) (by omega) (by omega) HO1.out HB1.out.size).mono ?_
    rintro e w2 ⟨A2,c2,rfl,hown2,hg2⟩
    rw [List.nil_append,Int.toNat_natCast,big_length] at hown2
    rw [List.nil_append,Int.toNat_natCast,big_length]
    have HO2 := hid hown2
    have HB2 := hid (HB1.out.trans (hg2.below HO1.out HB1.out.size))
    clear hown2 hg2
    go_wp2
    go_loopw [7,35,9] (fun v i _ wr => EncRel w n fs v i wr) (fun _ i _ _ => n - (RowKit.intOf i).toNat)
    case atStart => exact ⟨0,2,A2,c2,by omega,rfl,rfl,by omega,by rw [part_zero,HL.out]; exact HO2.out,HB2.out⟩
    case round =>
     obtain ⟨j,y,A3,c3,hj,rfl,rfl,hy,hown3,hbel3⟩ := hrel
     have HO3 := hid hown3
     have HB3 := hid hbel3
     clear hown3 hbel3
     by_cases hlt2 : j < n
     ·obtain ⟨b,off,f,rfl,hb,q0,q1,q2,hget,htk⟩ := (HR.out.below (HB3.out.mono hB)).at_ hlt2
      have HRT := hid (right_get HA.out hget)
      have HK := hid htk
      clear hget htk
      have hss := right_size HRT.out
      obtain ⟨fk,fn,fss⟩ := f
      simp only at q0 q1 q2 hss
      have hz3 := HB3.out.size
      go_wp2_with fail
      refine (putField_any w.heap.size A3 y c3 (part fs j) fk fn fss _ HRT.out (by omega) (HO3.out.alloc _) (by simp; omega)).mono ?_
      rintro e w4 ⟨A4,c4,rfl,hown4,hg4⟩
      have HB4 := hid ((HB3.out.alloc (by omega) _).trans (hg4.below (HO3.out.alloc _) (by simp; omega)))
      rw [<- part_succ HK.out] at hown4
      rw [<- part_succ HK.out]
      have hll : (part fs (j + 1)).length <= 2 + 4100 * (j + 1) := by
       have h1 : (part fs j).length = y := by have := HO3.out.1; rw [bv_length,Nat.mul_one] at this; exact this
       rw [part_succ HK.out,List.length_append,h1,fsize_enc]
       have : fsize ⟨fk,fn,fss⟩ <= 4100 := by unfold fsize; simp only; split <;> omega
       omega
      have HO4 := hid hown4
      clear hown4 hg4
      generalize hq : (part fs (j + 1)).length = q at hll HO4
      clear hq
      go_wp2
      go_roundw
      case rel => exact ⟨j + 1,q,A4,c4,by omega,by go_num,rfl,hll,HO4.out,HB4.out⟩
      case measure => simp [RowKit.intOf]; omega
     ·have hjn : j = fs.length := by rw [HL.out]; omega
      have hpt : part fs j = FieldMath.encZ fs := by rw [hjn,part_all]
      rw [hpt] at HO3
      clear hpt hjn
      go_wp2
      go_ret2
      exact encoded_ok HOK.out rfl HO3.out HB3.out
end Field
namespace Crc
open Go.RowKit
def Row8 (w : World) (A : Option Addr) (n : Nat) (zs : List Int) : Prop :=
 zs.length = n /\ n <= 9223372036854775807 /\ bytesB zs /\
  (0 < n -> ∃ b off,A = some ⟨b,off,none⟩ /\ b < w.heap.size /\ ∀ j,j < n -> w.cell? ⟨b,off + j,none⟩ = some (.int .u8 (zs.getD j 0)))
theorem Row8.at_ {w : World} {A : Option Addr} {n k : Nat} {zs : List Int} (h : Row8 w A n zs) (hk : k < n) :
 ∃ b off z,A = some ⟨b,off,none⟩ /\ w.cell? ⟨b,off + k,none⟩ = some (.int .u8 z) /\ 0 <= z /\ z < 256 /\ zs.take (k + 1) = zs.take k ++ [z] := by
 obtain ⟨hl,_,hb,hc⟩ := h
 obtain ⟨b,off,hA,_,hcell⟩ := hc (by omega)
 have hkl : k < zs.length := by omega
 have hm := hb (zs[k]) (List.getElem_mem hkl)
 refine ⟨b,off,zs[k],hA,?_,hm.1,hm.2,List.take_succ_eq_append_getElem hkl⟩
 rw [hcell k hk,List.getD_eq_getElem?_getD,List.getElem?_eq_getElem hkl]
 rfl
theorem Row8.below {w w' : World} {B : Nat} {A : Option Addr} {n : Nat} {zs : List Int} (h : Row8 w A n zs) (hb : Below B w w') (hB : w.heap.size <= B) : Row8 w' A n zs := by
 obtain ⟨hl,hm,hy,hc⟩ := h
 refine ⟨hl,hm,hy,fun hn => ?_⟩
 obtain ⟨b,off,hA,hlt,hcell⟩ := hc hn
 refine ⟨b,off,hA,?_,fun j hj => ?_⟩
 ·have := hb.size; omega
 ·rw [hb.cell (p := ⟨b,off + j,none⟩) (by show b < B; omega)]; exact hcell j hj
theorem ret_int {k : IntKind} {a b : Int} (h : a = b) : Ending.returned (.int k a) = .returned (.int k b) := by rw [h]
theorem eight_any (c : Int) (w : World) (h0 : 0 <= c) (h1 : c < 4294967296) :
 Calls Tryz.prog 305 #[.int .u32 c] w fun e w' => e = .returned (.int .u32 (itZ 8 c)) /\ w = w' := by
 go_enter Tryz.func305,Tryz.ntmps305
 go_wp2
 go_loop [0,3] (fun c' i => ∃ (k : Nat) (x : Int),k <= 8 /\ i = .int .i64 k /\ c' = .int .u32 x /\ 0 <= x /\ x < 4294967296 /\ x = itZ k c) (fun _ i => 8 - (RowKit.intOf i).toNat)
 case atStart => exact ⟨0,c,by omega,rfl,rfl,h0,h1,(itZ_zero h0).symm⟩
 case round =>
  obtain ⟨k,x,hk,rfl,rfl,hx0,hx1,hx⟩ := hrel
  have HX := hid hx
  clear hx
  by_cases hlt : k < 8
  ·go_wp2
   go_round
   case rel =>
    have hb := stZ_bd hx0 hx1
    exact ⟨k + 1,stZ x,by omega,by go_num,by rw [step_text hx0 hx1],hb.1,hb.2,by rw [itZ_succ,<- HX.out]⟩
   case measure => simp [RowKit.intOf]; omega
  ·go_wp2
   go_ret
   have hk8 : k = 8 := by omega
   subst hk8
   exact ⟨ret_int HX.out,rfl⟩
theorem more_any (s : Int) (A : Option Addr) (n cap : Nat) (zs : List Int) (w : World) (h0 : 0 <= s) (h1 : s < 4294967296) (hr : Row8 w A n zs) :
 Calls Tryz.prog 289 #[.int .u32 s,.slice A n cap] w fun e w' => e = .returned (.int .u32 (moreZ s zs)) /\ w = w' := by
 have hn := hr.2.1
 have HR := hid hr
 clear hr
 have hnt := ntZ_bd h0 h1
 have HN := hid hnt
 clear hnt
 go_enter Tryz.func289,Tryz.ntmps289
 go_wp2
 go_loop [5,12] (fun c' i => ∃ (k : Nat) (x : Int),k <= n /\ i = .int .i64 k /\ c' = .int .u32 x /\ 0 <= x /\ x < 4294967296 /\ x = morZ (ntZ s) (zs.take k)) (fun _ i => n - (RowKit.intOf i).toNat)
 case atStart => exact ⟨0,_,by omega,rfl,rfl,HN.out.1,HN.out.2,by rw [List.take_zero,morZ_nil HN.out.1]; rfl⟩
 case round =>
  obtain ⟨k,x,hk,rfl,rfl,hx0,hx1,hx⟩ := hrel
  have HX := hid hx
  clear hx
  by_cases hlt : k < n
  ·obtain ⟨b,off,z,rfl,hcell,hz0,hz1,ht⟩ := HR.out.at_ hlt
   have HT := hid ht
   clear ht
   have hxb := xorZ_bd hx0 hx1 hz0 (by omega : z < 4294967296)
   obtain ⟨hxb0,hxb1⟩ := hxb
   go_wp2_with (go_at_call 305; refine (eight_any _ _ hxb0 hxb1).mono ?_; rintro e w' ⟨rfl,rfl⟩)
   go_round
   case rel =>
    have hb := itZ_bd 8 hxb0 hxb1
    refine ⟨k + 1,_,by omega,by go_num,rfl,hb.1,hb.2,?_⟩
    rw [HT.out,morZ_snoc _ _ _ (by rw [<- HX.out]; exact hx0) (by rw [<- HX.out]; exact hx1) ⟨hz0,hz1⟩,<- HX.out]
   case measure => simp [RowKit.intOf]; omega
  ·go_wp2
   go_ret
   refine ⟨ret_int ?_,rfl⟩
   have hz : zs.take k = zs := List.take_of_length_le (by have := HR.out.1; omega)
   rw [hz] at HX
   show ntZ x = moreZ s zs
   rw [HX.out]
   rfl
end Crc
end Go.Proofs.YtefnmnpfecfdaaaGreat
