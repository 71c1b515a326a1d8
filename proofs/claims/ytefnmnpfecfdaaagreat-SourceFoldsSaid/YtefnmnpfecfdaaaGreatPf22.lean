/-
  Texts of one proof: CrcSum, RecNums, RecFront, RecTake, SegHead.
-/
import Derived.Test.YtefnmnpfecfdaaaGreatPf21
import Derived.Lib.SlBytesConst
set_option linter.all false
set_option maxRecDepth 100000
set_option maxHeartbeats 800000
open Go.Lib (hid)
namespace Go.Proofs.YtefnmnpfecfdaaaGreat
namespace Crc
open Go.RowKit
def Parts (w : World) (A : Option Addr) (n : Nat) (ls : List (List Int)) : Prop :=
 ls.length = n /\ n <= 9223372036854775807 /\ (∀ l ∈ ls,bytesB l) /\
  (0 < n -> ∃ b off,A = some ⟨b,off,none⟩ /\ ∀ j,j < n -> ∃ A' m c,w.cell? ⟨b,off + j,none⟩ = some (.slice A' m c) /\ Row8 w A' m (ls.getD j []))
theorem Parts.at_ {w : World} {A : Option Addr} {n k : Nat} {ls : List (List Int)} (h : Parts w A n ls) (hk : k < n) :
 ∃ b off A' m c l,A = some ⟨b,off,none⟩ /\ w.cell? ⟨b,off + k,none⟩ = some (.slice A' m c) /\ Row8 w A' m l /\ (ls.take (k + 1)).flatten = (ls.take k).flatten ++ l := by
 obtain ⟨hl,_,_,hc⟩ := h
 obtain ⟨b,off,hA,hcell⟩ := hc (by omega)
 obtain ⟨A',m,c,h1,h2⟩ := hcell k hk
 have hkl : k < ls.length := by omega
 refine ⟨b,off,A',m,c,_,hA,h1,h2,?_⟩
 rw [List.take_succ_eq_append_getElem hkl,List.flatten_append,List.getD_eq_getElem?_getD,List.getElem?_eq_getElem hkl]
 simp
theorem Parts.bytes {w : World} {A : Option Addr} {n : Nat} {ls : List (List Int)} (h : Parts w A n ls) (k : Nat) : bytesB (ls.take k).flatten := by
 intro x hx
 obtain ⟨l,hl,hxl⟩ := List.mem_flatten.1 hx
 exact h.2.2.1 l (List.mem_of_mem_take hl) x hxl
theorem sum_any (A : Option Addr) (n cap : Nat) (ls : List (List Int)) (w : World) (hr : Parts w A n ls) :
 Calls Tryz.prog 255 #[.slice A n cap] w fun e w' => e = .returned (.int .u32 (moreZ 0 ls.flatten)) /\ w = w' := by
 have hn := hr.2.1
 have HR := hid hr
 clear hr
 go_enter Tryz.func255,Tryz.ntmps255
 go_wp2
 go_loop [3,8] (fun c' i => ∃ (k : Nat) (x : Int),k <= n /\ i = .int .i64 k /\ c' = .int .u32 x /\ 0 <= x /\ x < 4294967296 /\ x = moreZ 0 (ls.take k).flatten) (fun _ i => n - (RowKit.intOf i).toNat)
 case atStart => exact ⟨0,_,by omega,rfl,rfl,by omega,by omega,by rw [List.take_zero,List.flatten_nil,moreZ_nil (by omega) (by omega)]⟩
 case round =>
  obtain ⟨k,x,hk,rfl,rfl,hx0,hx1,hx⟩ := hrel
  have HX := hid hx
  clear hx
  by_cases hlt : k < n
  ·obtain ⟨b,off,A',m,c,l,rfl,hcell,hrow,ht⟩ := HR.out.at_ hlt
   have HT := hid ht
   clear ht
   have HW := hid hrow
   clear hrow
   go_wp2_with (go_at_call 289; refine (more_any _ _ _ _ l _ hx0 hx1 HW.out).mono ?_; rintro e w' ⟨rfl,rfl⟩)
   go_round
   case rel =>
    have hb := moreZ_bd l hx0 hx1 HW.out.2.2.1
    refine ⟨k + 1,_,by omega,by go_num,rfl,hb.1,hb.2,?_⟩
    rw [HT.out,moreZ_append _ _ (by omega) (by omega) (HR.out.bytes k),<- HX.out]
   case measure => simp [RowKit.intOf]; omega
  ·go_wp2
   go_ret
   refine ⟨ret_int ?_,rfl⟩
   have hz : ls.take k = ls := List.take_of_length_le (by have := HR.out.1; omega)
   rw [hz] at HX
   rw [HX.out]
theorem Row8.alloc {w : World} {A : Option Addr} {n : Nat} {zs : List Int} (h : Row8 w A n zs) (o : Obj) : Row8 (w.alloc o) A n zs :=
 h.below ((Below.refl w.heap.size w).alloc (Nat.le_refl _) o) (Nat.le_refl _)
theorem Parts.two {w : World} {A B : Option Addr} {n m : Nat} {zs ys : List Int} (h : Row8 w A n zs) (g : Row8 w B m ys) (c d : Nat) {s : Nat} (hs : s = w.heap.size) :
 Parts (w.alloc (.cells #[.slice A n c,.slice B m d] 68)) (some ⟨s,0,none⟩) 2 [zs,ys] := by
 subst hs
 refine ⟨rfl,by omega,by
  intro l hl
  simp at hl
  rcases hl with rfl | rfl
  ·exact h.2.2.1
  ·exact g.2.2.1,fun _ => ⟨_,_,rfl,fun j hj => ?_⟩⟩
 obtain rfl | rfl : j = 0 \/ j = 1 := by omega
 ·exact ⟨A,n,c,by rw [World.cell?_alloc_mark]; rfl,h.alloc _⟩
 ·exact ⟨B,m,d,by rw [World.cell?_alloc_mark]; rfl,g.alloc _⟩
theorem sum_val (A : Option Addr) (n cap : Nat) (ls : List (List Int)) (w : World) (v : Int) (hr : Parts w A n ls) (hv : moreZ 0 ls.flatten = v) :
 Calls Tryz.prog 255 #[.slice A n cap] w fun e w' => e = .returned (.int .u32 v) /\ w = w' := by
 subst hv
 exact sum_any A n cap ls w hr
end Crc
namespace Rec
open Go.RowKit Base FieldMath RecMath
open Go.Proofs.YtefnmnpfecfdaaaGreat.Field
theorem row8 {w : World} {B n c : Nat} {A : Option Addr} {l : List UInt8} (h : Bytes w B A n c l) (hB : B <= w.heap.size) : Crc.Row8 w A n (zs l) := by
 have hle := h.le
 refine ⟨by rw [zs_length,h.len],by omega,zs_bytes l,fun hn => ?_⟩
 obtain ⟨b,off,e,hb,hc⟩ := h.2.2.2 hn
 refine ⟨b,off,e,by omega,fun j hj => ?_⟩
 have hjl : j < l.length := by rw [h.len]; exact hj
 rw [hc j (.int .u8 (l[j]).toNat) (by rw [bv,List.getElem?_map,List.getElem?_eq_getElem hjl]; rfl),zs,List.getD_eq_getElem?_getD,List.getElem?_map,List.getElem?_eq_getElem hjl]
 rfl
theorem byte_at (x k : Nat) : ((x : Int) / 2 ^ (8 * k)) % 256 = ((UInt8.ofNat (x / 256 ^ k)).toNat : Int) := by
 have := byte_shr (x := (x : Int)) (by omega) k
 rwa [Int.toNat_natCast] at this
theorem big4 (x : Nat) : big x 4 = [UInt8.ofNat (x / 256 ^ 3),UInt8.ofNat (x / 256 ^ 2),UInt8.ofNat (x / 256 ^ 1),UInt8.ofNat (x / 256 ^ 0)] := rfl
theorem four_bytes (w : World) (e : TypeId) (x : Nat) {s : Nat} (hs : s = w.heap.size) {a b c d : Int} (ha : a = (x : Int) / 16777216 % 256) (hb : b = (x : Int) / 65536 % 256) (hc : c = (x : Int) / 256 % 256) (hd : d = (x : Int) % 256) :
 Row (w.alloc (.cells #[.int .u8 a,.int .u8 b,.int .u8 c,.int .u8 d] e)) (w.heap.size + 1) 1 (some ⟨s,0,none⟩) 4 4 (bv (big x 4)) := by
 have h3 := byte_at x 3
 have h2 := byte_at x 2
 have h1 := byte_at x 1
 have h0 := byte_at x 0
 have k3 : (x : Int) / 2 ^ (8 * 3) % 256 = a := by rw [ha]; rfl
 have k2 : (x : Int) / 2 ^ (8 * 2) % 256 = b := by rw [hb]; rfl
 have k1 : (x : Int) / 2 ^ (8 * 1) % 256 = c := by rw [hc]; rfl
 have k0 : (x : Int) / 2 ^ (8 * 0) % 256 = d := by rw [hd]; simp
 rw [k3] at h3; rw [k2] at h2; rw [k1] at h1; rw [k0] at h0
 rw [h3,h2,h1,h0,big4]
 exact Row.lit w #[.int .u8 _,.int .u8 _,.int .u8 _,.int .u8 _] e (0,0) hs rfl (by omega)
def OwnAt (base : Nat) (w : World) (row : Option Nat) (n : Nat) (l : List UInt8) (e : Ending) (w' : World) : Prop :=
 ∃ A c,e = .returned (.slice A n c) /\ w'.ownsRow base 5 1 (.slice A n c) n (bv l) /\ Grew w row w' (.slice A n c)
theorem putnum_any (base : Nat) (A : Option Addr) (m c : Nat) (l : List UInt8) (x n : Nat) (w : World) (hx : x < 4294967296) (hm : m <= 1099511627776) (hn : m + 4 = n)
 (hown : w.ownsRow base 5 1 (.slice A m c) m (bv l)) (hbase : base <= w.heap.size) :
 Calls Tryz.prog 258 #[.slice A m c,.int .u32 x] w (OwnAt base w (Value.slice A m c).ownBlock n (l ++ big x 4)) := by
 subst hn
 have HO := hid hown
 clear hown
 go_enter Tryz.func258,Tryz.ntmps258
 go_wp2_with (first
  | (at_builtin
     refine wpList_append_row rfl (.tmp 5) (.tmp 17) rfl eb base _ m (bv l) rfl (HO.out.alloc _) (w.heap.size + 1) _ 4 4 (bv (big x 4)) rfl (four_bytes w _ x rfl (by omega) rfl rfl rfl) (bv_one _) (by omega) (by omega) (by simp; omega) ?_
     intro A2 c2 w2 hown2 hg2 _
     have HO2 := hid hown2
     have HB2 := hid (((Grew.refl w (Value.slice A m c)).alloc _).step hg2)
     clear hown2 hg2))
 go_ret
 exact ⟨A2,c2,rfl,by have := HO2.out; rwa [<- bv_append] at this,HB2.out⟩
theorem or_byte32 {y : Nat} (hy : y < 16777216) (z : UInt8) : bits .or .u32 ((y : Int) * 256) (z.toNat : Int) = ((y * 256 + z.toNat : Nat) : Int) := by
 have hz := z.toNat_lt
 rw [show (y : Int) * 256 = ((y * 256 : Nat) : Int) by simp,u32_or_nat _ _ (by omega) (by omega),nat_join 8 (y * 256) z.toNat (by omega) (by omega)]
theorem take_num_lt4 {l : List UInt8} {n k : Nat} (hl : l.length = n) (hk : k < n) (hn : n <= 4) : num (l.take k) < 16777216 := by
 have h := num_lt (l.take k)
 rw [List.length_take,hl,Nat.min_eq_left (by omega)] at h
 have h2 : 256 ^ k <= 256 ^ 3 := Nat.pow_le_pow_right (by omega) (by omega)
 have h3 : 256 ^ 3 = 16777216 := by decide
 omega
theorem recnum_any (B : Nat) (A : Option Addr) (n c : Nat) (l : List UInt8) (w : World) (hr : Bytes w B A n c l) (hn : n <= 4) :
 Calls Tryz.prog 308 #[.slice A n c] w fun e w' => e = .returned (.int .u32 (num l)) /\ w = w' := by
 have HR := hid hr
 clear hr
 go_enter Tryz.func308,Tryz.ntmps308
 go_wp2
 go_loop [3,8] (fun x i => ∃ (k y : Nat),k <= n /\ i = .int .i64 k /\ x = .int .u32 y /\ y = num (l.take k)) (fun _ i => n - (RowKit.intOf i).toNat)
 case atStart => exact ⟨0,0,by omega,rfl,rfl,rfl⟩
 case round =>
  obtain ⟨k,y,hk,rfl,rfl,hy⟩ := hrel
  by_cases hlt : k < n
  ·have hyb := take_num_lt4 HR.out.len hlt hn
   rw [<- hy] at hyb
   obtain ⟨b,off,z,rfl,_,hcell,_,ht⟩ := HR.out.at_ hlt
   have HY := hid hy
   have HT := hid ht
   have hz : z.toNat < 256 := z.toNat_lt
   clear hy ht
   go_wp2
   go_round
   case rel => exact ⟨k + 1,y * 256 + z.toNat,by omega,by go_num,by rw [<- or_byte32 hyb z],by rw [HT.out,num_snoc,HY.out]⟩
   case measure => simp [RowKit.intOf]; omega
  ·have this : l.take k = l := List.take_of_length_le (by rw [HR.out.len]; omega)
   rw [this] at hy
   have HY := hid hy
   clear hy this
   go_wp2
   go_ret
   exact ⟨ret_int (by rw [HY.out]),rfl⟩
def NewAt (w : World) (n : Nat) (l : List UInt8) (e : Ending) (w' : World) : Prop := ∃ A c,e = .returned (.slice A n c) /\ Bytes w' w'.heap.size A n c l /\ Below w.heap.size w w'
theorem count_any (A : Option Addr) (n c : Nat) (w : World) (hn : n <= 1048576) :
 Calls Tryz.prog 256 #[.agg #[.slice A n c]] w (NewAt w 4 (big n 4)) := by
 have hmk : ∀ w,(Instr.makeSlice 68 (.int .i64 0) (.int .i64 4)).run Tryz.prog w = .ok (.slice (some ⟨w.heap.size,0,none⟩) 0 4) (w.alloc (.cells (madeCells #[.int .u8 0] 4) 5)) := fun w => run_mk w 4 (by omega)
 have hwr : IntKind.u32.wrap (n : Int) = n := by rw [IntKind.wrap_u32]; omega
 go_enter Tryz.func256,Tryz.ntmps256
 go_wp2_with fail
 go_region_held3 (fun w' => w'.cell? ⟨w.heap.size,0,none⟩ = some (.slice A n c)) (first | go_keep | (rw [Grew.cell hg2 (by simp; omega) (by simp [Value.ownBlock])]; assumption))
  (first | (go_at_call 258; refine (putnum_any w.heap.size _ 0 4 [] n 4 _ (by omega) (by omega) rfl (own_drew (made_own _ w.heap.size 4 (by simp) (by simp) (by omega))) (by simp; omega)).mono ?_; rintro e w2 ⟨A2,c2,rfl,hown2,hg2⟩))
 rw [List.nil_append] at hown2
 have HO2 := hid (Bytes.of_own hown2)
 have HB2 : Hid (Below w.heap.size w w2) := (((Below.refl w.heap.size w).alloc (Nat.le_refl _) _).alloc (by simp) _).trans (below_of_drew (hg2.below (own_drew (made_own _ w.heap.size 4 (by simp) (by simp) (by omega))) (by simp; omega)))
 clear hown2 hg2
 go_wp2
 go_ret
 exact ⟨A2,c2,rfl,HO2.out,HB2.out⟩
theorem rightsum_any (B : Nat) (A : Option Addr) (n c : Nat) (l : List UInt8) (w : World) (hr : Bytes w B A n c l) (hB : B <= w.heap.size) (hn : n <= 1048576) :
 Calls Tryz.prog 230 #[.agg #[.slice A n c]] w fun e w' => e = .returned (.int .u32 (sum (big n 4 ++ l))) /\ Below w.heap.size w w' := by
 have HR := hid hr
 clear hr
 go_enter Tryz.func230,Tryz.ntmps230
 go_wp2_with fail
 have hc0 : (w.alloc (.cells #[.slice A n c] 297)).cell? ⟨w.heap.size,0,none⟩ = some (.slice A n c) := by simp
 have HW : Hid (Below w.heap.size w (w.alloc (.cells #[.slice A n c] 297))) := (Below.refl _ _).alloc (Nat.le_refl _) _
 generalize w.alloc (.cells #[.slice A n c] 297) = W at hc0 HW
 generalize w.heap.size = g at hc0
 go_region_held3 (fun w' => w'.cell? ⟨g,0,none⟩ = some (.slice A n c) /\ Below W.heap.size W w')
  (first
    | exact held1 (held_start W) hc0
    | (go_split_ands; exact held1 (by assumption) hc0)
    | (go_split_ands; exact held1 (held_call (by assumption) hb1) hc0)
    | (go_split_ands; exact held1 (held_alloc (by assumption) _) hc0)
    | (go_split_ands; exact held1 (held_alloc_drew (by assumption) _) hc0))
  (first
    | (go_at_call 256; refine (count_any _ _ _ _ hn).mono ?_; rintro e w1 ⟨A1,c1,rfl,hy1,hb1⟩)
    | (go_at_call 255; refine (Crc.sum_val _ _ _ [zs (big n 4),zs l] _ (sum (big n 4 ++ l) : Nat) (Crc.Parts.two (row8 hy1 (Nat.le_refl _)) (row8 (HR.out.below ((held_two HW.out (held_call (held_start W) hb1)).mono hB)) (Nat.le_trans hB (held_two HW.out (held_call (held_start W) hb1)).size)) _ _ rfl) (by rw [sum_cast,zs_append]; simp)).mono ?_; rintro e w2 ⟨rfl,rfl⟩))
 have HB1 : Hid (Below w.heap.size w w1) := held_two HW.out (held_call (held_start W) hb1)
 clear hb1 hy1
 go_wp2
 go_ret
 exact ⟨rfl,HB1.out.alloc HB1.out.size _⟩
theorem size_any (A : Option Addr) (n c : Nat) (x : Int) (w : World) (hn : n <= 1048576) :
 Calls Tryz.prog 257 #[.agg #[.slice A n c,.int .u32 x]] w fun e w' => e = .returned (.int .i64 (8 + (n : Int))) /\ Below w.heap.size w w' := by
 go_enter Tryz.func257,Tryz.ntmps257
 go_wp2
 go_ret
 exact ⟨rfl,(Below.refl _ _).alloc (Nat.le_refl _) _⟩
def NewOwn (w : World) (n : Nat) (l : List UInt8) (e : Ending) (w' : World) : Prop := ∃ A c,e = .returned (.slice A n c) /\ w'.ownsRow w.heap.size 5 1 (.slice A n c) n (bv l) /\ Below w.heap.size w w'
theorem laid_any (B : Nat) (A : Option Addr) (n c : Nat) (l : List UInt8) (x : Nat) (w : World) (hr : Bytes w B A n c l) (hB : B <= w.heap.size) (hn : n <= 1048576) (hx : x < 4294967296) :
 Calls Tryz.prog 231 #[.agg #[.slice A n c,.int .u32 x]] w (NewOwn w (8 + n) (big n 4 ++ (big x 4 ++ l))) := by
 have HR := hid hr
 clear hr
 go_enter Tryz.func231,Tryz.ntmps231
 go_wp2_with fail
 have hc0 : (w.alloc (.cells #[.slice A n c,.int .u32 x] 299)).cell? ⟨w.heap.size,0,none⟩ = some (.slice A n c) := by simp
 have hc1 : (w.alloc (.cells #[.slice A n c,.int .u32 x] 299)).cell? ⟨w.heap.size,1,none⟩ = some (.int .u32 x) := by simp
 have HW : Hid (Below w.heap.size w (w.alloc (.cells #[.slice A n c,.int .u32 x] 299))) := (Below.refl _ _).alloc (Nat.le_refl _) _
 generalize w.alloc (.cells #[.slice A n c,.int .u32 x] 299) = W at hc0 hc1 HW
 generalize w.heap.size = g at hc0 hc1
 have hmk : ∀ w,(Instr.makeSlice 68 (.int .i64 0) (.int .i64 (8 + (n : Int)))).run Tryz.prog w = .ok (.slice (some ⟨w.heap.size,0,none⟩) 0 (8 + n)) (w.alloc (.cells (madeCells #[.int .u8 0] (8 + n)) 5)) := fun w => by have := run_mk w (8 + n) (by omega); rwa [Int.natCast_add] at this
 go_region_held3 (fun w' => w'.cell? ⟨g,0,none⟩ = some (.slice A n c) /\ w'.cell? ⟨g,1,none⟩ = some (.int .u32 x) /\ Below W.heap.size W w')
  (first
    | exact held2 (held_start W) hc0 hc1
    | (go_split_ands; exact held2 (held_call (by assumption) hbc) hc0 hc1)
    | (go_split_ands; exact held2 (held_call (by assumption) hbs) hc0 hc1)
    | (go_split_ands; exact held2 (held_row (by assumption) hb1) hc0 hc1)
    | (go_split_ands; exact held2 (held_alloc (by assumption) _) hc0 hc1)
    | (go_split_ands; exact held2 (held_alloc_drew (by assumption) _) hc0 hc1))
  (first
    | (go_at_call 256; refine (count_any _ _ _ _ hn).mono ?_; rintro e wc ⟨Ac,cc,rfl,hyc,hbc⟩)
    | (go_at_call 257; refine (size_any _ _ _ _ _ hn).mono ?_; rintro e ws ⟨rfl,hbs⟩)
    | (refine step_append_row (by rfl) (.tmp 6) (.tmp 9) (by rfl) eb W.heap.size _ 0 (bv []) (by rfl) (own_keep (made_own _ W.heap.size (8 + n) (by rfl) (by exact hbs.size) (by omega)) hbc) wc.heap.size Ac 4 cc (bv (big n 4)) (by rfl) hyc (bv_one _) (by omega) (by omega) (by have h2 := hbs.size; have h3 := hbc.size; simp at h2 h3; omega) ?_; intro A1 c1 w1 hown1 hg1 hb1)
    | (refine step_append_row (by rfl) (.tmp 6) (.tmp 9) (by rfl) eb W.heap.size _ 0 (bv []) (by rfl) (made_own _ W.heap.size (8 + n) (by rfl) (by have h2 := hbs.size; have h3 := hbc.size; simp at h2 h3; omega) (by omega)) wc.heap.size Ac 4 cc (bv (big n 4)) (by rfl) (hyc.alloc (Nat.le_refl _) _) (bv_one _) (by omega) (by omega) (by have h2 := hbs.size; have h3 := hbc.size; simp at h2 h3 ⊢; omega) ?_; intro A1 c1 w1 hown1 hg1 hb1)
    | fail)
 all_goals
  rw [Nat.zero_add,<- bv_append,List.nil_append] at hown1
  rw [Nat.zero_add]
  have HW1 : Hid (Below W.heap.size W w1) := by go_split_ands; assumption
  have HO1 := hid hown1
  have hd1 := held_cell HW1.out hc1
  clear hown1 hg1 hb1 hbs hyc hbc
  go_wp2_with fail
  refine (putnum_any W.heap.size _ 4 c1 _ x 8 _ hx (by omega) rfl HO1.out HW1.out.size).mono ?_
  rintro e w2 ⟨A2,c2,rfl,hown2,hg2⟩
  have HW2 := hid (held_row HW1.out (hg2.below HO1.out HW1.out.size))
  have HO2 := hid hown2
  have hd2 := held_cell HW2.out hc0
  clear hown2 hg2 hd1
  have HR2 := hid (HR.out.below ((held_two HW.out HW2.out).mono hB))
  go_wp2_with (first
   | (at_builtin
      refine wpList_append_row rfl (.tmp 15) (.tmp 18) rfl eb W.heap.size _ 8 (bv (big n 4 ++ big x 4)) rfl HO2.out B A n c (bv l) rfl HR2.out (bv_one _) (by omega) (by omega) HW2.out.size ?_
      intro A3 c3 w3 hown3 hg3 hb3
      rw [<- bv_append,List.append_assoc] at hown3
      have HO3 := hid (own_mono hown3 HW.out.size)
      have HB3 := hid (held_two HW.out (held_row HW2.out hb3))
      clear hown3 hg3 hb3)
   | fail)
  go_ret
  exact ⟨A3,c3,rfl,HO3.out,HB3.out⟩
def Putted (w : World) (r : Except Nat (List UInt8)) (e : Ending) (w' : World) : Prop :=
 ∃ A n c,e = .returned (.tuple #[.slice A n c,.int .i64 (err r)]) /\ w'.ownsRow w.heap.size 5 1 (.slice A n c) n (bv (got r)) /\ Below w.heap.size w w'
theorem put_any (B : Nat) (A : Option Addr) (n c : Nat) (l : List UInt8) (w : World) (hr : Bytes w B A n c l) (hB : B <= w.heap.size) :
 Calls Tryz.prog 178 #[.slice A n c] w (Putted w (put l)) := by
 have hlen := hr.len
 have hle := hr.le
 by_cases hbig : 1048576 < n
 ·have HE := hid (show put l = .error 1 by unfold put; rw [if_pos (by omega)])
  clear hr hlen
  go_enter Tryz.func178,Tryz.ntmps178
  go_wp2
  go_ret2
  rw [HE.out]
  exact ⟨none,0,0,rfl,World.ownsRow_nil _ _ _ _,Below.refl _ _⟩
 ·have hn : n <= 1048576 := by omega
  have HE := hid (show put l = .ok (big n 4 ++ (big (sum (big n 4 ++ l)) 4 ++ l)) by unfold put; rw [if_neg (by omega),recB,hlen])
  have hsl := sum_lt (big n 4 ++ l)
  generalize hsm : sum (big n 4 ++ l) = x at hsl HE
  have HS := hid hsm
  clear hsm
  have HR := hid hr
  clear hr hlen hbig
  go_enter Tryz.func178,Tryz.ntmps178
  go_wp2_with fail
  refine (rightsum_any B A n c l _ (HR.out.alloc hB _) (by simp; omega) hn).mono ?_
  rintro e w1 ⟨rfl,hb1⟩
  rw [HS.out]
  have hbx : Blk w1 w.heap.size 299 #[.slice A n c,.int .u32 0] := (Blk.new w _ _).below hb1 (by simp)
  have hc0 : w1.cell? ⟨w.heap.size,0,none⟩ = some (.slice A n c) := hbx.cell 0
  have hf1 : w1.frozen? ⟨w.heap.size,1,none⟩ = false := hbx.frozen 1
  have hc1 : w1.cell? ⟨w.heap.size,1,none⟩ = some (.int .u32 0) := hbx.cell 1
  have HB1 := hid (held_two ((Below.refl w.heap.size w).alloc (Nat.le_refl _) _) hb1)
  have hz1 : w.heap.size < w1.heap.size := hbx.lt
  clear hb1 hbx
  go_wp2_with fail
  refine (laid_any B A n c l x _ ((HR.out.below (HB1.out.mono hB)).setCell hB _) (by simp; omega) hn hsl).mono ?_
  rintro e w2 ⟨A2,c2,rfl,hown2,hb2⟩
  have HO2 := hid (own_mono hown2 (by simp; omega : w.heap.size <= _))
  have HB2 := hid ((HB1.out.setCell (Nat.le_refl _) _).trans (hb2.mono (by simp; omega)))
  clear hown2 hb2
  go_wp2
  go_ret2
  rw [HE.out]
  exact ⟨A2,8 + n,c2,rfl,HO2.out,HB2.out⟩
end Rec
namespace Rec
open Go.RowKit Base FieldMath RecMath
open Go.Proofs.YtefnmnpfecfdaaaGreat.Field
def Front (w : World) (B : Nat) (r : Except Nat (List UInt8)) (e : Ending) (w' : World) : Prop :=
 (∃ k,r = .error k /\ e = .returned (.tuple #[.agg #[.slice none 0 0,.int .u32 0],.int .i64 (k : Nat)]) /\ Below w.heap.size w w') \/
 (∃ p A c x,r = .ok p /\ e = .returned (.tuple #[.agg #[.slice A p.length c,.int .u32 x],.int .i64 0]) /\ Bytes w' B A p.length c p /\ Below w.heap.size w w')
theorem front_any (B : Nat) (A : Option Addr) (n c : Nat) (l : List UInt8) (w : World) (hr : Bytes w B A n c l) (hB : B <= w.heap.size) :
 Calls Tryz.prog 302 #[.slice A n c] w (Front w B (tk l)) := by
 have hlen := hr.len
 have hle := hr.le
 by_cases h8 : n < 8
 ·have HE := hid (tk_short (b := l) (by omega))
  clear hr hlen
  go_enter Tryz.func302,Tryz.ntmps302
  go_wp2
  refine bodyPost_ret (v := .tuple #[.agg #[.slice none 0 0,.int .u32 0],.int .i64 2]) (by simp [results,Tryz.results302,go_sem]) rfl (.inl ⟨2,HE.out,rfl,?_⟩)
  exact (Below.refl w.heap.size w).alloc (Nat.le_refl _) _
 ·obtain ⟨b,off,rfl,hb,_⟩ := hr.2.2.2 (by omega)
  have HL := hid hlen
  have hx := num4_lt (r := l) (by omega)
  have H4 := hid (hr.front (k := 4) (by omega))
  have HR := hid hr
  clear hr hlen
  generalize hy : num (l.take 4) = y at hx
  have HY := hid hy
  clear hy
  by_cases hbig : 1048576 < y
  ·have HE := hid (tk_long (b := l) (by rw [HL.out]; omega) (by rw [HY.out]; exact hbig))
   go_enter Tryz.func302,Tryz.ntmps302
   go_wp2_with fail
   refine (recnum_any B _ 4 c (l.take 4) _ (H4.out.alloc hB _) (by omega)).mono ?_
   rintro e w1 ⟨rfl,rfl⟩
   rw [HY.out]
   go_wp2
   refine bodyPost_ret (v := .tuple #[.agg #[.slice none 0 0,.int .u32 0],.int .i64 3]) (by simp [results,Tryz.results302,go_sem]) rfl (.inl ⟨3,HE.out,rfl,?_⟩)
   exact (Below.refl w.heap.size w).alloc (Nat.le_refl _) _
  ·have hsm : y <= 1048576 := by omega
   clear hbig
   have hc4 : ¬ c = 4 := by omega
   have hsl : ∀ w,(Instr.sliceAt 68 (.slice (some ⟨b,off,none⟩) n c) (some (.int .i64 8)) none none).run Tryz.prog w = .ok (.slice (cutAt (some ⟨b,off,none⟩) c 8) (n - 8) (c - 8)) w := fun w => run_cut w _ n c 8 (by omega)
   have HD := hid (HR.out.cut (k := 8) (by omega))
   generalize cutAt (some ⟨b,off,none⟩) c 8 = Ar at hsl HD
   by_cases hlk : n - 8 < y
   ·have hlk2 : ((n - 8 : Nat) : Int) < y := by omega
    have HE := hid (tk_lacks (b := l) (by rw [HL.out]; omega) (by rw [HY.out]; exact hsm) (by rw [HY.out,HL.out]; exact hlk))
    clear hlk
    go_enter Tryz.func302,Tryz.ntmps302
    go_wp2_with fail
    refine (recnum_any B _ 4 c (l.take 4) _ (H4.out.alloc hB _) (by omega)).mono ?_
    rintro e w1 ⟨rfl,rfl⟩
    rw [HY.out]
    go_wp2
    refine bodyPost_ret (v := .tuple #[.agg #[.slice none 0 0,.int .u32 0],.int .i64 2]) (by simp [results,Tryz.results302,go_sem]) rfl (.inl ⟨2,HE.out,rfl,?_⟩)
    exact (Below.refl w.heap.size w).alloc (Nat.le_refl _) _
   ·have hy8 : y <= n - 8 := by omega
    have hlk2 : ¬ ((n - 8 : Nat) : Int) < y := by omega
    have hyc : (y : Int) <= ((c - 8 : Nat) : Int) := by omega
    have hy0 : (0 : Int) <= (y : Int) := by omega
    have h8c : (8 : Int) <= (c : Int) := by omega
    have HP := hid (HD.out.front (k := y) (by omega))
    have HM := hid (HR.out.mid (a := 4) (m := 4) (by omega) hc4)
    clear hlk
    go_enter Tryz.func302,Tryz.ntmps302
    go_wp2_with fail
    refine (recnum_any B _ 4 c (l.take 4) _ (H4.out.alloc hB _) (by omega)).mono ?_
    rintro e w1 ⟨rfl,rfl⟩
    rw [HY.out]
    go_wp2_with fail
    have HW := hid ((Below.refl w.heap.size w).alloc (Nat.le_refl _) (.cells #[.slice none 0 0,.int .u32 0] 299))
    have HG := hid (Blk.new w 299 #[.slice none 0 0,.int .u32 0])
    generalize w.alloc (.cells #[.slice none 0 0,.int .u32 0] 299) = W at HW HG
    obtain ⟨g,HGW⟩ : ∃ g,Hid (g = w.heap.size) := ⟨_,rfl⟩
    rw [<- HGW.out] at HG ⊢
    go_region_held3 (fun w' => Below W.heap.size W w')
     (first
       | exact held_start W
       | assumption
       | exact held_alloc (by assumption) _
       | exact held_alloc_drew (by assumption) _
       | exact held_alloc_drew (held_start W) _)
     (first
       | (go_at_call 308; refine (recnum_any B _ 4 _ ((l.drop 4).take 4) _ (HM.out.below ((held_two HW.out (by assumption)).mono hB)) (by omega)).mono ?_; rintro e w1 ⟨rfl,rfl⟩)
       | fail)
    all_goals
     generalize hq : num ((l.drop 4).take 4) = q
     have HQ := hid hq
     clear hq
     have hd0 : (W.alloc (.cells #[.slice Ar y (c - 8),.int .u32 q] 299)).drew.cell? ⟨W.heap.size,0,none⟩ = some (.slice Ar y (c - 8)) := by simp
     have hd1 : (W.alloc (.cells #[.slice Ar y (c - 8),.int .u32 q] 299)).drew.cell? ⟨W.heap.size,1,none⟩ = some (.int .u32 q) := by simp
     have HU : Hid (Below w.heap.size w (W.alloc (.cells #[.slice Ar y (c - 8),.int .u32 q] 299)).drew) := held_two HW.out (held_alloc_drew (held_start W) _)
     have HGU : Hid (Blk (W.alloc (.cells #[.slice Ar y (c - 8),.int .u32 q] 299)).drew g 299 #[.slice none 0 0,.int .u32 0]) := HG.out.alloc _
     have hgW : g < W.heap.size := HG.out.lt
     generalize (W.alloc (.cells #[.slice Ar y (c - 8),.int .u32 q] 299)).drew = U at hd0 hd1 HU HGU
     clear HW HG
     generalize W.heap.size = h at hd0 hd1 hgW
     go_wp2_with fail
     go_region_held3 (fun w' => w'.cell? ⟨h,0,none⟩ = some (.slice Ar y (c - 8)) /\ w'.cell? ⟨h,1,none⟩ = some (.int .u32 q) /\ Below U.heap.size U w')
      (first
        | exact held2 (held_start U) hd0 hd1
        | (go_split_ands; exact held2 (held_call (by assumption) hb2) hd0 hd1))
      (first
        | (go_at_call 230; refine (rightsum_any B Ar y (c - 8) _ _ (HP.out.below ((held_two HU.out (held_start U)).mono hB)) (Nat.le_trans hB HU.out.size) hsm).mono ?_; rintro e w2 ⟨rfl,hb2⟩)
        | fail)
     have HB2 := hid (held_call (held_start U) hb2)
     have e0 := held_cell HB2.out hd0
     have e1 := held_cell HB2.out hd1
     have hG2 : Blk w2 g 299 #[.slice none 0 0,.int .u32 0] := HGU.out.below HB2.out HGU.out.lt
     have e2 : w2.cell? ⟨g,0,none⟩ = some (.slice none 0 0) := hG2.cell 0
     have e3 : w2.cell? ⟨g,1,none⟩ = some (.int .u32 0) := hG2.cell 1
     have e4 : w2.frozen? ⟨g,0,none⟩ = false := hG2.frozen 0
     have e5 : w2.frozen? ⟨g,1,none⟩ = false := hG2.frozen 1
     have HZ : Hid (Below w.heap.size w w2) := held_two HU.out HB2.out
     have hgw : w.heap.size <= g := Nat.le_of_eq HGW.out.symm
     clear hb2 hd0 hd1 hG2
     go_split_ands
     generalize hv : sum (big y 4 ++ (l.drop 8).take y) = v
     have HV : Hid (sum (l.take 4 ++ (l.drop 8).take (num (l.take 4))) = v) := by
      have h4 : (l.take 4).length = 4 := by rw [List.length_take,HL.out]; omega
      have := big_num (l.take 4)
      rw [h4,HY.out] at this
      rw [HY.out,<- this]
      exact hv
     have HPL : Hid (((l.drop 8).take (num (l.take 4))).length = y) := by
      rw [HY.out]
      exact HP.out.len
     clear hv
     by_cases heq : q = v
     ·have HE := hid (tk_ok (b := l) (by rw [HL.out]; omega) (by rw [HY.out]; exact hsm) (by rw [HY.out,HL.out]; exact hy8) (by rw [HQ.out,HV.out]; exact heq))
      subst heq
      go_wp2
      refine bodyPost_ret (v := .tuple #[.agg #[.slice Ar y (c - 8),.int .u32 q],.int .i64 0]) (by simp [results,Tryz.results302,go_sem,e2,e3]) rfl (.inr ⟨_,Ar,c - 8,q,HE.out,by rw [HPL.out],?_,?_⟩)
      ·rw [HPL.out,HY.out]
       exact ((HP.out.below (HZ.out.mono hB)).setCell (by show _ <= g; omega) _).setCell (by show _ <= g; omega) _
      ·exact (HZ.out.setCell (by show _ <= g; omega) _).setCell (by show _ <= g; omega) _
     ·have hne : ((q : Int) != (v : Int)) = true := by simp; omega
      have HE := hid (tk_bad (b := l) (by rw [HL.out]; omega) (by rw [HY.out]; exact hsm) (by rw [HY.out,HL.out]; exact hy8) (by rw [HQ.out,HV.out]; exact heq))
      clear heq
      go_wp2
      refine bodyPost_ret (v := .tuple #[.agg #[.slice none 0 0,.int .u32 0],.int .i64 4]) (by simp [results,Tryz.results302,go_sem,e2,e3]) rfl (.inl ⟨4,HE.out,rfl,?_⟩)
      exact (HZ.out.setCell (by show _ <= g; omega) _).setCell (by show _ <= g; omega) _
end Rec
namespace Rec
open Go.RowKit Base FieldMath RecMath
open Go.Proofs.YtefnmnpfecfdaaaGreat.Field
theorem clone_any (B : Nat) (A : Option Addr) (n c : Nat) (l : List UInt8) (w : World) (hr : Bytes w B A n c l) (hB : B <= w.heap.size) (hn : n <= 140737488355328) :
 Calls Tryz.prog 116 #[.slice A n c] w (NewOwn w n l) := by
 have hnil : ∀ w,(binOp .eql 68 (.slice A n c) (.slice none 0 0)).run Tryz.prog w = .ok (.bool A.isNone) w := fun w => Lib.run_eql_slice_nil (P := Tryz.prog) w 68 5 A n c 0 0 Tryz.underlying68
 cases A with
 | none =>
   have h0 : n = 0 := by
    rcases Nat.eq_zero_or_pos n with h0 | h0
    ·exact h0
    ·obtain ⟨b,off,h,_⟩ := hr.2.2.2 h0
     cases h
   subst h0
   obtain rfl : l = [] := List.eq_nil_of_length_eq_zero hr.len
   clear hr hn
   go_enter Tryz.func116,Tryz.ntmps116
   go_wp2
   go_ret
   exact ⟨none,0,rfl,World.ownsRow_nil _ _ _ _,Below.refl _ _⟩
 | some a =>
   have HR := hid hr
   clear hr
   go_enter Tryz.func116,Tryz.ntmps116
   go_wp2_with (first
    | (at_builtin
       refine wpList_append_row rfl (.tmp 5) (.tmp 6) rfl eb w.heap.size _ 0 [] rfl (own_empty _ _ _ _ rfl (Nat.le_refl _)) B (some a) n c (bv l) rfl (HR.out.alloc hB _) (bv_one _) (by omega) (by omega) (by simp) ?_
       intro A1 c1 w1 hown1 _ hb1
       rw [Nat.zero_add,List.nil_append] at hown1
       rw [Nat.zero_add]
       have HY1 := hid hown1
       have HB1 := hid (((Below.refl w.heap.size w).alloc (Nat.le_refl _) _).trans hb1)
       clear hown1 hb1)
    | fail)
   go_ret
   exact ⟨A1,c1,rfl,HY1.out,HB1.out⟩
def Taken (w : World) (r : Except Nat (List UInt8)) (e : Ending) (w' : World) : Prop :=
 ∃ A n c,e = .returned (.tuple #[.slice A n c,.int .i64 (tsize r),.int .i64 (err r)]) /\ w'.ownsRow w.heap.size 5 1 (.slice A n c) n (bv (got r)) /\ Below w.heap.size w w'
theorem take_any (B : Nat) (A : Option Addr) (n c : Nat) (l : List UInt8) (w : World) (hr : Bytes w B A n c l) (hB : B <= w.heap.size) :
 Calls Tryz.prog 285 #[.slice A n c] w (Taken w (tk l)) := by
 have HR := hid hr
 clear hr
 go_enter Tryz.func285,Tryz.ntmps285
 go_wp2_with fail
 refine (front_any B A n c l w HR.out hB).mono ?_
 rintro e w1 (⟨k,hk,rfl,hb1⟩ | ⟨p,A1,c1,x,hk,rfl,hy1,hb1⟩)
 ·have h3 := tk_err hk
  have hkn : ((k : Int) != 0) = true := by simp; omega
  have HK := hid hk
  have HB1 := hid hb1
  clear hk hb1
  go_wp2
  refine bodyPost_ret (v := .tuple #[.slice none 0 0,.int .i64 0,.int .i64 k]) (by simp [results,Tryz.results285,go_sem]) rfl ?_
  rw [HK.out]
  exact ⟨none,0,0,rfl,World.ownsRow_nil _ _ _ _,HB1.out.alloc HB1.out.size _⟩
 ·have hf := (tk_fits hk).2
  have HK := hid hk
  have HY1 := hid hy1
  have HB1 := hid hb1
  clear hk hb1 hy1
  generalize hpl : p.length = m at hf HY1
  have HPL := hid hpl
  clear hpl
  go_wp2_with fail
  have hc0 : (w1.alloc (.cells #[.slice A1 m c1,.int .u32 x] 299)).cell? ⟨w1.heap.size,0,none⟩ = some (.slice A1 m c1) := by simp
  have hc1 : (w1.alloc (.cells #[.slice A1 m c1,.int .u32 x] 299)).cell? ⟨w1.heap.size,1,none⟩ = some (.int .u32 x) := by simp
  have HW : Hid (Below w.heap.size w (w1.alloc (.cells #[.slice A1 m c1,.int .u32 x] 299))) := HB1.out.alloc HB1.out.size _
  have HY2 : Hid (Bytes (w1.alloc (.cells #[.slice A1 m c1,.int .u32 x] 299)) B A1 m c1 p) := HY1.out.alloc (Nat.le_trans hB HB1.out.size) _
  generalize w1.alloc (.cells #[.slice A1 m c1,.int .u32 x] 299) = W at hc0 hc1 HW HY2
  generalize w1.heap.size = g at hc0 hc1
  have hBW : B <= W.heap.size := Nat.le_trans hB HW.out.size
  go_region_held3 (fun w' => w'.cell? ⟨g,0,none⟩ = some (.slice A1 m c1) /\ w'.cell? ⟨g,1,none⟩ = some (.int .u32 x) /\ Below W.heap.size W w')
   (first
     | exact held2 (held_start W) hc0 hc1
     | (go_split_ands; exact held2 (held_call (by assumption) hbc) hc0 hc1)
     | (go_split_ands; exact held2 (held_call (by assumption) hbs) hc0 hc1))
   (first
     | (go_at_call 116; go_split_ands; refine (clone_any B _ _ _ p _ (HY2.out.below (Below.mono (by assumption) hBW)) (Nat.le_trans hBW (Below.size (by assumption))) (by omega)).mono ?_; rintro e wc ⟨Ac,cc,rfl,hyc,hbc⟩)
     | (go_at_call 257; refine (size_any _ _ _ _ _ hf).mono ?_; rintro e ws ⟨rfl,hbs⟩)
     | fail)
  have HS := hid (held_call (held_call (held_start W) hbc) hbs)
  have HYc := hid (own_mono (own_keep hyc hbs) HW.out.size)
  clear hbc hbs hyc
  go_wp2
  refine bodyPost_ret (v := .tuple #[.slice Ac m cc,.int .i64 (8 + m),.int .i64 0]) (by simp [results,Tryz.results285,go_sem]) rfl ?_
  rw [HK.out]
  exact ⟨Ac,m,cc,by rw [tsize,HPL.out]; rfl,HYc.out,held_two HW.out HS.out⟩
end Rec
namespace Seg
open Go.RowKit Base FieldMath RecMath SegMath
open Go.Proofs.YtefnmnpfecfdaaaGreat.Field Go.Proofs.YtefnmnpfecfdaaaGreat.Rec
theorem maybe_any (x : Int) (w : World) :
 Calls Tryz.prog 252 #[.int .i64 x] w fun e w' => e = .returned (.bool (decide (1 <= x /\ x <= 1099511627776))) /\ w = w' := by
 by_cases h1 : 1 <= x
 ·by_cases h2 : x <= 1099511627776
  all_goals
   go_enter Tryz.func252,Tryz.ntmps252
   go_wp2
   go_ret
   exact ⟨ret_bool (by simp [h1,h2]),rfl⟩
 ·go_enter Tryz.func252,Tryz.ntmps252
  go_wp2
  go_ret
  exact ⟨ret_bool (by simp; omega),rfl⟩
theorem one_num (w : World) (e : TypeId) (x : Int) {s : Nat} (hs : s = w.heap.size) : Flds (w.alloc (.cells #[.int .i64 1,.int .i64 x,.string ⟨#[]⟩] e)) (w.heap.size + 1) (some ⟨s,0,none⟩) 1 1 [numF x] :=
 Row.lit w #[.int .i64 1,.int .i64 x,.string ⟨#[]⟩] e (0,0) hs rfl (by omega)
theorem putted_head {w w' : World} {x : Int} {A : Option Addr} {n c : Nat} (h0 : 1 <= x) (h1 : x <= 1099511627776) (ho : w'.ownsRow w.heap.size 5 1 (.slice A n c) n (bv (headB x))) (hb : Below w.heap.size w w') : Putted w (head x) (.returned (.tuple #[.slice A n c,.int .i64 0])) w' := by
 unfold Putted head
 rw [if_pos ⟨h0,h1⟩]
 exact ⟨A,n,c,rfl,ho,hb⟩
theorem putted_bad {w : World} {x : Int} (h : ¬ (1 <= x /\ x <= 1099511627776)) : Putted w (head x) (.returned (.tuple #[.slice none 0 0,.int .i64 1])) w := by
 unfold Putted head
 rw [if_neg h]
 exact ⟨none,0,0,rfl,World.ownsRow_nil _ _ _ _,Below.refl _ _⟩
theorem head_any (x : Int) (w : World) : Calls Tryz.prog 224 #[.int .i64 x] w (Putted w (head x)) := by
 by_cases h : 1 <= x /\ x <= 1099511627776
 ·have hd : decide (1 <= x /\ x <= 1099511627776) = true := by simpa using h
  have HH := hid h
  clear h
  go_enter Tryz.func224,Tryz.ntmps224
  go_wp2_with fail
  refine (maybe_any x w).mono ?_
  rintro e w1 ⟨rfl,rfl⟩
  rw [hd]
  clear hd
  go_wp2_with fail
  refine (encode_any _ _ 1 1 [numF x] _ (one_num _ _ x rfl) (by simp)).mono ?_
  rintro e w1 ⟨A1,n1,c1,rfl,ho1,hb1⟩
  rw [enc_num] at ho1 ⊢
  have HY1 := hid (Bytes.of_own ho1)
  have HB1 := hid (held_two ((Below.refl w.heap.size w).alloc (Nat.le_refl _) _) hb1)
  clear ho1 hb1
  rw [show err (Except.ok (headP x)) = 0 from rfl]
  go_wp2_with fail
  refine (put_any _ _ _ _ (headP x) _ HY1.out (Nat.le_refl _)).mono ?_
  rintro e w2 ⟨A2,n2,c2,rfl,ho2,hb2⟩
  rw [put_head] at ho2 ⊢
  have HO2 := hid (own_mono ho2 HB1.out.size)
  have HB2 := hid (held_two HB1.out hb2)
  clear ho2 hb2
  rw [show err (Except.ok (headB x)) = 0 from rfl]
  go_wp2
  go_ret2
  exact putted_head HH.out.1 HH.out.2 HO2.out HB2.out
 ·have hd : decide (1 <= x /\ x <= 1099511627776) = false := by simpa using h
  have HH := hid h
  clear h
  go_enter Tryz.func224,Tryz.ntmps224
  go_wp2_with fail
  refine (maybe_any x w).mono ?_
  rintro e w1 ⟨rfl,rfl⟩
  rw [hd]
  clear hd
  go_wp2
  go_ret2
  exact putted_bad HH.out
end Seg
end Go.Proofs.YtefnmnpfecfdaaaGreat
