/-
  Contracts of package rec's small functions: a number's bytes, what they say, how many bytes are held, the right sum, the record as bytes.
-/
import Derived.Test.YtedfddnbgljcjaaGreatRefNums
import Derived.Test.YtedfddnbgljcjaaGreatCrcSum
import Derived.Test.YtedfddnbgljcjaaGreatMaths
import Derived.Deep.RegionHeld3
namespace Go.Proofs.YtedfddnbgljcjaaGreat.Rec
set_option maxRecDepth 100000
open Go.RowKit Base FieldMath RecMath
open Go.Proofs.YtedfddnbgljcjaaGreat.Field
set_option linter.ambiguousOpen false

theorem row8 {w : World} {B n c : Nat} {A : Option Addr} {l : List UInt8} (h : Bytes w B A n c l) (hB : B ≤ w.heap.size) : Crc.Row8 w A n (zs l) := by
  have hle := h.le
  refine ⟨by rw [zs_length, h.len], by omega, zs_bytes l, fun hn => ?_⟩
  obtain ⟨b, off, e, hb, hc⟩ := h.2.2.2 hn
  refine ⟨b, off, e, by omega, fun j hj => ?_⟩
  have hjl : j < l.length := by rw [h.len]; exact hj
  rw [hc j (.int .u8 (l[j]).toNat) (by rw [bv, List.getElem?_map, List.getElem?_eq_getElem hjl]; rfl), zs, List.getD_eq_getElem?_getD, List.getElem?_map, List.getElem?_eq_getElem hjl]
  rfl

theorem byte_at (x k : Nat) : ((x : Int) / 2 ^ (8 * k)) % 256 = ((UInt8.ofNat (x / 256 ^ k)).toNat : Int) := by
  have := byte_shr (x := (x : Int)) (by omega) k
  rwa [Int.toNat_natCast] at this
theorem big4 (x : Nat) : big x 4 = [UInt8.ofNat (x / 256 ^ 3), UInt8.ofNat (x / 256 ^ 2), UInt8.ofNat (x / 256 ^ 1), UInt8.ofNat (x / 256 ^ 0)] := rfl
theorem four_bytes (w : World) (e : TypeId) (x : Nat) {s : Nat} (hs : s = w.heap.size) {a b c d : Int} (ha : a = (x : Int) / 16777216 % 256) (hb : b = (x : Int) / 65536 % 256) (hc : c = (x : Int) / 256 % 256) (hd : d = (x : Int) % 256) :
    Row (w.alloc (.cells #[.int .u8 a, .int .u8 b, .int .u8 c, .int .u8 d] e)) (w.heap.size + 1) 1 (some ⟨s, 0, none⟩) 4 4 (bv (big x 4)) := by
  have h3 := byte_at x 3
  have h2 := byte_at x 2
  have h1 := byte_at x 1
  have h0 := byte_at x 0
  have k3 : (x : Int) / 2 ^ (8 * 3) % 256 = a := by rw [ha]; rfl
  have k2 : (x : Int) / 2 ^ (8 * 2) % 256 = b := by rw [hb]; rfl
  have k1 : (x : Int) / 2 ^ (8 * 1) % 256 = c := by rw [hc]; rfl
  have k0 : (x : Int) / 2 ^ (8 * 0) % 256 = d := by rw [hd]; simp
  rw [k3] at h3; rw [k2] at h2; rw [k1] at h1; rw [k0] at h0
  rw [h3, h2, h1, h0, big4]
  exact Row.lit w #[.int .u8 _, .int .u8 _, .int .u8 _, .int .u8 _] e (0, 0) hs rfl (by omega)

/-- a slice of n bytes of the call's own, handed back -/
def OwnAt (base : Nat) (w : World) (row : Option Nat) (n : Nat) (l : List UInt8) (e : Ending) (w' : World) : Prop :=
  ∃ A c, e = .returned (.slice A n c) ∧ w'.ownsRow base 5 1 (.slice A n c) n (bv l) ∧ Grew w row w' (.slice A n c)

set_option maxHeartbeats 400000 in
theorem putnum_any (base : Nat) (A : Option Addr) (m c : Nat) (l : List UInt8) (x n : Nat) (w : World) (hx : x < 4294967296) (hm : m ≤ 1099511627776) (hn : m + 4 = n)
    (hown : w.ownsRow base 5 1 (.slice A m c) m (bv l)) (hbase : base ≤ w.heap.size) :
    Calls Tryz.prog 99 #[.slice A m c, .int .u32 x] w (OwnAt base w (Value.slice A m c).ownBlock n (l ++ big x 4)) := by
  subst hn
  have HO := Lib.hid hown
  clear hown
  go_enter Tryz.func99, Tryz.ntmps99
  go_wp2_with (first
    | (at_builtin
       refine wpList_append_row rfl (.tmp 5) (.tmp 17) rfl eb base _ m (bv l) rfl (HO.out.alloc _) (w.heap.size + 1) _ 4 4 (bv (big x 4)) rfl (four_bytes w _ x rfl (by omega) rfl rfl rfl) (bv_one _) (by omega) (by omega) (by simp; omega) ?_
       intro A2 c2 w2 hown2 hg2 _
       have HO2 := Lib.hid hown2
       have HB2 := Lib.hid (((Grew.refl w (Value.slice A m c)).alloc _).step hg2)
       clear hown2 hg2))
  go_ret
  exact ⟨A2, c2, rfl, by have := HO2.out; rwa [← bv_append] at this, HB2.out⟩

theorem or_byte32 {y : Nat} (hy : y < 16777216) (z : UInt8) : bits .or .u32 ((y : Int) * 256) (z.toNat : Int) = ((y * 256 + z.toNat : Nat) : Int) := by
  have hz := z.toNat_lt
  rw [show (y : Int) * 256 = ((y * 256 : Nat) : Int) by simp, u32_or_nat _ _ (by omega) (by omega), nat_join 8 (y * 256) z.toNat (by omega) (by omega)]
theorem take_num_lt4 {l : List UInt8} {n k : Nat} (hl : l.length = n) (hk : k < n) (hn : n ≤ 4) : num (l.take k) < 16777216 := by
  have h := num_lt (l.take k)
  rw [List.length_take, hl, Nat.min_eq_left (by omega)] at h
  have h2 : 256 ^ k ≤ 256 ^ 3 := Nat.pow_le_pow_right (by omega) (by omega)
  have h3 : 256 ^ 3 = 16777216 := by decide
  omega

set_option maxHeartbeats 400000 in
theorem recnum_any (B : Nat) (A : Option Addr) (n c : Nat) (l : List UInt8) (w : World) (hr : Bytes w B A n c l) (hn : n ≤ 4) :
    Calls Tryz.prog 135 #[.slice A n c] w fun e w' => e = .returned (.int .u32 (num l)) ∧ w = w' := by
  have HR := Lib.hid hr
  clear hr
  go_enter Tryz.func135, Tryz.ntmps135
  go_wp2
  go_loop [3, 8] (fun x i => ∃ (k y : Nat), k ≤ n ∧ i = .int .i64 k ∧ x = .int .u32 y ∧ y = num (l.take k)) (fun _ i => n - (intOf i).toNat)
  case atStart => exact ⟨0, 0, by omega, rfl, rfl, rfl⟩
  case round =>
    obtain ⟨k, y, hk, rfl, rfl, hy⟩ := hrel
    by_cases hlt : k < n
    · have hyb := take_num_lt4 HR.out.len hlt hn
      rw [← hy] at hyb
      obtain ⟨b, off, z, rfl, _, hcell, _, ht⟩ := HR.out.at_ hlt
      have HY := Lib.hid hy
      have HT := Lib.hid ht
      have hz : z.toNat < 256 := z.toNat_lt
      clear hy ht
      go_wp2
      go_round
      case rel => exact ⟨k + 1, y * 256 + z.toNat, by omega, by go_num, by rw [← or_byte32 hyb z], by rw [HT.out, num_snoc, HY.out]⟩
      case measure => simp [intOf]; omega
    · have this : l.take k = l := List.take_of_length_le (by rw [HR.out.len]; omega)
      rw [this] at hy
      have HY := Lib.hid hy
      clear hy this
      go_wp2
      go_ret
      exact ⟨ret_int (by rw [HY.out]), rfl⟩

/-- a new slice of bytes, handed back -/
def NewAt (w : World) (n : Nat) (l : List UInt8) (e : Ending) (w' : World) : Prop := ∃ A c, e = .returned (.slice A n c) ∧ Bytes w' w'.heap.size A n c l ∧ Below w.heap.size w w'

set_option maxHeartbeats 400000 in
theorem count_any (A : Option Addr) (n c : Nat) (w : World) (hn : n ≤ 1048576) :
    Calls Tryz.prog 97 #[.agg #[.slice A n c]] w (NewAt w 4 (big n 4)) := by
  have hmk : ∀ w, (Instr.makeSlice 31 (.int .i64 0) (.int .i64 4)).run Tryz.prog w = .ok (.slice (some ⟨w.heap.size, 0, none⟩) 0 4) (w.alloc (.cells (madeCells #[.int .u8 0] 4) 5)) := fun w => run_mk w 4 (by omega)
  have hwr : IntKind.u32.wrap (n : Int) = n := by rw [IntKind.wrap_u32]; omega
  go_enter Tryz.func97, Tryz.ntmps97
  go_wp2_with fail
  go_region_held3 (fun w' => w'.cell? ⟨w.heap.size, 0, none⟩ = some (.slice A n c)) (first | go_keep | (rw [Grew.cell hg2 (by simp; omega) (by simp [Value.ownBlock])]; assumption))
    (first | (go_at_call 99; refine (putnum_any w.heap.size _ 0 4 [] n 4 _ (by omega) (by omega) rfl (own_drew (made_own _ w.heap.size 4 (by simp) (by simp) (by omega))) (by simp; omega)).mono ?_; rintro e w2 ⟨A2, c2, rfl, hown2, hg2⟩))
  rw [List.nil_append] at hown2
  have HO2 := Lib.hid (Bytes.of_own hown2)
  have HB2 : Hid (Below w.heap.size w w2) := (((Below.refl w.heap.size w).alloc (Nat.le_refl _) _).alloc (by simp) _).trans (below_of_drew (hg2.below (own_drew (made_own _ w.heap.size 4 (by simp) (by simp) (by omega))) (by simp; omega)))
  clear hown2 hg2
  go_wp2
  go_ret
  exact ⟨A2, c2, rfl, HO2.out, HB2.out⟩

set_option maxHeartbeats 400000 in
theorem rightsum_any (B : Nat) (A : Option Addr) (n c : Nat) (l : List UInt8) (w : World) (hr : Bytes w B A n c l) (hB : B ≤ w.heap.size) (hn : n ≤ 1048576) :
    Calls Tryz.prog 88 #[.agg #[.slice A n c]] w fun e w' => e = .returned (.int .u32 (sum (big n 4 ++ l))) ∧ Below w.heap.size w w' := by
  have HR := Lib.hid hr
  clear hr
  go_enter Tryz.func88, Tryz.ntmps88
  go_wp2_with fail
  have hc0 : (w.alloc (.cells #[.slice A n c] 142)).cell? ⟨w.heap.size, 0, none⟩ = some (.slice A n c) := by simp
  have HW : Hid (Below w.heap.size w (w.alloc (.cells #[.slice A n c] 142))) := (Below.refl _ _).alloc (Nat.le_refl _) _
  generalize w.alloc (.cells #[.slice A n c] 142) = W at hc0 HW
  generalize w.heap.size = g at hc0
  go_region_held3 (fun w' => w'.cell? ⟨g, 0, none⟩ = some (.slice A n c) ∧ Below W.heap.size W w')
    (first
      | exact held1 (held_start W) hc0
      | (go_split_ands; exact held1 (by assumption) hc0)
      | (go_split_ands; exact held1 (held_call (by assumption) hb1) hc0)
      | (go_split_ands; exact held1 (held_alloc (by assumption) _) hc0)
      | (go_split_ands; exact held1 (held_alloc_drew (by assumption) _) hc0))
    (first
      | (go_at_call 97; refine (count_any _ _ _ _ hn).mono ?_; rintro e w1 ⟨A1, c1, rfl, hy1, hb1⟩)
      | (go_at_call 96; refine (Crc.sum_val _ _ _ [zs (big n 4), zs l] _ (sum (big n 4 ++ l) : Nat) (Crc.Parts.two (row8 hy1 (Nat.le_refl _)) (row8 (HR.out.below ((held_two HW.out (held_call (held_start W) hb1)).mono hB)) (Nat.le_trans hB (held_two HW.out (held_call (held_start W) hb1)).size)) _ _ rfl) (by rw [sum_cast, zs_append]; simp)).mono ?_; rintro e w2 ⟨rfl, rfl⟩))
  have HB1 : Hid (Below w.heap.size w w1) := held_two HW.out (held_call (held_start W) hb1)
  clear hb1 hy1
  go_wp2
  go_ret
  exact ⟨rfl, HB1.out.alloc HB1.out.size _⟩

set_option maxHeartbeats 400000 in
theorem size_any (A : Option Addr) (n c : Nat) (x : Int) (w : World) (hn : n ≤ 1048576) :
    Calls Tryz.prog 98 #[.agg #[.slice A n c, .int .u32 x]] w fun e w' => e = .returned (.int .i64 (8 + (n : Int))) ∧ Below w.heap.size w w' := by
  go_enter Tryz.func98, Tryz.ntmps98
  go_wp2
  go_ret
  exact ⟨rfl, (Below.refl _ _).alloc (Nat.le_refl _) _⟩

/-- a new slice of n bytes, the call's own, handed back -/
def NewOwn (w : World) (n : Nat) (l : List UInt8) (e : Ending) (w' : World) : Prop := ∃ A c, e = .returned (.slice A n c) ∧ w'.ownsRow w.heap.size 5 1 (.slice A n c) n (bv l) ∧ Below w.heap.size w w'

set_option maxHeartbeats 400000 in
theorem laid_any (B : Nat) (A : Option Addr) (n c : Nat) (l : List UInt8) (x : Nat) (w : World) (hr : Bytes w B A n c l) (hB : B ≤ w.heap.size) (hn : n ≤ 1048576) (hx : x < 4294967296) :
    Calls Tryz.prog 89 #[.agg #[.slice A n c, .int .u32 x]] w (NewOwn w (8 + n) (big n 4 ++ (big x 4 ++ l))) := by
  have HR := Lib.hid hr
  clear hr
  go_enter Tryz.func89, Tryz.ntmps89
  go_wp2_with fail
  have hc0 : (w.alloc (.cells #[.slice A n c, .int .u32 x] 144)).cell? ⟨w.heap.size, 0, none⟩ = some (.slice A n c) := by simp
  have hc1 : (w.alloc (.cells #[.slice A n c, .int .u32 x] 144)).cell? ⟨w.heap.size, 1, none⟩ = some (.int .u32 x) := by simp
  have HW : Hid (Below w.heap.size w (w.alloc (.cells #[.slice A n c, .int .u32 x] 144))) := (Below.refl _ _).alloc (Nat.le_refl _) _
  generalize w.alloc (.cells #[.slice A n c, .int .u32 x] 144) = W at hc0 hc1 HW
  generalize w.heap.size = g at hc0 hc1
  have hmk : ∀ w, (Instr.makeSlice 31 (.int .i64 0) (.int .i64 (8 + (n : Int)))).run Tryz.prog w = .ok (.slice (some ⟨w.heap.size, 0, none⟩) 0 (8 + n)) (w.alloc (.cells (madeCells #[.int .u8 0] (8 + n)) 5)) := fun w => by have := run_mk w (8 + n) (by omega); rwa [Int.natCast_add] at this
  go_region_held3 (fun w' => w'.cell? ⟨g, 0, none⟩ = some (.slice A n c) ∧ w'.cell? ⟨g, 1, none⟩ = some (.int .u32 x) ∧ Below W.heap.size W w')
    (first
      | exact held2 (held_start W) hc0 hc1
      | (go_split_ands; exact held2 (held_call (by assumption) hbc) hc0 hc1)
      | (go_split_ands; exact held2 (held_call (by assumption) hbs) hc0 hc1)
      | (go_split_ands; exact held2 (held_row (by assumption) hb1) hc0 hc1)
      | (go_split_ands; exact held2 (held_alloc (by assumption) _) hc0 hc1)
      | (go_split_ands; exact held2 (held_alloc_drew (by assumption) _) hc0 hc1))
    (first
      | (go_at_call 97; refine (count_any _ _ _ _ hn).mono ?_; rintro e wc ⟨Ac, cc, rfl, hyc, hbc⟩)
      | (go_at_call 98; refine (size_any _ _ _ _ _ hn).mono ?_; rintro e ws ⟨rfl, hbs⟩)
      | (refine step_append_row (by rfl) (.tmp 6) (.tmp 9) (by rfl) eb W.heap.size _ 0 (bv []) (by rfl) (own_keep (made_own _ W.heap.size (8 + n) (by rfl) (by exact hbs.size) (by omega)) hbc) wc.heap.size Ac 4 cc (bv (big n 4)) (by rfl) hyc (bv_one _) (by omega) (by omega) (by have h2 := hbs.size; have h3 := hbc.size; simp at h2 h3; omega) ?_; intro A1 c1 w1 hown1 hg1 hb1)
      | (refine step_append_row (by rfl) (.tmp 6) (.tmp 9) (by rfl) eb W.heap.size _ 0 (bv []) (by rfl) (made_own _ W.heap.size (8 + n) (by rfl) (by have h2 := hbs.size; have h3 := hbc.size; simp at h2 h3; omega) (by omega)) wc.heap.size Ac 4 cc (bv (big n 4)) (by rfl) (hyc.alloc (Nat.le_refl _) _) (bv_one _) (by omega) (by omega) (by have h2 := hbs.size; have h3 := hbc.size; simp at h2 h3 ⊢; omega) ?_; intro A1 c1 w1 hown1 hg1 hb1)
      | fail)
  all_goals
    rw [Nat.zero_add, ← bv_append, List.nil_append] at hown1
    rw [Nat.zero_add]
    have HW1 : Hid (Below W.heap.size W w1) := by go_split_ands; assumption
    have HO1 := Lib.hid hown1
    have hd1 := held_cell HW1.out hc1
    clear hown1 hg1 hb1 hbs hyc hbc
    go_wp2_with fail
    refine (putnum_any W.heap.size _ 4 c1 _ x 8 _ hx (by omega) rfl HO1.out HW1.out.size).mono ?_
    rintro e w2 ⟨A2, c2, rfl, hown2, hg2⟩
    have HW2 := Lib.hid (held_row HW1.out (hg2.below HO1.out HW1.out.size))
    have HO2 := Lib.hid hown2
    have hd2 := held_cell HW2.out hc0
    clear hown2 hg2 hd1
    have HR2 := Lib.hid (HR.out.below ((held_two HW.out HW2.out).mono hB))
    go_wp2_with (first
      | (at_builtin
         refine wpList_append_row rfl (.tmp 15) (.tmp 18) rfl eb W.heap.size _ 8 (bv (big n 4 ++ big x 4)) rfl HO2.out B A n c (bv l) rfl HR2.out (bv_one _) (by omega) (by omega) HW2.out.size ?_
         intro A3 c3 w3 hown3 hg3 hb3
         rw [← bv_append, List.append_assoc] at hown3
         have HO3 := Lib.hid (own_mono hown3 HW.out.size)
         have HB3 := Lib.hid (held_two HW.out (held_row HW2.out hb3))
         clear hown3 hg3 hb3)
      | fail)
    go_ret
    exact ⟨A3, c3, rfl, HO3.out, HB3.out⟩

/-- what Put answers -/
def Putted (w : World) (r : Except Nat (List UInt8)) (e : Ending) (w' : World) : Prop :=
  ∃ A n c, e = .returned (.tuple #[.slice A n c, .int .i64 (err r)]) ∧ w'.ownsRow w.heap.size 5 1 (.slice A n c) n (bv (got r)) ∧ Below w.heap.size w w'

set_option maxHeartbeats 400000 in
theorem put_any (B : Nat) (A : Option Addr) (n c : Nat) (l : List UInt8) (w : World) (hr : Bytes w B A n c l) (hB : B ≤ w.heap.size) :
    Calls Tryz.prog 69 #[.slice A n c] w (Putted w (put l)) := by
  have hlen := hr.len
  have hle := hr.le
  by_cases hbig : 1048576 < n
  · have HE := Lib.hid (show put l = .error 1 by unfold put; rw [if_pos (by omega)])
    clear hr hlen
    go_enter Tryz.func69, Tryz.ntmps69
    go_wp2
    go_ret2
    rw [HE.out]
    exact ⟨none, 0, 0, rfl, World.ownsRow_nil _ _ _ _, Below.refl _ _⟩
  · have hn : n ≤ 1048576 := by omega
    have HE := Lib.hid (show put l = .ok (big n 4 ++ (big (sum (big n 4 ++ l)) 4 ++ l)) by unfold put; rw [if_neg (by omega), recB, hlen])
    have hsl := sum_lt (big n 4 ++ l)
    generalize hsm : sum (big n 4 ++ l) = x at hsl HE
    have HS := Lib.hid hsm
    clear hsm
    have HR := Lib.hid hr
    clear hr hlen hbig
    go_enter Tryz.func69, Tryz.ntmps69
    go_wp2_with fail
    refine (rightsum_any B A n c l _ (HR.out.alloc hB _) (by simp; omega) hn).mono ?_
    rintro e w1 ⟨rfl, hb1⟩
    rw [HS.out]
    have hbx : Blk w1 w.heap.size 144 #[.slice A n c, .int .u32 0] := (Blk.new w _ _).below hb1 (by simp)
    have hc0 : w1.cell? ⟨w.heap.size, 0, none⟩ = some (.slice A n c) := hbx.cell 0
    have hf1 : w1.frozen? ⟨w.heap.size, 1, none⟩ = false := hbx.frozen 1
    have hc1 : w1.cell? ⟨w.heap.size, 1, none⟩ = some (.int .u32 0) := hbx.cell 1
    have HB1 := Lib.hid (held_two ((Below.refl w.heap.size w).alloc (Nat.le_refl _) _) hb1)
    have hz1 : w.heap.size < w1.heap.size := hbx.lt
    clear hb1 hbx
    go_wp2_with fail
    refine (laid_any B A n c l x _ ((HR.out.below (HB1.out.mono hB)).setCell hB _) (by simp; omega) hn hsl).mono ?_
    rintro e w2 ⟨A2, c2, rfl, hown2, hb2⟩
    have HO2 := Lib.hid (own_mono hown2 (by simp; omega : w.heap.size ≤ _))
    have HB2 := Lib.hid ((HB1.out.setCell (Nat.le_refl _) _).trans (hb2.mono (by simp; omega)))
    clear hown2 hb2
    go_wp2
    go_ret2
    rw [HE.out]
    exact ⟨A2, 8 + n, c2, rfl, HO2.out, HB2.out⟩
end Go.Proofs.YtedfddnbgljcjaaGreat.Rec
