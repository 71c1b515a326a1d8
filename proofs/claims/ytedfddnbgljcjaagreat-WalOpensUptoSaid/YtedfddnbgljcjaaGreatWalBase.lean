/-
  What the laws of package wal share: a log whose blocks all lie from block B on; numbers that fit; the size of a segment; what a program that does nothing does not answer.
-/
import Derived.Test.YtedfddnbgljcjaaGreatWalBegin
import Derived.Test.YtedfddnbgljcjaaGreatWalAppend
import Derived.Test.YtedfddnbgljcjaaGreatWalRead
import Derived.Test.YtedfddnbgljcjaaGreatMaths
import Derived.Test.YtedfddnbgljcjaaGreatPlayMod
import Derived.Test.YtedfddnbgljcjaaGreatHelpBytes
import Derived.Lib.SlBytesConst
namespace Go.Proofs.YtedfddnbgljcjaaGreat.Wal
set_option linter.unusedVariables false
set_option maxRecDepth 100000
open Go.RowKit Base WalMath
open Go.Proofs.YtedfddnbgljcjaaGreat.Field (modZ modZ_lt mod_any)
open Go.Proofs.YtedfddnbgljcjaaGreat.Disk (Turn Out DiskAt I64 Fits own_same own_type)
open DiskMath (Fl Dk)
set_option linter.ambiguousOpen false

/-! ### blocks from B on -/
def From (B : Nat) (i : Nat) : Prop := B ≤ i
theorem new_from {B : Nat} {w : World} (h : B ≤ w.heap.size) : New (From B) w := fun i hi => Nat.le_trans h hi
theorem Turn.from_ {B : Nat} {w w' : World} (h : Turn (From B) w w') (hB : B ≤ w.heap.size) : Below B w w' := Disk.Turn.below h (fun _ hi => hi) hB
theorem lies_below {w : World} {B : Nat} {A : Option Addr} {n c : Nat} {b : List UInt8} (h : Bytes w B A n c b) : Lies (fun i => ¬ From B i) A n := fun hn b off e hf => by
  obtain ⟨b', off', e', hb', _⟩ := h.2.2.2 hn
  rw [e] at e'
  injection e' with e'
  injection e' with e1 _
  subst e1
  exact absurd hf (by unfold From; omega)
theorem newdisk_any (w : World) : Calls Tryz.prog 4 #[] w fun e w' => ∃ g, e = .returned (.pointer (some ⟨g, 0, none⟩)) ∧ DiskT (From w.heap.size) w' g DiskMath.none_ ∧ Below w.heap.size w w' := by
  refine (Disk.new_any w).mono ?_
  rintro e w' ⟨g, rfl, hd, hb⟩
  refine ⟨g, rfl, ⟨_, hd, fun i hi => ?_⟩, hb⟩
  rcases hi with hi | hi
  · exact hi.elim
  · exact hi

/-! ### numbers that fit -/
theorem recs_len {l : List (List UInt8)} (h : ∀ p ∈ l, p.length ≤ 1000) : (RecMath.recs l).length ≤ l.length * 1008 := by
  induction l with
  | nil => simp [RecMath.recs]
  | cons p l ih =>
    rw [RecMath.recs_cons, List.length_append, RecMath.recB_length, List.length_cons]
    have := ih fun q hq => h q (List.mem_cons_of_mem _ hq)
    have := h p List.mem_cons_self
    omega
theorem mem_rows {l : List Sg} {s : Sg} (hs : s ∈ l) : (∀ p ∈ s.rows, p ∈ rowsOf l) ∧ s.rows.length ≤ cnt l := by
  refine ⟨fun p hp => List.mem_flatMap.2 ⟨s, hs, hp⟩, ?_⟩
  induction l with
  | nil => cases hs
  | cons t l ih =>
    rw [cnt_cons]
    rcases List.mem_cons.1 hs with rfl | hs
    · omega
    · have := ih hs
      omega
structure Fine (f x : Int) (l : Lg) : Prop where
  f0 : 0 ≤ f
  fl : f + l.segs.length ≤ 16384
  x1 : 1 ≤ x
  xm : x ≤ 1000000
  b0 : 0 ≤ l.base
  b1 : l.base ≤ 12288
  s0 : 64 ≤ l.size
  s1 : l.size ≤ 65536
  rows : ∀ p ∈ rowsOf l.segs, p.length ≤ 1000
  few : cnt l.segs ≤ 1000
theorem seg_bytes {l : List Sg} {s : Sg} (hs : s ∈ l) (hr : ∀ p ∈ rowsOf l, p.length ≤ 1000) (hc : cnt l ≤ 1000) : (bytesOf s).length ≤ 1008019 := by
  obtain ⟨h1, h2⟩ := mem_rows hs
  have := recs_len fun p hp => hr p (h1 p hp)
  rw [bytesOf_length]
  have : s.rows.length * 1008 ≤ 1000 * 1008 := Nat.mul_le_mul_right _ (by omega)
  omega
theorem Fine.ok {f x : Int} {l : Lg} (h : Fine f x l) (hc : Chain f x l.segs) : Ok l ∧ Small l := by
  have hm := chain_mem hc
  constructor
  · refine ⟨h.b0, h.b1, h.s0, h.s1, fun s hs => ?_⟩
    obtain ⟨a, b, c, d, e, g⟩ := hm s hs
    have hb := seg_bytes hs h.rows h.few
    have h1 := h.f0
    have h2 := h.fl
    have h3 := h.x1
    have h4 := h.xm
    have h5 := h.few
    exact ⟨by omega, by omega, by omega, by omega, by omega, g⟩
  · intro s hs
    have hb := seg_bytes hs h.rows h.few
    have := (hm s hs).2.2.2.2.1
    omega
theorem Fine.cap {f x : Int} {l : Lg} {d : Dk} {k : Nat} (h : Fine f x l) (hg : WalMath.Good f x l d) (hk : d.ops ≤ k) (hl : d.left ≤ 1000000) : Cap k 1008019 d := by
  refine ⟨hk, hl, fun y hy => ?_⟩
  rw [hg.files] at hy
  obtain ⟨s, hs, rfl⟩ := List.mem_map.1 hy
  exact seg_bytes hs h.rows h.few

/-! ### one of a few sizes -/
def sizes : List Int := [64, 65, 100, 200, 1000, 65536]
def sizeOf6 (n : Int) : Int := sizes.getD (modZ n 6) 0
theorem size6_bd (n : Int) : 64 ≤ sizeOf6 n ∧ sizeOf6 n ≤ 65536 := by
  unfold sizeOf6
  have := modZ_lt n (n := 6) (by omega)
  generalize modZ n 6 = k at this
  match k, this with
  | 0, _ => exact ⟨by decide, by decide⟩
  | 1, _ => exact ⟨by decide, by decide⟩
  | 2, _ => exact ⟨by decide, by decide⟩
  | 3, _ => exact ⟨by decide, by decide⟩
  | 4, _ => exact ⟨by decide, by decide⟩
  | 5, _ => exact ⟨by decide, by decide⟩
  | k + 6, h => omega
set_option maxHeartbeats 800000 in
theorem size_any (n : Int) (w : World) : Calls Tryz.prog 11 #[.int .i64 n] w fun e w' => e = .returned (.int .i64 (sizeOf6 n)) ∧ Below w.heap.size w w' := by
  have HM := Lib.hid (fun w => mod_any n 6 w (by omega) (by omega))
  have hk := modZ_lt n (n := 6) (by omega)
  have HR : Hid (Row (w.alloc (.cells (iv sizes).toArray 3)) (w.heap.size + 1) 1 (some ⟨w.heap.size, 0, none⟩) 6 6 (iv sizes)) := Row.lit w #[.int .i64 64, .int .i64 65, .int .i64 100, .int .i64 200, .int .i64 1000, .int .i64 65536] _ (0, 0) rfl rfl (by omega)
  obtain ⟨b, off, e, _, hc⟩ := Row.num HR.out hk
  injection e with e
  injection e with e1 e2
  subst e1 e2
  rw [Nat.zero_add] at hc
  have hsz : sizes.getD (modZ n 6) 0 = sizeOf6 n := rfl
  rw [hsz] at hc
  have hc2 : (w.alloc (.cells #[.int .i64 64, .int .i64 65, .int .i64 100, .int .i64 200, .int .i64 1000, .int .i64 65536] 3)).cell? ⟨w.heap.size, modZ n 6, none⟩ = some (.int .i64 (sizeOf6 n)) := hc
  clear hc HR hsz
  generalize sizeOf6 n = z at *
  generalize modZ n 6 = k at *
  go_enter Tryz.func11, Tryz.ntmps11
  go_wp2_with fail
  refine (HM.out _).mono ?_
  rintro e w1 ⟨rfl, rfl⟩
  go_wp2
  go_ret
  exact ⟨rfl, (Below.refl _ _).alloc (Nat.le_refl _) _⟩

/-! ### what a program that does nothing does not answer -/
def lg0 : Lg := ⟨[], 16, 64, none⟩
theorem good0 (ba sz : Int) : WalMath.Good ba 1 ⟨[], ba, sz, none⟩ DiskMath.none_ := ⟨.inl rfl, rfl, rfl, rfl⟩
theorem open0 {ba sz : Int} (hb0 : 0 ≤ ba) (hb1 : ba ≤ 12288) (hs0 : 64 ≤ sz) (hs1 : sz ≤ 65536) : open_ DiskMath.none_ ba sz = ⟨0, some ⟨[], ba, sz, none⟩, DiskMath.none_⟩ := by
  unfold open_
  rw [if_neg (by omega)]
  rfl
theorem cap0 : Cap 0 0 DiskMath.none_ := ⟨Nat.le_refl _, Nat.zero_le _, fun x hx => by cases hx⟩
theorem fine0 {ba sz : Int} (hb0 : 0 ≤ ba) (hb1 : ba ≤ 12288) (hs0 : 64 ≤ sz) (hs1 : sz ≤ 65536) : Fine ba 1 ⟨[], ba, sz, none⟩ := ⟨hb0, by simp; omega, by omega, by omega, hb0, hb1, hs0, hs1, (fun p hp => by cases hp), by simp [cnt, rowsOf]⟩

set_option maxHeartbeats 3200000 in
theorem awake_any (w : World) : Calls Tryz.prog 5 #[] w fun e w' => e = .returned (.bool true) ∧ Below w.heap.size w w' := by
  have kc := fun (w : World) (C : Array Value) (n c : Nat) => Lib.run_convert_bytes_const (P := Tryz.prog) w 31 5 C n c Tryz.underlying31 Tryz.underlying5
  go_enter Tryz.func5, Tryz.ntmps5
  go_wp2_with fail
  refine (newdisk_any w).mono ?_
  rintro e w1 ⟨gd, rfl, hd1, hb1⟩
  have HD1 := Lib.hid hd1
  have HB1 := Lib.hid hb1
  clear hd1 hb1
  go_wp2_with fail
  refine (open_any (From w.heap.size) gd DiskMath.none_ 0 0 16 64 _ HD1.out (new_from HB1.out.size) cap0 (by omega) (by omega)).mono ?_
  intro e w2 hop
  rw [open0 (by omega) (by omega) (by omega) (by omega)] at hop
  obtain ⟨g, rfl, hbo2, _, ht2⟩ := hop
  have HB2 := Lib.hid hbo2
  have HW2 := Lib.hid (HB1.out.trans (Turn.from_ ht2 HB1.out.size))
  clear hbo2 ht2 HD1
  obtain ⟨F2, G2, _, hl2, _⟩ := HB2.out
  have HL2 := Lib.hid hl2
  clear hl2
  go_wp2_with fail
  refine (low_any G2 g gd _ _ HL2.out).mono ?_
  rintro e w2' ⟨rfl, rfl⟩
  rw [show low (Lg.mk [] 16 64 none).segs = 1 from rfl]
  go_wp2_with fail
  refine (head_any G2 g gd _ _ HL2.out (fun s hs => by cases hs)).mono ?_
  rintro e w3 ⟨rfl, hb3⟩
  rw [show hd (Lg.mk [] 16 64 none).segs = 0 from rfl]
  have HB3 := Lib.hid (HB2.out.new hb3)
  have HW3 := Lib.hid (held_two HW2.out hb3)
  clear hb3 HB2 HW2 HL2
  have hst := append_good (p := [97]) (good0 16 64) (fun _ => ⟨rfl, rfl⟩) (by omega) (by show (16 : Int) ≤ 16; omega) (by show (0 : Int) ≤ 16; omega) (by show (16 : Int) ≤ 12288; omega) (by simp) (by simp [cnt, rowsOf]) (by simp)
  have hst2 := hst.resolve_right (fun h => by have := h.2.2.2.2.1; exact absurd this (by decide))
  obtain ⟨a1, a2, a3, a4, a5, a6, a7, a8, _, a10⟩ := hst2
  have hW4 : Below w3.heap.size w3 (w3.alloc (.cells #[.int .u8 97] 5 (1, 2))) := (Below.refl _ _).alloc (Nat.le_refl _) _
  have HX := Lib.hid (append_any (Win (From w.heap.size) w3.heap.size (w3.alloc (.cells #[.int .u8 97] 5 (1, 2))).heap.size) g gd ⟨[], 16, 64, none⟩ DiskMath.none_ 0 0 (some ⟨w3.heap.size, 0, none⟩) 1 1 [97] _ (HB3.out.win hW4) ((new_from HW3.out.size).win hW4.size) ((fine0 (ba := 16) (sz := 64) (by omega) (by omega) (by omega) (by omega)).ok (.inl rfl)).1 (fun s hs => by cases hs) (by simp) cap0 (by omega) (by omega)
    ((Row.lit w3 #[.int .u8 97] _ _ rfl rfl (by omega)).more (by simp)) (fun _ b off e hw => by
      injection e with e
      injection e with e1 _
      have := hw.2
      rw [World.size_alloc] at this
      omega))
  have HW4 := Lib.hid hW4
  generalize hr : append ⟨[], 16, 64, none⟩ DiskMath.none_ [97] = r at *
  rw [a1, a2] at HX
  have hcnt : cnt r.l.segs = 1 := by rw [cnt, a4]; rfl
  have hseg : r.l.segs.length = 1 := by
    have := List.length_pos_iff.2 a8
    have : r.l.segs.length ≤ 0 + 1 := a7
    omega
  have hlo : low r.l.segs = 1 := low_chain1 a3.chain
  have hhd : hd r.l.segs = 1 := by rw [hd_chain1 a3.chain, hcnt]; rfl
  have hen : entry r.l.segs 1 = some [97] := by
    unfold entry
    rw [hlo, hhd, if_pos (by omega), a4]
    rfl
  have hfine : Fine 16 1 r.l := ⟨by omega, by rw [hseg]; omega, by omega, by omega, by rw [a5]; show (0 : Int) ≤ 16; omega, by rw [a5]; show (16 : Int) ≤ 12288; omega, by rw [a6]; show (64 : Int) ≤ 64; omega, by rw [a6]; show (64 : Int) ≤ 65536; omega, (fun p hp => by
    rw [a4] at hp
    have : p = [97] := by simpa [rowsOf] using hp
    subst this
    simp), by rw [hcnt]; omega⟩
  have HOK := Lib.hid (hfine.ok a3.chain).1.2.2.2.2
  have HRU : Hid (Runs (low r.l.segs) r.l.segs) := by rw [hlo]; exact chain_runs a3.chain
  have HEN := Lib.hid hen
  have HSL := Lib.hid hseg
  have HOP := Lib.hid (show r.d.ops = 2 from a10)
  clear hst a1 a2 a3 a4 a5 a6 a7 a8 a10 hW4 hcnt hseg hlo hhd hen hfine hr
  rw [show ((1 : Int) + ((cnt ([] : List Sg) : Nat) : Int)) = 1 from rfl] at HX
  go_wp2_with fail
  refine HX.out.mono ?_
  rintro e w5 ⟨rfl, hb5, ht5⟩
  have HB5 := Lib.hid hb5
  have HW5 := Lib.hid ((held_two HW3.out HW4.out).trans (Turn.from_ (Turn.win ht5) (Nat.le_trans HW3.out.size HW4.out.size)))
  clear hb5 ht5 HX HB3
  obtain ⟨F5, G5, hd5, hl5, _⟩ := HB5.out
  have HL5 := Lib.hid hl5
  have HD5 := Lib.hid hd5
  clear hl5 hd5
  go_wp2_with fail
  refine (read_any G5 g gd r.l 1 _ HL5.out HOK.out (by rw [HSL.out]; omega) HRU.out).mono ?_
  intro e w6 hrd
  rw [HEN.out] at hrd
  obtain ⟨A6, c6, rfl, hown6, hb6⟩ := hrd
  have hcv : (convert 31 9 (.slice A6 1 c6)).run Tryz.prog w6 = .ok (.string ⟨#[97]⟩) w6 := (Bytes.of_own (l := [97]) hown6).str (P := Tryz.prog) Tryz.underlying31 Tryz.underlying5 Tryz.underlying9
  have HL6 := Lib.hid (HL5.out.new hb6)
  have HD6 := Lib.hid (HD5.out.new hb6)
  have HW6 := Lib.hid (held_two HW5.out hb6)
  clear hown6 hb6
  rw [show ([97] : List UInt8).length = 1 from rfl]
  go_wp2_with fail
  refine (segments_any G5 g gd r.l _ HL6.out).mono ?_
  rintro e w7 ⟨rfl, rfl⟩
  rw [HSL.out]
  go_wp2_with fail
  refine (Disk.ops_any F5 gd r.d _ HD6.out).mono ?_
  rintro e w7 ⟨rfl, rfl⟩
  rw [HOP.out]
  go_wp2
  go_ret
  exact ⟨rfl, HW6.out⟩
end Go.Proofs.YtedfddnbgljcjaaGreat.Wal
