/-
  WalOpens: the walk of the law.
-/
import Derived.Test.YtedfddnbgljcjaaGreatWalAlike
import Derived.Test.YtedfddnbgljcjaaGreatRefOpen
import Derived.Test.YtedfddnbgljcjaaGreatWalBase
import Derived.Test.YtedfddnbgljcjaaGreatPlayBig
import Derived.StillTailTactics
import Derived.Deep.DeepCutAuto
namespace Go.Proofs.YtedfddnbgljcjaaGreat.Opens
set_option linter.unusedVariables false
set_option maxRecDepth 100000
open Go.RowKit Base WalMath
open Go.Proofs.YtedfddnbgljcjaaGreat.Wal (SgOk LogAt DiskT Both New Opened open_any sizeOf6 size_any awake_any cap_fits)
open Go.Proofs.YtedfddnbgljcjaaGreat.RLog (RLogAt ROpened refopen_any)
open Go.Proofs.YtedfddnbgljcjaaGreat.Disk (Turn Out DiskAt Done append_any I64 Fits)
open Go.Proofs.YtedfddnbgljcjaaGreat.Ref (RefAt RDone refappend_any RHead RBody)
open Go.Proofs.YtedfddnbgljcjaaGreat.Field (modZ modZ_lt mod_any bigZ bigZ_lt playbig_any)
open DiskMath (Fl Dk)
set_option linter.ambiguousOpen false

/-! ### numbers that run on -/
theorem load_runs {f0 : Int} : ∀ {fs : List Fl} {j : Nat} {acc segs : List Sg}, WalMath.load f0 j acc fs = some segs → Runs (low acc) acc → Runs (low segs) segs
  | [], j, acc, segs, h, hr => by
    unfold WalMath.load at h
    injection h with h
    rw [← h]
    exact hr
  | x :: r, j, acc, segs, h, hr => by
    unfold WalMath.load at h
    split at h
    · cases h
    · split at h
      · injection h with h
        rw [← h]
        exact hr
      · split at h
        · cases h
        · next hn =>
          refine load_runs h ?_
          have hg : goesOn acc (segOf x) = true := by
            cases hb : goesOn acc (segOf x) with
            | true => rfl
            | false => exact absurd (.inr (.inl hb)) hn
          unfold goesOn at hg
          simp only [Bool.and_eq_true, Bool.or_eq_true, decide_eq_true_eq] at hg
          cases acc with
          | nil => exact ⟨rfl, trivial⟩
          | cons s t =>
            have h1 := runs_hd hr (by simp)
            have h2 : (segOf x).first = hd (s :: t) + 1 := by
              rcases hg.1 with h | h
              · simp at h
              · exact h
            show Runs (low (s :: t)) (s :: t ++ [segOf x])
            exact hr.snoc (by omega)
theorem open_runs {d : Dk} {ba sz : Int} {l : Lg} (h : (open_ d ba sz).l = some l) (hN : d.files.length ≤ 16384) : Runs (low l.segs) l.segs ∧ l.segs.length ≤ 16384 := by
  unfold open_ at h
  split at h
  · cases h
  · split at h
    · cases h
    · split at h
      · cases h
      · next segs hs =>
        have hl : l.segs = segs := by
          unfold mended at h
          split at h
          · injection h with h
            rw [← h]
          · cases h
        rw [hl]
        have hs' := hs
        rw [Wal.loads_eq] at hs
        obtain ⟨k, hk, e⟩ := Wal.load_files hs
        refine ⟨load_runs hs trivial, ?_⟩
        rw [e, List.nil_append, List.length_map, List.length_take]
        have : (own d ba).length ≤ d.files.length := List.length_filter_le _ _
        omega

/-! ### both disks in one memory -/
structure Pair (w0 w : World) (F R : Nat → Prop) (g h : Nat) (d1 d2 : Dk) : Prop where
  code : DiskAt F w g d1
  doc : RefAt R w h d2
  inF : ∀ i, F i → w0.heap.size ≤ i ∧ i < w.heap.size
  inR : ∀ i, R i → w0.heap.size ≤ i ∧ i < w.heap.size
  apart : ∀ i, F i → ¬ R i
  bel : Below w0.heap.size w0 w
section
variable {w0 w w' : World} {F R : Nat → Prop} {g h : Nat} {d1 d2 d : Dk}
theorem Pair.new (p : Pair w0 w F R g h d1 d2) (hb : Below w.heap.size w w') : Pair w0 w' F R g h d1 d2 where
  code := p.code.new hb
  doc := p.doc.new hb
  inF := fun i hi => ⟨(p.inF i hi).1, Nat.lt_of_lt_of_le (p.inF i hi).2 hb.size⟩
  inR := fun i hi => ⟨(p.inR i hi).1, Nat.lt_of_lt_of_le (p.inR i hi).2 hb.size⟩
  apart := p.apart
  bel := held_two p.bel hb
theorem Pair.atCode (p : Pair w0 w F R g h d1 d2) (hs : DiskAt (Out F w w') w' g d) (ht : Turn F w w') : Pair w0 w' (Out F w w') R g h d d2 where
  code := hs
  doc := p.doc.keep fun i hi hr => ht.block i hi fun hf => p.apart i hf hr
  inF := fun i hi => by
    have hz := ht.size
    have h0 := p.bel.size
    rcases hi with hi | hi
    · have := p.inF i hi; omega
    · omega
  inR := fun i hi => ⟨(p.inR i hi).1, Nat.lt_of_lt_of_le (p.inR i hi).2 ht.size⟩
  apart := fun i hi hr => by
    rcases hi with hi | hi
    · exact p.apart i hi hr
    · have := (p.inR i hr).2; omega
  bel := p.bel.trans (ht.below (fun i hi => (p.inF i hi).1) p.bel.size)
theorem Pair.atDoc (p : Pair w0 w F R g h d1 d2) (hr : RefAt (Out R w w') w' h d) (ht : Turn R w w') : Pair w0 w' F (Out R w w') g h d1 d where
  code := p.code.keep fun i hi hf => ht.block i hi fun hr => p.apart i hf hr
  doc := hr
  inR := fun i hi => by
    have hz := ht.size
    have h0 := p.bel.size
    rcases hi with hi | hi
    · have := p.inR i hi; omega
    · omega
  inF := fun i hi => ⟨(p.inF i hi).1, Nat.lt_of_lt_of_le (p.inF i hi).2 ht.size⟩
  apart := fun i hf hi => by
    rcases hi with hi | hi
    · exact p.apart i hf hi
    · have := (p.inF i hf).2; omega
  bel := p.bel.trans (ht.below (fun i hi => (p.inR i hi).1) p.bel.size)
/-- bytes that are no disk's own -/
def Side (w0 w : World) (F R : Nat → Prop) (A : Option Addr) (n : Nat) : Prop := 0 < n → ∀ b off, A = some ⟨b, off, none⟩ → ¬ F b ∧ ¬ R b
theorem Pair.side {A : Option Addr} {n : Nat} {wx : World} (p : Pair w0 w F R g h d1 d2) (hz : w.heap.size ≤ wx.heap.size) (ha : 0 < n → ∀ b off, A = some ⟨b, off, none⟩ → b < w0.heap.size ∨ wx.heap.size ≤ b) : Side w0 w F R A n := fun hn b off e => by
  rcases ha hn b off e with h | h
  · exact ⟨fun hf => by have := (p.inF b hf).1; omega, fun hf => by have := (p.inR b hf).1; omega⟩
  · exact ⟨fun hf => by have := (p.inF b hf).2; omega, fun hf => by have := (p.inR b hf).2; omega⟩
end
theorem bytes_turn {w w' : World} {F : Nat → Prop} {B n c : Nat} {A : Option Addr} {l : List UInt8} (h : Bytes w B A n c l) (hB : B ≤ w.heap.size) (ht : Turn F w w') (hs : 0 < n → ∀ b off, A = some ⟨b, off, none⟩ → ¬ F b) : Bytes w' B A n c l :=
  Base.Bytes.same h fun hn b off e hb => ⟨hb, ht.block b (Nat.lt_of_lt_of_le hb hB) (hs hn b off e)⟩

/-- files that were laid by hand -/
def Fls (w : World) (B : Nat) (A : Option Addr) (n c : Nat) : Prop := n ≤ c ∧ c ≤ 9223372036854775807 ∧ (0 < n → ∃ b off, A = some ⟨b, off, none⟩ ∧ b < B ∧ ∀ i, i < n → ∃ (f N : Int) (Ab : Option Addr) (nb cb : Nat) (lb : List UInt8) (Al : Option Addr) (nl cl : Nat) (ll : List (List UInt8)),
  w.cell? ⟨b, off + i * 4, none⟩ = some (.int .i64 f) ∧ w.cell? ⟨b, off + i * 4 + 1, none⟩ = some (.slice Ab nb cb) ∧ w.cell? ⟨b, off + i * 4 + 2, none⟩ = some (.int .i64 N) ∧ w.cell? ⟨b, off + i * 4 + 3, none⟩ = some (.slice Al nl cl) ∧ Bytes w B Ab nb cb lb ∧ nb ≤ 1048576 ∧ Lists w B Al nl cl ll)
/-- how the walk over the files stands -/
def OpnRel (w0 : World) (g h n : Nat) (vi vn : Value) (wr : World) : Prop :=
  ∃ (i : Nat) (nx : Int) (F R : Nat → Prop) (d : Dk), vi = .int .i64 i ∧ vn = .int .i64 nx ∧ i ≤ n ∧ i ≤ 5 ∧ 0 ≤ nx ∧ nx ≤ 1099511627776 + 6 * i ∧ Pair w0 wr F R g h d d ∧ Cap i (i * 9000000) d

/-! ### what is opened -/
theorem open_cap {k M : Nat} {d : Dk} (h : Cap k M d) (ba sz : Int) : Cap (k + 1) M (open_ d ba sz).d := by
  have h0 : Cap (k + 1) M d := h.mono (Nat.le_succ _) (Nat.le_refl _)
  unfold open_
  split
  · exact h0
  · split
    · exact h0
    · split
      · exact h0
      · next segs hs =>
        have hm : Cap (k + 1) M (mend d (own d ba) segs).2 := by
          unfold mend
          split
          · exact h.remove _
          · split
            · exact h0
            · split
              · exact h.cut _ _
              · exact h0
        unfold mended
        split
        · exact hm
        · exact hm
def TT (F : Nat → Prop) (w : World) (i : Nat) : Prop := F i ∨ w.heap.size ≤ i
section
variable {w0 w w7 w8 : World} {F R : Nat → Prop} {g h : Nat} {d : Dk}
theorem tt_off (p : Pair w0 w F R g h d d) {i : Nat} (hi : TT F w i) : ¬ R i := fun hr => by
  rcases hi with hi | hi
  · exact p.apart i hi hr
  · have := (p.inR i hr).2
    omega
theorem tt_code (p : Pair w0 w F R g h d d) (ht : Turn (TT F w) w w7) : RefAt R w7 h d ∧ (∀ i, R i → i < w7.heap.size) ∧ Below w0.heap.size w0 w7 :=
  ⟨p.doc.keep fun i hi hr => ht.block i hi fun hf => tt_off p hf hr, fun i hi => Nat.lt_of_lt_of_le (p.inR i hi).2 ht.size, p.bel.trans (ht.below (fun i hi => by
    rcases hi with hi | hi
    · exact (p.inF i hi).1
    · exact Nat.le_trans p.bel.size hi) p.bel.size)⟩
theorem hd7_keep {F7 : Nat → Prop} {d' : Dk} (hd : DiskAt F7 w7 g d') (hF : ∀ i, F7 i → TT F w i ∧ i < w7.heap.size) (p : Pair w0 w F R g h d d) (ht8 : Turn R w7 w8) : DiskAt F7 w8 g d' :=
  hd.keep fun i hi hf => ht8.block i hi (tt_off p (hF i hf).1)
theorem tt_doc (p : Pair w0 w F R g h d d) (ht : Turn (TT F w) w w7) (ht8 : Turn R w7 w8) : Below w0.heap.size w0 w8 :=
  (tt_code p ht).2.2.trans (ht8.below (fun i hi => (p.inR i hi).1) (tt_code p ht).2.2.size)
end
/-- the document's disk, laid anew -/
theorem ref_new (w : World) : RefAt (fun i => i = w.heap.size) (w.alloc (.cells #[.slice none 0 0, .int .i64 0, .bool false, .int .i64 0] 28)) w.heap.size DiskMath.none_ :=
  ⟨none, 0, fun _ => ⟨none, 0⟩, Blk.new _ _ _, rfl, World.ownsRow_nil _ _ _ _, fun g hg => (by cases hg), fun x hx => (by cases hx), trivial⟩
set_option maxHeartbeats 12800000 in
theorem opens_walk (ba n : Int) (A0 : Option Addr) (n0 c0 : Nat) (w : World) (hfl : Fls w w.heap.size A0 n0 c0) :
    Calls Tryz.prog 3 #[.int .i64 ba, .int .i64 n, .slice A0 n0 c0] w fun e w' => e = .returned (.bool true) ∧ Below w.heap.size w w' := by
  have hle := hfl.1
  have hle2 := hfl.2.1
  have HFL := Lib.hid hfl.2.2
  clear hfl
  go_enter Tryz.func3, Tryz.ntmps3
  go_wp2_with fail
  refine (Wal.newdisk_any w).mono ?_
  rintro e w1 ⟨g, rfl, ⟨F1, hd1, hF1⟩, hb1⟩
  have HD1 := Lib.hid hd1
  have HF1 := Lib.hid hF1
  have HB1 := Lib.hid hb1
  clear hd1 hF1 hb1
  go_wp2_with fail
  have HR1 := Lib.hid (ref_new w1)
  have HP1 : Hid (Pair w (w1.alloc (.cells #[.slice none 0 0, .int .i64 0, .bool false, .int .i64 0] 28)) F1 (fun i => i = w1.heap.size) g w1.heap.size DiskMath.none_ DiskMath.none_) := by
    have hbx : Below w1.heap.size w1 (w1.alloc (.cells #[.slice none 0 0, .int .i64 0, .bool false, .int .i64 0] 28)) := (Below.refl _ _).alloc (Nat.le_refl _) _
    refine ⟨HD1.out.new hbx, HR1.out, fun i hi => ⟨(HF1.out i hi).1, ?_⟩, fun i hi => ⟨?_, ?_⟩, fun i hi he => ?_, held_two HB1.out hbx⟩
    · have := (HF1.out i hi).2
      rw [World.size_alloc]
      omega
    · have := HB1.out.size
      omega
    · rw [World.size_alloc]
      omega
    · have := (HF1.out i hi).2
      omega
  clear HD1 HF1 HB1 HR1
  generalize w1.alloc (.cells #[.slice none 0 0, .int .i64 0, .bool false, .int .i64 0] 28) = w2 at HP1 ⊢
  generalize w1.heap.size = h at HP1 ⊢
  refine (awake_any w2).mono ?_
  rintro e w3 ⟨rfl, hb3⟩
  have HP3 := Lib.hid (HP1.out.new hb3)
  clear hb3 HP1
  go_wp2
  go_loopw [10, 9, 11, 12] (fun vi vn _ _ wr => OpnRel w g h n0 vi vn wr) (fun vi _ _ _ _ => n0 - (intOf vi).toNat)
  case atStart => exact ⟨0, 1, _, _, _, rfl, rfl, Nat.zero_le _, Nat.zero_le _, by omega, by omega, HP3.out, ⟨Nat.le_refl _, Nat.zero_le _, fun x hx => by cases hx⟩⟩
  case round =>
    obtain ⟨i, nx, F, R, d, rfl, rfl, hi, hi5, hx0, hx1, hp, hcap⟩ := hrel
    have HP := Lib.hid hp
    have HCAP := Lib.hid hcap
    clear hp hcap HP3
    by_cases hin : i < n0 ∧ i < 5
    · obtain ⟨h0, h5⟩ := hin
      have q1 : (i : Int) < (n0 : Int) := by omega
      have q2 : (i : Int) < 5 := by omega
      obtain ⟨b, off, rfl, hbl, hall⟩ := HFL.out (by omega)
      obtain ⟨f, N, Ab, nb, cb, lb, Al, nl, cl, ll, e0, e1, e2, e3, hy, hnb, hll⟩ := hall i h0
      have HE0 := Lib.hid e0
      have HE1 := Lib.hid e1
      have HE2 := Lib.hid e2
      have HE3 := Lib.hid e3
      have HY := Lib.hid hy
      have HLL := Lib.hid hll
      have z0 := held_cell HP.out.bel e0
      clear hall e0 e1 e2 e3 hy hll
      have hm6 := modZ_lt f (n := 6) (by omega)
      have hm60 := modZ_lt f (n := 60) (by omega)
      have hm5 := modZ_lt f (n := 5) (by omega)
      go_wp2_with fail
      refine (mod_any f 6 wr (by omega) (by omega)).mono ?_
      rintro e w4 ⟨rfl, rfl⟩
      go_upto_if 44 with fail
      go_cut [11] (fun v wx => ∃ k : Nat, v = .int .i64 k ∧ k < 60 ∧ wr = wx)
      case first =>
        by_cases hk : modZ f 6 = 5
        · rw [hk]
          go_wp2_with fail
          refine (mod_any f 60 wr (by omega) (by omega)).mono ?_
          rintro e w4 ⟨rfl, rfl⟩
          go_wp2
          go_meet
          exact ⟨_, rfl, hm60, rfl⟩
        · have hkb : ((modZ f 6 : Int) == 5) = false := by simp; omega
          generalize modZ f 6 = m6 at *
          go_wp2
          go_meet
          exact ⟨40 + i, by rw [Int.natCast_add]; rfl, by omega, rfl⟩
      case rest =>
      obtain ⟨k, rfl, hk60, rfl⟩ := hcut
      have z1 := held_cell HP.out.bel HE1.out
      go_wp2_with fail
      refine (mod_any f 5 wr (by omega) (by omega)).mono ?_
      rintro e w4 ⟨rfl, rfl⟩
      generalize modZ f 5 = m5 at *
      go_upto_if 62 with fail
      go_cut [9, 12] (fun vn vb wx => ∃ (nx' : Int) (A' : Option Addr) (n' c' : Nat) (s' : List UInt8), vn = .int .i64 nx' ∧ vb = .slice A' n' c' ∧ 0 ≤ nx' ∧ nx' ≤ 1099511627776 + 6 * ((i + 1 : Nat) : Int) ∧ Bytes wx wx.heap.size A' n' c' s' ∧ n' ≤ 8048576 ∧ Side w wx F R A' n' ∧ Pair w wx F R g h d d)
      case first =>
        have hsd0 : Side w wr F R Ab nb := HP.out.side (wx := wr) (Nat.le_refl _) fun hn bb o e => by
          obtain ⟨b', o', e', hlt, _⟩ := HY.out.2.2.2 hn
          rw [e] at e'
          injection e' with e'
          injection e' with e1 _
          exact .inl (by omega)
        have HSD0 := Lib.hid hsd0
        clear hsd0
        by_cases hm0 : 0 < m5
        · have hmb : decide (0 < m5) = true := decide_eq_true hm0
          have z2 := held_cell HP.out.bel HE2.out
          obtain ⟨bq, hbq⟩ : ∃ bq, bq = (N.tmod 4 == 3) := ⟨_, rfl⟩
          have hbq2 : (N.tmod 4 == 3) = bq := hbq.symm
          clear hbq
          go_upto_if 69 with fail
          go_cut [9] (fun v wx => ∃ nx1 : Int, v = .int .i64 nx1 ∧ 0 ≤ nx1 ∧ nx1 ≤ 1099511627776 + 6 * (i : Int) ∧ wr = wx)
          case first =>
            cases bq with
            | true =>
              have hbz := bigZ_lt N (n := 1099511627776) (by omega)
              go_wp2_with fail
              refine (playbig_any N 1099511627776 wr (by omega) (by omega)).mono ?_
              rintro e w4 ⟨rfl, rfl⟩
              generalize bigZ N 1099511627776 = bz at *
              have hwz : IntKind.i64.wrap (1 + (bz : Int)) = 1 + (bz : Int) := IntWalk.i64_in _ (by omega)
              go_wp2
              go_meet
              exact ⟨1 + (bz : Int), rfl, by omega, by omega, rfl⟩
            | false =>
              go_wp2
              go_meet
              exact ⟨nx, rfl, hx0, hx1, rfl⟩
          case rest =>
          obtain ⟨nx1, rfl, hy0, hy1, rfl⟩ := hcut
          clear hbq2
          have z3 := held_cell HP.out.bel HE3.out
          have HLW := Lib.hid (HLL.out.below HP.out.bel)
          have HYW := Lib.hid (HY.out.below HP.out.bel)
          obtain ⟨bt, hbt⟩ : ∃ bt, bt = (N.tmod 3 == 2) := ⟨_, rfl⟩
          have hbt2 : (N.tmod 3 == 2) = bt := hbt.symm
          clear hbt
          go_upto_region 15 with fail
          go_still_tail 14, (by kernel_rfl)
          go_wp2_with fail
          refine (segment_any nx1 w.heap.size Al nl cl ll bt Ab nb cb lb _ (HLW.out.below (below_drewN (Below.refl _ _) 1 |>.mono HP.out.bel.size)) (HYW.out.below (below_drewN (Below.refl _ _) 1 |>.mono HP.out.bel.size)) HP.out.bel.size hnb).mono ?_
          rintro e w5 ⟨A5, n5, c5, s5, rfl, hy5, hn5, hs5, hb5⟩
          have hb5' : Below wr.heap.size wr w5 := (below_drewN (Below.refl _ _) 1).trans hb5
          have HP5 := Lib.hid (HP.out.new hb5')
          have HY5 := Lib.hid hy5
          have HS5 := Lib.hid (show Side w w5 F R A5 n5 from fun hn bb o e => HP.out.side (wx := wr) (Nat.le_refl _) hs5 hn bb o e)
          have z5 := held_cell hb5' z3
          clear hy5 hs5 hb5 hb5' hbt2 z0 z1 z2 z3
          obtain ⟨mn, hmn, hmn6⟩ : ∃ mn : Nat, min (nl : Int) 6 = (mn : Int) ∧ mn ≤ 6 := ⟨min nl 6, by omega, by omega⟩
          have hw6 : IntKind.i64.wrap (nx1 + (mn : Int)) = nx1 + (mn : Int) := IntWalk.i64_in _ (by omega)
          go_wp2
          go_meet
          exact ⟨nx1 + (mn : Int), A5, n5, c5, s5, rfl, rfl, by omega, by omega, HY5.out, by omega, HS5.out, HP5.out⟩
        · have hmb : decide (0 < m5) = false := decide_eq_false hm0
          go_wp2
          go_meet
          exact ⟨nx, Ab, nb, cb, lb, rfl, rfl, hx0, by omega, (HY.out.below HP.out.bel).more HP.out.bel.size, by omega, HSD0.out, HP.out⟩
      case rest =>
      obtain ⟨nx', A', n', c', s', rfl, rfl, hx0', hx1', hy', hn', hside, hp'⟩ := hcut
      have HP5 := Lib.hid hp'
      have HY5 := Lib.hid hy'
      have HS5 := Lib.hid hside
      have hsl : s'.length = n' := hy'.len
      have HSL := Lib.hid hsl
      have HFT := Lib.hid (cap_fits HCAP.out (by omega))
      clear hy' hside hp' hsl z0 z1 HE0 HE1 HE2 HE3 HY HLL
      go_wp2_with fail
      refine (append_any F g d k wc.heap.size A' n' c' s' wc HP5.out.code HFT.out HY5.out (Nat.le_refl _) (by omega) (fun x hx => by
        have := HCAP.out.2.2 x (DiskMath.seek_mem hx).1
        omega)).mono ?_
      rintro e w6 ⟨rfl, hd6, ht6⟩
      have HP6 := Lib.hid (HP5.out.atCode hd6 ht6)
      have HY6 := Lib.hid (bytes_turn HY5.out (Nat.le_refl _) ht6 (fun hn bb o e => (HS5.out hn bb o e).1))
      have hz6 := ht6.size
      clear hd6 ht6
      go_wp2_with fail
      refine (refappend_any R h d k wc.heap.size A' n' c' s' w6 HP6.out.doc HFT.out HY6.out hz6 (fun hn aa ea => by
        obtain ⟨bb, o, e, _⟩ := HY6.out.2.2.2 hn
        rw [ea] at e
        injection e with e
        subst e
        exact (HS5.out hn bb o ea).2) (by omega) (fun x hx => by
        have := HCAP.out.2.2 x (DiskMath.seek_mem hx).1
        omega)).mono ?_
      rintro e w7 ⟨rfl, hd7, ht7⟩
      have HP7 := Lib.hid (HP6.out.atDoc hd7 ht7)
      have HCP7 := Lib.hid ((HCAP.out.append k s').mono (k' := i + 1) (M' := (i + 1) * 9000000) (Nat.le_refl _) (by rw [HSL.out]; omega))
      clear hd7 ht7
      go_wp2
      go_roundw
      case rel => exact ⟨i + 1, nx', _, _, _, by go_num, rfl, by omega, by omega, hx0', hx1', HP7.out, HCP7.out⟩
      case measure => simp [intOf]; omega
    · have hor : (¬ (i : Int) < (n0 : Int)) ∨ ((i : Int) < (n0 : Int) ∧ ¬ (i : Int) < 5) := by omega
      have hA0 : n0 = 0 ∨ ∃ b off, A0 = some ⟨b, off, none⟩ := by
        rcases Nat.eq_zero_or_pos n0 with h | h
        · exact .inl h
        · obtain ⟨b, off, e, _⟩ := HFL.out h
          exact .inr ⟨b, off, e⟩
      clear hin
      have hm9 := modZ_lt n (n := 9) (by omega)
      have hN := HP.out.doc.up.le
      rcases hor with q1 | ⟨q1, q2⟩
      all_goals (
        go_wp2_with fail
        refine (mod_any n 9 wr (by omega) (by omega)).mono ?_
        rintro e w4 ⟨rfl, rfl⟩
        generalize modZ n 9 = m9 at *
        go_upto_if 111 with fail
        go_cut [0, 1] (fun v0 v1 wx => ∃ ba' sz' : Int, v0 = .int .i64 ba' ∧ v1 = .int .i64 sz' ∧ Pair w wx F R g h d d)
        case first =>
          by_cases hm8 : m9 < 8
          · have hm8b : decide (m9 < 8) = true := decide_eq_true hm8
            have hm8c : (m9 : Int) < 8 := by omega
            go_wp2_with fail
            refine (size_any n wr).mono ?_
            rintro e w5 ⟨rfl, hb5⟩
            have HP5 := Lib.hid (HP.out.new hb5)
            clear hb5
            go_wp2
            go_meet
            exact ⟨40, sizeOf6 n, rfl, rfl, HP5.out⟩
          · have hm8b : decide (m9 < 8) = false := decide_eq_false hm8
            have hm8c : ¬ (m9 : Int) < 8 := by omega
            go_wp2
            go_meet
            exact ⟨ba, n, rfl, rfl, HP.out⟩
        case rest =>
        obtain ⟨ba', sz', rfl, rfl, hp'⟩ := hcut
        have HP6 := Lib.hid hp'
        have HRUN : Hid (∀ l, (open_ d ba' sz').l = some l → Runs (low l.segs) l.segs ∧ l.segs.length ≤ 16384) := fun l hl => open_runs hl hN
        have HCP : Hid (∀ x ∈ (open_ d ba' sz').d.files, x.b.length ≤ 140737488355328) := fun x hx => by
          have := (open_cap HCAP.out ba' sz').2.2 x hx
          omega
        have HFT := Lib.hid (cap_fits HCAP.out (by omega))
        have HMX : Hid (∀ x ∈ d.files, x.b.length ≤ 35184372088832) := fun x hx => by
          have := HCAP.out.2.2 x hx
          omega
        have HOA := Lib.hid (open_any (TT F wc) g d i (i * 9000000) ba' sz' wc ⟨F, hp'.code, fun i hi => ⟨.inl hi, (hp'.inF i hi).2⟩⟩ (fun i hi => .inr hi) HCAP.out (by omega) (by omega))
        have HDB := Lib.hid (fun (w7 : World) (ht : Turn (TT F wc) wc w7) => refopen_any R h d ba' sz' w7 (tt_code hp' ht).1 (tt_code hp' ht).2.1 HFT.out HMX.out)
        clear hp' HP HCAP HFT HMX
        generalize open_ d ba' sz' = r at *
        go_wp2_with fail
        refine HOA.out.mono ?_
        intro e w7 h7
        unfold Opened at h7
        cases hrl : r.l with
        | none =>
          rw [hrl] at h7
          obtain ⟨rfl, ⟨F7, hd7, hF7⟩, ht7⟩ := h7
          have HT7 := Lib.hid ht7
          have HD7 := Lib.hid hd7
          have HF7 := Lib.hid hF7
          have HC := Lib.hid (HDB.out w7 ht7)
          clear hd7 hF7 ht7 HOA HDB HRUN
          go_wp2_with fail
          refine HC.out.mono ?_
          intro e w8 h8
          unfold ROpened at h8
          rw [hrl] at h8
          obtain ⟨rfl, hr8, ht8⟩ := h8
          have HR8 := Lib.hid hr8
          have HD8 := Lib.hid (hd7_keep HD7.out HF7.out HP6.out ht8)
          have HB8 := Lib.hid (tt_doc HP6.out HT7.out ht8)
          clear hr8 ht8 HC HD7 HF7 HT7 hrl
          have hee : (r.e != r.e) = false := by simp
          generalize r.d = d8 at *
          generalize r.e = e8 at *
          go_wp2_with fail
          refine (disks_any F7 _ g h d8 w8 HD8.out HR8.out HCP.out).mono ?_
          rintro e w9 ⟨rfl, hb9⟩
          have HB9 := Lib.hid (held_two HB8.out hb9)
          clear hb9
          go_wp2
          go_ret
          exact ⟨rfl, HB9.out⟩
        | some l =>
          rw [hrl] at h7
          obtain ⟨y, rfl, ⟨F7, G7, hd7, hl7, _, hF7, hG7⟩, hok7, ht7⟩ := h7
          have HT7 := Lib.hid ht7
          have HD7 := Lib.hid hd7
          have HL7 := Lib.hid hl7
          have HF7 := Lib.hid hF7
          have HG7 := Lib.hid hG7
          have HOK := Lib.hid hok7
          have HC := Lib.hid (HDB.out w7 ht7)
          have HRN := Lib.hid (HRUN.out l hrl)
          clear hd7 hl7 hF7 hG7 hok7 ht7 HOA HDB HRUN
          go_wp2_with fail
          refine HC.out.mono ?_
          intro e w8 h8
          unfold ROpened at h8
          rw [hrl] at h8
          obtain ⟨z, GR, rfl, hlr, hr8, ht8⟩ := h8
          have HR8 := Lib.hid hr8
          have HLR := Lib.hid hlr
          have HD8 := Lib.hid (hd7_keep HD7.out HF7.out HP6.out ht8)
          have HL8 : Hid (LogAt G7 w8 y g l) := HL7.out.keep ht8.size fun i hi hg => ht8.block i hi (tt_off HP6.out (HG7.out i hg).1)
          have HB8 := Lib.hid (tt_doc HP6.out HT7.out ht8)
          clear hr8 hlr ht8 HC HD7 HF7 HT7 HL7 HG7 hrl
          generalize r.d = d8 at *
          go_wp2_with fail
          refine (disks_any F7 _ g h d8 w8 HD8.out HR8.out HCP.out).mono ?_
          rintro e w9 ⟨rfl, hb9⟩
          have HB9 := Lib.hid (held_two HB8.out hb9)
          have HL9 := Lib.hid (HL8.out.new hb9)
          have HLR9 := Lib.hid (HLR.out.new hb9)
          clear hb9
          go_wp2_with fail
          refine (logs_any G7 GR y g z h l l.base l.size w9 HL9.out HLR9.out HOK.out HRN.out.2 HRN.out.1).mono ?_
          rintro e w10 ⟨rfl, hb10⟩
          have HB10 := Lib.hid (held_two HB9.out hb10)
          clear hb10
          go_wp2
          go_ret
          exact ⟨rfl, HB10.out⟩)
end Go.Proofs.YtedfddnbgljcjaaGreat.Opens
