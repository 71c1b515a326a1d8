/-
  The document's log: contract of Open.
-/
import Derived.Test.YtedfddnbgljcjaaGreatRefLog
import Derived.Test.YtedfddnbgljcjaaGreatRegionLast
import Derived.Deep.DeepCutAuto
import Derived.BigQuiet
namespace Go.Proofs.YtedfddnbgljcjaaGreat.RLog
set_option linter.unusedVariables false
set_option maxRecDepth 100000
open Go.RowKit Base WalMath Last
open Go.Proofs.YtedfddnbgljcjaaGreat.Wal (Sp kept_type other_block ListsIn.exact sread_ok)
open Go.Proofs.YtedfddnbgljcjaaGreat.Disk (Turn Out I64 Fits own_same own_type)
open Go.Proofs.YtedfddnbgljcjaaGreat.Ref (RefAt RHead RHead.cells RBody RRow BAt Bl fcell fcells ef fcells_get RDone)
open Go.Proofs.YtedfddnbgljcjaaGreat.Seg (SegRead)
open DiskMath (Fl Dk)
set_option linter.ambiguousOpen false
set_option linter.unusedSimpArgs false

theorem push_far {G : Nat → Prop} {w w1 : World} {g h n c : Nat} {segs : List Sg} {ba sz : Int} {A : Option Addr} {qs : List (Sg × Sp)} (h' : RLaid G w g h segs ba sz A n c qs) {A' : Option Addr} {c' : Nat} (hg : Grew w (Value.slice A n c).ownBlock w1 (.slice A' (n + 1) c')) (v : Value) :
    ∀ (i : Nat) (cur : Array Value) (e : TypeId), e ≠ 91 → e ≠ 86 → w.heap[i]? = some (.cells cur e (0, 0)) → (w1.setCell ⟨g, 3, none⟩ v).heap[i]? = w.heap[i]? := by
  obtain ⟨h1, h2, h3, h4, h5, h6⟩ := h'
  have hk : ∀ (i : Nat) (cur : Array Value) (e : TypeId), e ≠ 91 → w.heap[i]? = some (.cells cur e (0, 0)) → w1.heap[i]? = some (.cells cur e (0, 0)) := fun i cur e hne hi => kept_type hg.1 (fun b hb => own_type h4 hb) hne hi
  have hbk : Blk w1 g 86 _ := hk g _ _ (by decide) h2
  exact fun i cur e hne hne2 hi => (other_block (p := ⟨g, 3, none⟩) hbk (hk i cur e hne hi) hne2).trans hi.symm
/-- where the walk over the files stands -/
def At (f0 : Int) (fs : List Fl) (n j : Nat) (acc : List Sg) (nx : Int) (r : Option (List Sg)) : Prop :=
  (WalMath.load f0 j acc (fs.drop j) = r ∧ acc.length = j ∧ (∀ (k : Nat) (x : Fl), k < j → fs[k]? = some x → x.id = f0 + k) ∧ (0 < j → nx = hd acc + 1)) ∨ (j = n ∧ r = some acc ∧ acc.length + 1 = n)
def OpRel (w : World) (q g : Nat) (ba sz : Int) (fs : List Fl) (bl : Int → Bl) (A9 : Option Addr) (n c9 : Nat) (f0 : Int) (r : Option (List Sg)) (vi vn : Value) (wr : World) : Prop :=
  ∃ (j : Nat) (acc : List Sg) (nx : Int) (G : Nat → Prop), vi = .int .i64 j ∧ vn = .int .i64 nx ∧ j ≤ n ∧ RLogAt G wr g q acc ba sz ∧ (∀ i, G i → w.heap.size ≤ i ∧ i < wr.heap.size) ∧ wr.ownsRow w.heap.size 79 3 (.slice A9 n c9) n (fcells fs bl) ∧ Below w.heap.size w wr ∧ At f0 fs n j acc nx r
theorem RLogAt.fresh {w : World} {h : Nat} {ba sz : Int} : RLogAt (fun i => i = w.heap.size) (w.alloc (.cells #[.pointer (some ⟨h, 0, none⟩), .int .i64 ba, .int .i64 sz, .slice none 0 0, .int .i64 (-1)] 86)) w.heap.size h [] ba sz :=
  ⟨none, 0, 0, [], rfl, Blk.new _ _ _, rfl, World.ownsRow_nil _ _ _ _, fun b hb => (by cases hb), fun x hx => by cases hx⟩
/-- the place of a file in the row that own handed out -/
theorem file_at {w : World} {base : Nat} {fs : List Fl} {bl : Int → Bl} {A : Option Addr} {n c : Nat} (ho : w.ownsRow base 79 3 (.slice A n c) n (fcells fs bl)) {k : Nat} {x : Fl} (hx : fs[k]? = some x) (hk : k < n) :
    ∃ b, A = some ⟨b, 0, none⟩ ∧ base ≤ b ∧ (∃ cur, w.heap[b]? = some (.cells cur 79 (0, 0))) ∧ w.cell? ⟨b, k * 3, none⟩ = some (.int .i64 x.id) ∧ w.cell? ⟨b, k * 3 + 1, none⟩ = some (.int .i64 x.safe) ∧ w.cell? ⟨b, k * 3 + 2, none⟩ = some (.slice (bl x.id).A x.b.length (bl x.id).c) := by
  have hrow := Row.of_own ho
  obtain ⟨b, off, e, hb, hc⟩ := hrow.2.2.2 (by omega)
  have e0 : off = 0 := by
    rcases ho.2 with ⟨hv, _⟩ | ⟨b', cap, cur, hv, _⟩
    · simp only [Value.slice.injEq] at hv; omega
    · simp only [Value.slice.injEq] at hv
      rw [e] at hv
      have := hv.1
      injection this with this
      injection this
  subst e0
  have hcell : ∀ j, j < 3 → ∀ u, (fcell bl x)[j]? = some u → w.cell? ⟨b, k * 3 + j, none⟩ = some u := fun j hj u hu => by
    have := hc (k * 3 + j) u (by rw [fcells_get hx j hj]; exact hu)
    rwa [Nat.zero_add] at this
  exact ⟨b, e, (ho.lt b (by rw [e]; rfl)).1, own_type ho (by rw [e]; rfl), hcell 0 (by omega) _ rfl, hcell 1 (by omega) _ rfl, hcell 2 (by omega) _ rfl⟩
/-- what Open answers -/
def ROpened (F : Nat → Prop) (w : World) (h : Nat) (r : WalMath.Op) (e : Ending) (w' : World) : Prop := match r.l with
  | none => e = .returned (.tuple #[.pointer none, .int .i64 r.e]) ∧ RefAt (Out F w w') w' h r.d ∧ Turn F w w'
  | some l => ∃ g G, e = .returned (.tuple #[.pointer (some ⟨g, 0, none⟩), .int .i64 0]) ∧ RLogAt G w' g h l.segs l.base l.size ∧ RefAt (Out F w w') w' h r.d ∧ Turn F w w'
theorem RefAt.out {F : Nat → Prop} {w w' : World} {h : Nat} {d : Dk} (hr : RefAt F w h d) (hb : Below w.heap.size w w') : RefAt (Out F w w') w' h d := (hr.new hb).mono fun i hi => .inl hi

set_option maxHeartbeats 1600000 in
theorem refopen_no (F : Nat → Prop) (h : Nat) (d : Dk) (ba sz : Int) (w : World) (hr : RefAt F w h d) (hb : ba < 0 ∨ 12288 < ba ∨ sz < 64 ∨ 65536 < sz) :
    Calls Tryz.prog 13 #[.pointer (some ⟨h, 0, none⟩), .int .i64 ba, .int .i64 sz] w (ROpened F w h (open_ d ba sz)) := by
  have HE := Lib.hid (show open_ d ba sz = ⟨1, none, d⟩ by unfold open_; rw [if_pos hb])
  have HD := Lib.hid hr
  clear hr
  have fin : ROpened F w h (open_ d ba sz) (.returned (.tuple #[.pointer none, .int .i64 1])) w := by
    rw [HE.out]
    exact ⟨rfl, RefAt.out HD.out (Below.refl _ _), Turn.refl _ _⟩
  have FIN := Lib.hid fin
  clear fin
  by_cases h1 : ba < 0
  · clear hb
    go_enter Tryz.func13, Tryz.ntmps13
    go_wp2
    go_ret2
    exact FIN.out
  · by_cases h2 : 12288 < ba
    · clear hb
      go_enter Tryz.func13, Tryz.ntmps13
      go_wp2
      go_ret2
      exact FIN.out
    · by_cases h3 : sz < 64
      · clear hb
        go_enter Tryz.func13, Tryz.ntmps13
        go_wp2
        go_ret2
        exact FIN.out
      · have h4 : 65536 < sz := by omega
        clear hb
        go_enter Tryz.func13, Tryz.ntmps13
        go_wp2
        go_ret2
        exact FIN.out

theorem fin_turn {F : Nat → Prop} {w W w' : World} {h : Nat} {d' : Dk} (hb : Below w.heap.size w W) (ht : Turn F W w') (hr : RefAt (Out F W w') w' h d') : RefAt (Out F w w') w' h d' ∧ Turn F w w' :=
  ⟨hr.mono fun i hi => by
    rcases hi with hi | hi
    · exact .inl hi
    · exact .inr ⟨Nat.le_trans hb.size hi.1, hi.2⟩, (Turn.new (F := F) hb).trans ht fun _ h => .inl h⟩
theorem log_turn {F G : Nat → Prop} {W w' : World} {g h : Nat} {segs : List Sg} {ba sz : Int} (hl : RLogAt G W g h segs ba sz) (ht : Turn F W w') (hFG : ∀ i, F i → ¬ G i) : RLogAt G w' g h segs ba sz := hl.keep ht.size fun i hi hg => ht.block i hi fun hf => hFG i hf hg

set_option maxHeartbeats 12800000 in
theorem refopen_yes (F : Nat → Prop) (h : Nat) (d : Dk) (ba sz : Int) (w : World) (hr : RefAt F w h d) (hF : ∀ i, F i → i < w.heap.size) (hf : Fits d) (hM : ∀ x ∈ d.files, x.b.length ≤ 35184372088832) (hb : ¬ (ba < 0 ∨ 12288 < ba ∨ sz < 64 ∨ 65536 < sz)) :
    Calls Tryz.prog 13 #[.pointer (some ⟨h, 0, none⟩), .int .i64 ba, .int .i64 sz] w (ROpened F w h (open_ d ba sz)) := by
  have HD := Lib.hid hr
  have HF := Lib.hid hF
  have HFT := Lib.hid hf
  have HM := Lib.hid hM
  have hup := hr.up
  generalize hop : open_ d ba sz = r
  have HOP := Lib.hid (show r = if d.off then ⟨8, none, d⟩ else match loads (own d ba) with
    | none => ⟨3, none, d⟩
    | some segs => mended ba sz segs (mend d (own d ba) segs) by rw [← hop]; unfold open_; rw [if_neg hb]; rfl)
  clear hop
  have h1 : decide (ba < 0) = false := by simp; omega
  have h2 : decide (12288 < ba) = false := by simp; omega
  have h3 : decide (sz < 64) = false := by simp; omega
  have h4 : decide (65536 < sz) = false := by simp; omega
  have hb0 : 0 ≤ ba := by omega
  have hb1 : ba ≤ 12288 := by omega
  obtain ⟨A, c, bl, hh, hFh, hbd⟩ := hr
  have HFS : Hid (∀ x ∈ own d ba, DiskMath.seek d.files x.id = some x ∧ 0 ≤ x.id ∧ x.id < 16384 ∧ x.b.length ≤ 35184372088832) := fun x hx => by
    have hx2 := (List.mem_filter.1 hx).1
    have := hup.mem x hx2
    exact ⟨DiskMath.seek_of hup hx2, this.1, this.2.1, hM x hx2⟩
  have HN : Hid ((own d ba).length ≤ 16384) := Nat.le_trans (List.length_filter_le _ _) hup.le
  have HBD : Hid (∀ wx x, Below w.heap.size w wx → x ∈ own d ba → Bytes wx w.heap.size (bl x.id).A x.b.length (bl x.id).c x.b) := fun wx x hx hxm => (BAt.bytes (hbd.2.2.1 x (List.mem_filter.1 hxm).1)).below hx
  have HHH := Lib.hid hh
  have HBB := Lib.hid hbd
  have d2 : w.cell? ⟨h, 2, none⟩ = some (.bool d.off) := hh.cells.2.2.1
  clear hb hup hF hf hM hh hbd hFh
  cases hoff : d.off with
  | true =>
    have HE := Lib.hid (show r = ⟨8, none, d⟩ by rw [HOP.out, hoff]; rfl)
    rw [hoff] at d2
    clear hoff
    go_enter Tryz.func13, Tryz.ntmps13
    go_wp2
    go_ret2
    rw [HE.out]
    exact ⟨rfl, RefAt.out HD.out (Below.refl _ _), Turn.refl _ _⟩
  | false =>
    have HOP2 := Lib.hid (show r = match loads (own d ba) with
      | none => ⟨3, none, d⟩
      | some segs => mended ba sz segs (mend d (own d ba) segs) by rw [HOP.out, hoff]; rfl)
    rw [hoff] at d2
    clear hoff HOP
    have HL0 := Lib.hid (RLogAt.fresh (w := w) (h := h) (ba := ba) (sz := sz))
    have HBl : Hid (Below w.heap.size w (w.alloc (.cells #[.pointer (some ⟨h, 0, none⟩), .int .i64 ba, .int .i64 sz, .slice none 0 0, .int .i64 (-1)] 86))) := (Below.refl _ _).alloc (Nat.le_refl _) _
    have HZ0 : Hid ((w.alloc (.cells #[.pointer (some ⟨h, 0, none⟩), .int .i64 ba, .int .i64 sz, .slice none 0 0, .int .i64 (-1)] 86)).heap.size = w.heap.size + 1) := by show _ = _; rw [World.size_alloc]
    go_enter Tryz.func13, Tryz.ntmps13
    go_wp2_with fail
    generalize w.alloc (.cells #[.pointer (some ⟨h, 0, none⟩), .int .i64 ba, .int .i64 sz, .slice none 0 0, .int .i64 (-1)] 86) = W at HL0 HBl HZ0 ⊢
    have HGW : Hid (∀ i, i = w.heap.size → w.heap.size ≤ i ∧ i < W.heap.size) := fun i hi => by have := HZ0.out; omega
    generalize hgg : w.heap.size = g at HL0 HGW ⊢
    have HGG := Lib.hid hgg
    clear hgg
    have hhW : RHead W h d A d.files.length c := (HBl.out.block h (Blk.lt HHH.out)).trans HHH.out
    have hbW : RBody W F d.files A c bl := HBB.out.keep fun i o hi ho _ => (HBl.out.block i (HF.out i hi)).trans ho
    refine (own_any F h d A c bl ba W hhW hbW hb0 hb1).mono ?_
    rintro e w2 ⟨A9, c9, rfl, hown, hb2⟩
    have HOW := Lib.hid (own_mono hown HBl.out.size)
    have HL2 := Lib.hid (HL0.out.new hb2)
    have HB2 := Lib.hid (held_two HBl.out hb2)
    have HG2 : Hid (∀ i, i = g → w.heap.size ≤ i ∧ i < w2.heap.size) := fun i hi => by
      have a := HGW.out i hi
      have b := HGG.out
      have c := hb2.size
      omega
    clear hhW hbW hown hb2 HHH HBB HL0 HBl HZ0 HGW HGG d2
    have HLE := Lib.hid (Wal.loads_eq (own d ba))
    generalize own d ba = fs at *
    generalize hf0 : (fs.map (·.id)).getD 0 0 = f0 at HLE
    have HF0 := Lib.hid hf0
    generalize hrs : loads fs = rs at HOP2 HLE
    have HRS : Hid (WalMath.load f0 0 [] fs = rs) := HLE.out.symm
    generalize hn : fs.length = n at *
    have HFN := Lib.hid hn
    have hn16 : n ≤ 16384 := HN.out
    clear hf0 hrs hn HLE HN
    go_wp2
    go_loopw [11, 10, 12, 13, 14, 15, 16, 17] (fun vi vn _ _ _ _ _ _ wr => OpRel w h g ba sz fs bl A9 n c9 f0 rs vi vn wr) (fun vi _ _ _ _ _ _ _ _ => n - (intOf vi).toNat)
    case atStart => exact ⟨0, [], 0, _, rfl, rfl, Nat.zero_le _, HL2.out, HG2.out, HOW.out, HB2.out, .inl ⟨HRS.out, rfl, fun k x hk => absurd hk (Nat.not_lt_zero _), fun h => absurd h (Nat.lt_irrefl _)⟩⟩
    case round =>
      obtain ⟨j, acc, nx, G, rfl, rfl, hj, hlog, hG, hown, hbw, hat⟩ := hrel
      have HLOG := Lib.hid hlog
      have HG := Lib.hid hG
      have HOWN := Lib.hid hown
      have HBW := Lib.hid hbw
      clear hlog hG hown hbw HL2 HG2 HOW HB2
      by_cases hjn : j < n
      · obtain ⟨hload, hacc, hids, hnx⟩ : WalMath.load f0 j acc (fs.drop j) = rs ∧ acc.length = j ∧ (∀ (k : Nat) (x : Fl), k < j → fs[k]? = some x → x.id = f0 + k) ∧ (0 < j → nx = hd acc + 1) := by
          rcases hat with h | ⟨h, _⟩
          · exact h
          · omega
        have hjl : j < fs.length := by rw [HFN.out]; exact hjn
        obtain ⟨x, hxe⟩ : ∃ x, x = fs[j] := ⟨_, rfl⟩
        have hx : fs[j]? = some x := by rw [hxe]; exact List.getElem?_eq_getElem hjl
        have hdr : fs.drop j = x :: fs.drop (j + 1) := by rw [hxe]; exact List.drop_eq_getElem_cons hjl
        have hrl : (fs.drop (j + 1)).length = n - (j + 1) := by rw [List.length_drop, HFN.out]
        rw [hdr] at hload
        have HLOAD := Lib.hid hload
        have HACC := Lib.hid hacc
        have HIDS := Lib.hid hids
        have HNX := Lib.hid hnx
        have HRL := Lib.hid hrl
        have HX := Lib.hid hx
        obtain ⟨hsk, hid0, hid1, hxl⟩ := HFS.out x (List.mem_of_getElem? hx)
        obtain ⟨b9, rfl, hb9, ht9, y0, y1, y2⟩ := file_at HOWN.out hx hjn
        have HT9 := Lib.hid (And.intro hb9 ht9)
        have HBX := Lib.hid (fun wx (hx2 : Below w.heap.size w wx) => HBD.out wx x hx2 (List.mem_of_getElem? hx))
        have l0 : (j : Int) < (n : Int) := by omega
        clear hat hload hacc hids hnx hxe hx hdr hrl hb9 ht9 hjl hsk
        go_upto_region 12 with fail
        have HX3 := Lib.hid (Blk.new wr 79 #[.int .i64 x.id, .int .i64 x.safe, .slice (bl x.id).A x.b.length (bl x.id).c])
        have HB3 : Hid (Below wr.heap.size wr (wr.alloc (.cells #[.int .i64 x.id, .int .i64 x.safe, .slice (bl x.id).A x.b.length (bl x.id).c] 79))) := (Below.refl _ _).alloc (Nat.le_refl _) _
        generalize wr.alloc (.cells #[.int .i64 x.id, .int .i64 x.safe, .slice (bl x.id).A x.b.length (bl x.id).c] 79) = W3 at HX3 HB3 ⊢
        generalize hs1 : wr.heap.size = s1 at HX3 ⊢
        have HS1 := Lib.hid hs1
        clear hs1
        have k0 : W3.cell? ⟨s1, 0, none⟩ = some (.int .i64 x.id) := HX3.out.cell 0
        have k2 : W3.cell? ⟨s1, 2, none⟩ = some (.slice (bl x.id).A x.b.length (bl x.id).c) := HX3.out.cell 2
        obtain ⟨bq, hbq⟩ : ∃ bq, bq = (x.id != f0 + (j : Int)) := ⟨_, rfl⟩
        have HBQ := Lib.hid hbq
        clear hbq
        go_cut [70] (fun v wx => v = .bool bq ∧ ∃ m, wx = W3.drewN m)
        case first =>
          by_cases hj0 : j = 0
          · have hbf : bq = false := by
              have h1 := HF0.out
              have h2 := HX.out
              rw [hj0] at h2
              rw [List.getD_eq_getElem?_getD, List.getElem?_map, h2] at h1
              rw [HBQ.out, hj0]
              have h3 : x.id = f0 := h1
              simp [h3]
            have hz : decide ((0 : Int) < (j : Int)) = false := by simp; omega
            have hzn : decide (0 < j) = false := decide_eq_false (by omega)
            go_quiet (fail)
            go_wp2
            go_meet
            exact ⟨by rw [hbf], _, rfl⟩
          · obtain ⟨y, hy⟩ : ∃ y, fs[j - 1]? = some y := ⟨_, List.getElem?_eq_getElem (by rw [HFN.out]; omega)⟩
            have hyi := HIDS.out (j - 1) y (by omega) hy
            obtain ⟨_, e9, _, _, z0, _, _⟩ := file_at HOWN.out hy (by omega)
            simp only [Option.some.injEq, Addr.mk.injEq, and_true] at e9
            subst e9
            have z3 : W3.cell? ⟨b9, (j - 1) * 3, none⟩ = some (.int .i64 y.id) := held_cell HB3.out z0
            obtain ⟨_, hq0, hq1, _⟩ := HFS.out y (List.mem_of_getElem? hy)
            have hbf : (x.id != y.id + 1) = bq := by
              rw [HBQ.out, hyi]
              congr 1
              omega
            have hz : decide ((0 : Int) < (j : Int)) = true := by simp; omega
            have hzn : decide (0 < j) = true := decide_eq_true (by omega)
            have hwj : IntKind.i64.wrap ((j : Int) - 1) = (j : Int) - 1 := IntWalk.i64_in _ (by omega)
            have hwy : IntKind.i64.wrap (y.id + 1) = y.id + 1 := IntWalk.i64_in _ (by omega)
            have hlj : (j : Int) - 1 < (n : Int) := by omega
            have hlj0 : (0 : Int) ≤ (j : Int) - 1 := by omega
            have htn : ((j : Int) - 1).toNat = j - 1 := by omega
            clear hy hyi z0
            go_quiet (fail)
            go_wp2
            go_meet
            exact ⟨rfl, _, rfl⟩
        case rest =>
        obtain ⟨rfl, m3, rfl⟩ := hcut
        have HBWA : Hid (Below w.heap.size w (W3.drewN m3)) := below_drewN (held_two HBW.out HB3.out) m3
        have HBRA : Hid (Below wr.heap.size wr (W3.drewN m3)) := below_drewN HB3.out m3
        replace k0 : (W3.drewN m3).cell? ⟨s1, 0, none⟩ = some (.int .i64 x.id) := k0
        replace k2 : (W3.drewN m3).cell? ⟨s1, 2, none⟩ = some (.slice (bl x.id).A x.b.length (bl x.id).c) := k2
        have HXA : Hid (Blk (W3.drewN m3) s1 _ _) := HX3.out.drewN m3
        clear HX3 HB3
        generalize W3.drewN m3 = wa at *
        have hlo := HLOAD.out
        unfold WalMath.load at hlo
        rw [HRL.out] at hlo
        cases bq with
        | true =>
          have HE := Lib.hid (show r = ⟨3, none, d⟩ by
            have h1 : x.id ≠ f0 + (j : Int) := by simpa using HBQ.out.symm
            rw [if_pos h1] at hlo
            rw [HOP2.out, ← hlo])
          clear hlo
          go_wp2
          go_ret2
          rw [HE.out]
          exact ⟨rfl, RefAt.out HD.out HBWA.out, Turn.new HBWA.out⟩
        | false =>
          have hidf : x.id = f0 + (j : Int) := by simpa using HBQ.out.symm
          rw [if_neg (by simpa using hidf)] at hlo
          have HLO := Lib.hid hlo
          have HID := Lib.hid hidf
          clear hlo hidf HLOAD HBQ
          go_wp2_with fail
          refine (Seg.refsegread_any w.heap.size (bl x.id).A x.b.length (bl x.id).c x.b wa (HBX.out wa HBWA.out) HBWA.out.size hxl).mono ?_
          rintro e w4 ⟨A1, c1, rfl, hls, hb4⟩
          have HLS := Lib.hid hls
          have HB4 := Lib.hid (held_two HBWA.out hb4)
          have HBR4 := Lib.hid (held_two HBRA.out hb4)
          have HSA := Lib.hid hb4.size
          have HSAW := Lib.hid HBRA.out.size
          replace k0 := held_cell hb4 k0
          replace k2 := held_cell hb4 k2
          have HXB := Lib.hid (HXA.out.below hb4 HXA.out.lt)
          have HSO := Lib.hid (sread_ok (b := x.b))
          have HSGO : Hid (segOf x = ⟨x.id, (SegMath.sread x.b).x, (SegMath.sread x.b).rows, (SegMath.sread x.b).n⟩) := Lib.hid rfl
          generalize hsr : SegMath.sread x.b = sr at *
          obtain ⟨rx, rr, rn, re⟩ := sr
          dsimp only at *
          clear hls hb4 hsr HXA HBWA HBRA
          generalize hrln : rr.length = rl at *
          have HRLN := Lib.hid hrln
          clear hrln
          generalize hbl : x.b.length = xl at *
          have HBLN := Lib.hid hbl
          clear hbl
          generalize (bl x.id).A = A8 at *
          generalize (bl x.id).c = c8 at *
          obtain ⟨wb, hwb⟩ : ∃ wb, wb = decide (re = 0 ∧ rn = xl ∧ 0 < rl) := ⟨_, rfl⟩
          have HWB := Lib.hid hwb
          clear hwb
          go_upto_region 15 with fail
          go_cut [17] (fun v wx => v = .bool wb ∧ w4 = wx)
          case first =>
            by_cases g1 : re = 0
            · have f1 : ((re : Int) == 0) = true := by simp; omega
              by_cases g2 : rn = xl
              · have f2 : ((rn : Int) == (xl : Int)) = true := by simp; omega
                by_cases g3 : 0 < rl
                · have f3 : decide (0 < rl) = true := decide_eq_true g3
                  have hw : wb = true := by rw [HWB.out]; exact decide_eq_true ⟨g1, g2, g3⟩
                  clear g1 g2 g3
                  go_wp2
                  go_meet
                  exact ⟨by first | rw [hw] | rw [hw, f3], rfl⟩
                · have f3 : decide (0 < rl) = false := decide_eq_false g3
                  have hw : wb = false := by rw [HWB.out]; exact decide_eq_false (fun h => g3 h.2.2)
                  clear g1 g2 g3
                  go_wp2
                  go_meet
                  exact ⟨by first | rw [hw] | rw [hw, f3], rfl⟩
              · have f2 : ((rn : Int) == (xl : Int)) = false := by simp; omega
                have hw : wb = false := by rw [HWB.out]; exact decide_eq_false (fun h => g2 h.2.1)
                clear g1 g2
                go_wp2
                go_meet
                exact ⟨by rw [hw], rfl⟩
            · have f1 : ((re : Int) == 0) = false := by simp; omega
              have hw : wb = false := by rw [HWB.out]; exact decide_eq_false (fun h => g1 h.1)
              clear g1
              go_wp2
              go_meet
              exact ⟨by rw [hw], rfl⟩
          case rest =>
          obtain ⟨rfl, rfl⟩ := hcut
          obtain ⟨cb, hcb⟩ : ∃ cb, cb = decide ((j + 1 < n ∧ wb = false) ∨ (re = 0 ∧ 0 < j ∧ rx ≠ nx)) := ⟨_, rfl⟩
          have HCB := Lib.hid hcb
          clear hcb
          have hwn : IntKind.i64.wrap ((n : Int) - 1) = (n : Int) - 1 := IntWalk.i64_in _ (by omega)
          go_upto_region 16 with fail
          go_cut [114] (fun v wx => v = .bool cb ∧ w4 = wx)
          case first =>
            by_cases g0 : j + 1 < n ∧ wb = false
            · obtain ⟨g0, rfl⟩ := g0
              have f0 : decide ((j : Int) < (n : Int) - 1) = true := by simp; omega
              have hw : cb = true := by rw [HCB.out]; exact decide_eq_true (.inl ⟨g0, rfl⟩)
              go_wp2
              go_meet
              exact ⟨by rw [hw], rfl⟩
            · have hfst : (decide ((j : Int) < (n : Int) - 1) = false) ∨ (decide ((j : Int) < (n : Int) - 1) = true ∧ wb = true) := by
                by_cases g : j + 1 < n
                · refine .inr ⟨by simp; omega, ?_⟩
                  cases wb with
                  | true => rfl
                  | false => exact absurd ⟨g, rfl⟩ g0
                · exact .inl (by simp; omega)
              have hsnd : cb = decide (re = 0 ∧ 0 < j ∧ rx ≠ nx) := by
                rw [HCB.out]
                by_cases g : re = 0 ∧ 0 < j ∧ rx ≠ nx
                · rw [decide_eq_true g, decide_eq_true (.inr g)]
                · rw [decide_eq_false g, decide_eq_false (fun h => h.elim g0 g)]
              clear g0
              by_cases g1 : re = 0
              · have f1 : ((re : Int) == 0) = true := by simp; omega
                by_cases g2 : 0 < j
                · have f2 : decide (0 < j) = true := decide_eq_true g2
                  have f3 : (rx != nx) = cb := by
                    rw [hsnd]
                    by_cases g3 : rx = nx
                    · subst g3; simp
                    · rw [decide_eq_true ⟨g1, g2, g3⟩]; simpa using g3
                  clear g1 g2 hsnd
                  rcases hfst with f0 | ⟨f0, rfl⟩
                  · go_wp2
                    go_meet
                    exact ⟨rfl, rfl⟩
                  · go_wp2
                    go_meet
                    exact ⟨rfl, rfl⟩
                · have f2 : decide (0 < j) = false := decide_eq_false g2
                  have hw : cb = false := by rw [hsnd]; exact decide_eq_false (fun h => g2 h.2.1)
                  clear g1 g2 hsnd
                  rcases hfst with f0 | ⟨f0, rfl⟩
                  · go_wp2
                    go_meet
                    exact ⟨by rw [hw], rfl⟩
                  · go_wp2
                    go_meet
                    exact ⟨by rw [hw], rfl⟩
              · have f1 : ((re : Int) == 0) = false := by simp; omega
                have hw : cb = false := by rw [hsnd]; exact decide_eq_false (fun h => g1 h.1)
                clear g1 hsnd
                rcases hfst with f0 | ⟨f0, rfl⟩
                · go_wp2
                  go_meet
                  exact ⟨by rw [hw], rfl⟩
                · go_wp2
                  go_meet
                  exact ⟨by rw [hw], rfl⟩
          case rest =>
          obtain ⟨rfl, rfl⟩ := hcut
          have hlo := HLO.out
          have hcb := HCB.out
          have hwb := HWB.out
          have hso := HSO.out
          have hgo : goesOn acc (segOf x) = ((decide (j = 0) || decide (rx = hd acc + 1)) && decide (rx + (rl : Int) - 1 ≤ 1099511627776)) := by
            rw [HSGO.out]
            unfold goesOn last
            dsimp only
            rw [HACC.out, HRLN.out]
          have hwh : isWhole (segOf x) xl = (decide (0 < rl) && !decide (rn < xl)) := by
            rw [HSGO.out]
            unfold isWhole
            dsimp only
            rw [HRLN.out]
          cases cb with
          | true =>
            have HE := Lib.hid (show r = ⟨3, none, d⟩ by
              have hn : rs = none := by
                rw [← hlo]
                rcases of_decide_eq_true hcb.symm with ⟨h1, h2⟩ | ⟨h1, h2, h3⟩
                · rw [if_neg (fun h => by omega)]
                  by_cases hre : re = 0
                  · rw [if_pos]
                    refine .inr (.inr ⟨by omega, ?_⟩)
                    rw [hwh]
                    rw [h2] at hwb
                    have h5 := of_decide_eq_false hwb.symm
                    have h6 := (hso hre).2.2.1
                    by_cases h7 : 0 < rl
                    · have h8 : rn ≠ xl := fun e => h5 ⟨hre, e, h7⟩
                      rw [decide_eq_true h7, decide_eq_true (show rn < xl by omega)]
                      rfl
                    · rw [decide_eq_false h7]
                      rfl
                  · rw [if_pos (.inl hre)]
                · rw [if_neg (fun h => h.2 h1), if_pos]
                  refine .inr (.inl ?_)
                  rw [hgo, decide_eq_false (show ¬ j = 0 by omega), decide_eq_false (show ¬ rx = hd acc + 1 from fun e => h3 (e.trans (HNX.out h2).symm))]
                  rfl
              rw [HOP2.out, hn])
            clear hlo hcb hwb hso hgo hwh
            go_wp2
            go_ret2
            rw [HE.out]
            exact ⟨rfl, RefAt.out HD.out HB4.out, Turn.new HB4.out⟩
          | false =>
            have hnc := of_decide_eq_false hcb.symm
            by_cases hre : re = 0
            · have f1 : ((re : Int) != 0) = false := by simp; omega
              obtain ⟨q1, q2, q3, q4, q5⟩ := hso hre
              have w1 : IntKind.i64.wrap (rx - 1) = rx - 1 := IntWalk.i64_in _ (by omega)
              have w2' : IntKind.i64.wrap (rx - 1 + (rl : Int)) = rx - 1 + rl := IntWalk.i64_in _ (by omega)
              have w3' : IntKind.i64.wrap (rx + (rl : Int)) = rx + rl := IntWalk.i64_in _ (by omega)
              by_cases hmx : 1099511627776 < rx - 1 + (rl : Int)
              · have f2 : decide ((1099511627776 : Int) < rx - 1 + (rl : Int)) = true := decide_eq_true hmx
                have HE := Lib.hid (show r = ⟨3, none, d⟩ by
                  have hn : rs = none := by
                    rw [← hlo, if_neg (fun h => h.2 hre), if_pos]
                    refine .inr (.inl ?_)
                    rw [hgo, decide_eq_false (show ¬ rx + (rl : Int) - 1 ≤ 1099511627776 by omega), Bool.and_false]
                  rw [HOP2.out, hn])
                clear hlo hcb hwb hso hgo hwh hmx hre hnc q5
                go_wp2
                go_ret2
                rw [HE.out]
                exact ⟨rfl, RefAt.out HD.out HB4.out, Turn.new HB4.out⟩
              · have f2 : decide ((1099511627776 : Int) < rx - 1 + (rl : Int)) = false := decide_eq_false hmx
                have hnew : WalMath.load f0 (j + 1) (acc ++ [segOf x]) (fs.drop (j + 1)) = rs := by
                  rw [← hlo, if_neg (fun h => h.2 hre), if_neg]
                  rintro (h | h | ⟨h, h'⟩)
                  · exact h hre
                  · rw [hgo, decide_eq_true (show rx + (rl : Int) - 1 ≤ 1099511627776 by omega), Bool.and_true] at h
                    simp only [Bool.or_eq_false_iff, decide_eq_false_iff_not] at h
                    exact hnc (.inr ⟨hre, by omega, fun e => h.2 (e.trans (HNX.out (by omega)))⟩)
                  · rw [hwh] at h'
                    cases wb with
                    | true =>
                      obtain ⟨_, h5, h6⟩ := of_decide_eq_true hwb.symm
                      rw [decide_eq_true h6, decide_eq_false (show ¬ rn < xl by omega)] at h'
                      cases h'
                    | false => exact hnc (.inl ⟨by omega, rfl⟩)
                have HNEW := Lib.hid hnew
                have HHD : Hid (rx + (rl : Int) = hd (acc ++ [segOf x]) + 1) := by
                  show _ = _
                  rw [hd_snoc, HSGO.out]
                  unfold last
                  dsimp only
                  rw [HRLN.out]
                  omega
                have HIDS2 : Hid (∀ (k : Nat) (y : Fl), k < j + 1 → fs[k]? = some y → y.id = f0 + k) := fun k y hk hy => by
                  by_cases e : k = j
                  · subst e
                    have h5 := HX.out
                    rw [hy] at h5
                    injection h5 with h5
                    rw [h5]
                    exact HID.out
                  · exact HIDS.out k y (by omega) hy
                clear hlo hcb hwb hso hgo hwh hnew q5
                have hlF := HLOG.out.new HBR4.out
                obtain ⟨Al, nl, cl, qs, hL⟩ := hlF
                have hlenF := hL.len
                rw [HACC.out] at hlenF
                have d3 : w4.cell? ⟨g, 3, none⟩ = some (.slice Al nl cl) := hL.2.1.cell 3
                have HL := Lib.hid hL
                have hnl : nl ≤ 16384 := by omega
                have HSV : Hid (rgv (segOf x, ⟨A1, c1⟩) = [.int .i64 x.id, .int .i64 rx, .int .i64 rn, .slice A1 rl c1]) := Lib.hid (by rw [HSGO.out]; simp [rgv, HRLN.out])
                have HRW : Hid ((segOf x).rows = rr) := Lib.hid (by rw [HSGO.out])
                clear hL hmx hre hnc y0 y1 y2
                go_upto_region 22 with fail
                refine wp_region_last_at (S := fun w' => w'.cell? ⟨g, 3, none⟩ = some (.slice Al nl cl) ∧ w'.cell? ⟨s1, 0, none⟩ = some (.int .i64 x.id)) 15 _ rfl rfl (by kernel_rfl) (by kernel_rfl) (by kernel_rfl) ⟨d3, k0⟩ (fun hHeld => ?_)
                simp only [List.take_succ_cons, List.take_zero]
                refine wpAnyH_take (i := 0) (v := ?av0) rfl (by kernel_rfl) (by kernel_rfl) (by kernel_rfl) (fun _ _ _ h => h) (Or.inl ⟨by rfl, ?ay0⟩) (by assumption) ?ar0
                case ay0 => (intro w hSw; (try dsimp only at hSw); go_simp; try with_reducible rfl)
                try simp only [Act.put, List.getElem_toArray, List.getElem_cons_succ, List.getElem_cons_zero, List.setIfInBounds_toArray, List.set_cons_zero, List.set_cons_succ]
                refine wpAnyH_take (i := 1) (v := ?av1) rfl (by kernel_rfl) (by kernel_rfl) (by kernel_rfl) (fun _ _ _ h => h) (Or.inl ⟨by rfl, ?ay1⟩) (by assumption) ?ar1
                case ay1 => (intro w hSw; (try dsimp only at hSw); go_simp; try with_reducible rfl)
                try simp only [Act.put, List.getElem_toArray, List.getElem_cons_succ, List.getElem_cons_zero, List.setIfInBounds_toArray, List.set_cons_zero, List.set_cons_succ]
                refine wpAnyH_take (i := 2) (v := ?av2) rfl (by kernel_rfl) (by kernel_rfl) (by kernel_rfl) (fun _ _ _ h => h) (Or.inl ⟨by rfl, ?ay2⟩) (by assumption) ?ar2
                case ay2 => (intro w hSw; (try dsimp only at hSw); go_simp; try with_reducible rfl)
                try simp only [Act.put, List.getElem_toArray, List.getElem_cons_succ, List.getElem_cons_zero, List.setIfInBounds_toArray, List.set_cons_zero, List.set_cons_succ]
                refine wpAnyH_take (i := 3) (v := ?av3) rfl (by kernel_rfl) (by kernel_rfl) (by kernel_rfl) (fun _ _ _ h => h) (Or.inl ⟨by rfl, ?ay3⟩) (by assumption) ?ar3
                case ay3 => (intro w hSw; (try dsimp only at hSw); go_simp; try with_reducible rfl)
                try simp only [Act.put, List.getElem_toArray, List.getElem_cons_succ, List.getElem_cons_zero, List.setIfInBounds_toArray, List.set_cons_zero, List.set_cons_succ]
                refine wpAnyH_take (i := 4) (v := ?av4) rfl (by kernel_rfl) (by kernel_rfl) (by kernel_rfl) (fun _ _ _ h => h) (Or.inl ⟨by rfl, ?ay4⟩) (by assumption) ?ar4
                case ay4 => (intro w hSw; (try dsimp only at hSw); go_simp; try with_reducible rfl)
                try simp only [Act.put, List.getElem_toArray, List.getElem_cons_succ, List.getElem_cons_zero, List.setIfInBounds_toArray, List.set_cons_zero, List.set_cons_succ]
                refine wpAnyH_take (i := 5) (v := ?av5) rfl (by kernel_rfl) (by kernel_rfl) (by kernel_rfl) (fun _ _ _ h => h) (Or.inl ⟨by rfl, ?ay5⟩) (by assumption) ?ar5
                case ay5 => (intro w hSw; (try dsimp only at hSw); go_simp; try with_reducible rfl)
                try simp only [Act.put, List.getElem_toArray, List.getElem_cons_succ, List.getElem_cons_zero, List.setIfInBounds_toArray, List.set_cons_zero, List.set_cons_succ]
                refine wpAnyH_take (i := 6) (v := ?av6) rfl (by kernel_rfl) (by kernel_rfl) (by kernel_rfl) (fun _ _ _ h => h) (Or.inl ⟨by rfl, ?ay6⟩) (by assumption) ?ar6
                case ay6 => (intro w hSw; (try dsimp only at hSw); go_simp; try with_reducible rfl)
                try simp only [Act.put, List.getElem_toArray, List.getElem_cons_succ, List.getElem_cons_zero, List.setIfInBounds_toArray, List.set_cons_zero, List.set_cons_succ]
                refine wpAnyH_take (i := 7) (v := ?av7) rfl (by kernel_rfl) (by kernel_rfl) (by kernel_rfl) (fun _ _ _ h => h) (Or.inl ⟨by rfl, ?ay7⟩) (by assumption) ?ar7
                case ay7 => (intro w hSw; (try dsimp only at hSw); go_simp; try with_reducible rfl)
                try simp only [Act.put, List.getElem_toArray, List.getElem_cons_succ, List.getElem_cons_zero, List.setIfInBounds_toArray, List.set_cons_zero, List.set_cons_succ]
                refine wpAnyH_take (i := 8) (v := ?av8) rfl (by kernel_rfl) (by kernel_rfl) (by kernel_rfl) (fun _ _ _ h => h) (Or.inl ⟨by rfl, ?ay8⟩) (by assumption) ?ar8
                case ay8 => (intro w hSw; (try dsimp only at hSw); go_simp; try with_reducible rfl)
                try simp only [Act.put, List.getElem_toArray, List.getElem_cons_succ, List.getElem_cons_zero, List.setIfInBounds_toArray, List.set_cons_zero, List.set_cons_succ]
                refine wpAnyH_take (i := 9) (v := ?av9) rfl (by kernel_rfl) (by kernel_rfl) (by kernel_rfl) (fun _ _ _ h => h) (Or.inl ⟨by rfl, ?ay9⟩) (by assumption) ?ar9
                case ay9 => (intro w hSw; (try dsimp only at hSw); go_simp; try with_reducible rfl)
                try simp only [Act.put, List.getElem_toArray, List.getElem_cons_succ, List.getElem_cons_zero, List.setIfInBounds_toArray, List.set_cons_zero, List.set_cons_succ]
                refine wpAnyH_take (i := 10) (v := ?av10) rfl (by kernel_rfl) (by kernel_rfl) (by kernel_rfl) (fun _ _ _ h => h) (Or.inl ⟨by rfl, ?ay10⟩) (by assumption) ?ar10
                case ay10 => (intro w hSw; (try dsimp only at hSw); go_simp; try with_reducible rfl)
                try simp only [Act.put, List.getElem_toArray, List.getElem_cons_succ, List.getElem_cons_zero, List.setIfInBounds_toArray, List.set_cons_zero, List.set_cons_succ]
                refine wpAnyH_ready (rs := [11]) (by kernel_rfl) (by simp) ?_
                refine AllReadyH.cons rfl (fun K hK => ?_) AllReadyH.nil
                go_simp
                have hb5 : Below w4.heap.size w4 (w4.drew.alloc (.cells #[.int .i64 x.id, .int .i64 rx, .int .i64 rn, .slice A1 rl c1] 91)) := (held_start w4).alloc (held_start w4).size _
                refine hK.out _ _ ⟨held_cell hb5 d3, held_cell hb5 k0⟩ (fun hHeld => ?_)
                clear hK K
                try simp only [Act.put, List.getElem_toArray, List.getElem_cons_succ, List.getElem_cons_zero, List.setIfInBounds_toArray, List.set_cons_zero, List.set_cons_succ]
                refine wpAnyH_ready (rs := [12]) (by kernel_rfl) (by simp) ?_
                refine AllReadyH.cons rfl (fun K hK => ?_) AllReadyH.nil
                have hL5 := (HL.out.new hb5).mono (G' := fun i => G i ∨ (wr.heap.size ≤ i ∧ i < w4.heap.size)) fun i hi => .inl hi
                refine step_append_row (by rfl) (.tmp 131) (.tmp 138) (by rfl) es 0 (.slice Al nl cl) nl (rflat qs) (by rfl) hL5.2.2.2.1 (w4.drew.heap.size + 1) (some ⟨w4.heap.size, 0, none⟩) 1 1 (rgv (segOf x, ⟨A1, c1⟩)) (by rfl) (by rw [HSV.out]; exact Row.lit w4.drew #[.int .i64 x.id, .int .i64 rx, .int .i64 rn, .slice A1 rl c1] _ (0, 0) rfl rfl (by omega)) (by have := rgv_one [(segOf x, ⟨A1, c1⟩)]; rw [rflat_cons] at this; simpa [rflat] using this) (by omega) (by omega) (Nat.zero_le _) ?_
                intro A6 c6 v6 hown6 hg6 _
                have hEl : ListsIn (w4.drew.alloc (.cells #[.int .i64 x.id, .int .i64 rx, .int .i64 rn, .slice A1 rl c1] 91)) (fun i => G i ∨ (wr.heap.size ≤ i ∧ i < w4.heap.size)) A1 (segOf x).rows.length c1 (segOf x).rows := by
                  rw [HRW.out, HRLN.out]
                  exact ((ListsIn.exact HLS.out).below hb5).mono fun i hi => .inr ⟨Nat.le_trans HSAW.out hi.1, hi.2⟩
                have hpush := hL5.push (s := segOf x) (q := ⟨A1, c1⟩) hown6 hg6 hEl
                have hfar := push_far hL5 hg6 (.slice A6 (nl + 1) c6)
                have htyp : ∀ (i : Nat) (cur : Array Value) (e : TypeId), e ≠ 91 → w4.heap[i]? = some (.cells cur e (0, 0)) → v6.heap[i]? = w4.heap[i]? := fun i cur e hne hi =>
                  (kept_type hg6.1 (fun b hb => own_type hL5.2.2.2.1 hb) hne ((hb5.block i (Array.getElem?_eq_some_iff.1 hi).1).trans hi)).trans hi.symm
                have d6 : v6.cell? ⟨g, 3, none⟩ = some (.slice Al nl cl) := (World.cell?_of_block (htyp g _ _ (by decide) HL.out.2.1)).trans d3
                have z6 : v6.frozen? ⟨g, 3, none⟩ = false := Blk.frozen (show Blk v6 g 86 _ from (htyp g _ _ (by decide) HL.out.2.1).trans HL.out.2.1) 3
                refine hK.out _ _ ⟨d6, (World.cell?_of_block (htyp s1 _ _ (by decide) HXB.out)).trans k0⟩ (fun hHeld => ?_)
                clear hK K
                try simp only [Act.put, List.getElem_toArray, List.getElem_cons_succ, List.getElem_cons_zero, List.setIfInBounds_toArray, List.set_cons_zero, List.set_cons_succ]
                refine wpAnyH_take (i := 13) (v := ?bv13) rfl (by kernel_rfl) (by kernel_rfl) (by kernel_rfl) (fun _ _ _ h => h) (Or.inl ⟨by rfl, ?by13⟩) (by assumption) ?br13
                case by13 => (intro w hSw; (try dsimp only at hSw); go_simp; try with_reducible rfl)
                try simp only [Act.put, List.getElem_toArray, List.getElem_cons_succ, List.getElem_cons_zero, List.setIfInBounds_toArray, List.set_cons_zero, List.set_cons_succ]
                refine wpAnyH_take (i := 14) (v := ?bv14) rfl (by kernel_rfl) (by kernel_rfl) (by kernel_rfl) (fun _ _ _ h => h) (Or.inl ⟨by rfl, ?by14⟩) (by assumption) ?br14
                case by14 => (intro w hSw; (try dsimp only at hSw); go_simp; try with_reducible rfl)
                try simp only [Act.put, List.getElem_toArray, List.getElem_cons_succ, List.getElem_cons_zero, List.setIfInBounds_toArray, List.set_cons_zero, List.set_cons_succ]
                refine wpAnyH_done (by kernel_rfl) ?_ _
                refine then_normal rfl ?_
                have HB6 : Hid (Below w.heap.size w (v6.setCell ⟨g, 3, none⟩ (.slice A6 (nl + 1) c6))) := by
                  have h5 : Below w.heap.size w (w4.drew.alloc (.cells #[.int .i64 x.id, .int .i64 rx, .int .i64 rn, .slice A1 rl c1] 91)) := held_two HB4.out hb5
                  exact h5.trans (hpush.2.below (fun i hi => by
                    rcases hi with hi | hi
                    · exact (HG.out i hi).1
                    · exact Nat.le_trans HBW.out.size hi.1) h5.size)
                have HOW6 : Hid ((v6.setCell ⟨g, 3, none⟩ (.slice A6 (nl + 1) c6)).ownsRow w.heap.size 79 3 (.slice (some ⟨b9, 0, none⟩) n c9) n (fcells fs bl)) := by
                  refine own_same HOWN.out fun i hi => ?_
                  obtain ⟨cur, hc⟩ := own_type HOWN.out hi
                  have hlt := (Array.getElem?_eq_some_iff.1 hc).1
                  have e4 := HBR4.out.block i hlt
                  have e5 := hb5.block i (Nat.lt_of_lt_of_le hlt HBR4.out.size)
                  rw [hfar i cur _ (by decide) (by decide) (e5.trans (e4.trans hc)), e5, e4]
                have HL6 : Hid (RLogAt (Out (fun i => G i ∨ (wr.heap.size ≤ i ∧ i < w4.heap.size)) (w4.drew.alloc (.cells #[.int .i64 x.id, .int .i64 rx, .int .i64 rn, .slice A1 rl c1] 91)) (v6.setCell ⟨g, 3, none⟩ (.slice A6 (nl + 1) c6))) (v6.setCell ⟨g, 3, none⟩ (.slice A6 (nl + 1) c6)) g h (acc ++ [segOf x]) ba sz) := ⟨_, _, _, _, hpush.1.mono fun i hi => Disk.Out.mono (by simp) hi⟩
                have HG6 : Hid (∀ i, Out (fun i => G i ∨ (wr.heap.size ≤ i ∧ i < w4.heap.size)) (w4.drew.alloc (.cells #[.int .i64 x.id, .int .i64 rx, .int .i64 rn, .slice A1 rl c1] 91)) (v6.setCell ⟨g, 3, none⟩ (.slice A6 (nl + 1) c6)) i → w.heap.size ≤ i ∧ i < (v6.setCell ⟨g, 3, none⟩ (.slice A6 (nl + 1) c6)).heap.size) := fun i hi => by
                  have s4 := HBR4.out.size
                  have s5 := hb5.size
                  have s6 := hpush.2.size
                  have s0 := HBW.out.size
                  rcases hi with (hi | hi) | hi
                  · have := HG.out i hi
                    exact ⟨this.1, by omega⟩
                  · exact ⟨by omega, by omega⟩
                  · exact ⟨by omega, hi.2⟩
                clear hpush hL5 hown6 hg6 hb5 hEl htyp hfar hHeld d3 k0 k2 HL
                go_wp2
                go_roundw
                case rel => exact ⟨j + 1, acc ++ [segOf x], rx + rl, _, by go_num, rfl, hjn, HL6.out, HG6.out, HOW6.out, HB6.out, .inl ⟨HNEW.out, by rw [List.length_append, HACC.out]; rfl, HIDS2.out, fun _ => HHD.out⟩⟩
                case measure => simp [intOf]; omega
            · have f1 : ((re : Int) != 0) = true := by simp; omega
              have hjl : j + 1 = n := by
                by_cases h : j + 1 < n
                · exact absurd (.inl ⟨h, by rw [hwb]; exact decide_eq_false (fun h => hre h.1)⟩) hnc
                · omega
              have hend : rs = some acc := by rw [← hlo, if_pos ⟨by omega, hre⟩]
              have HEND := Lib.hid hend
              have HOW6 := Lib.hid (own_keep HOWN.out HBR4.out)
              have HL6 := Lib.hid (HLOG.out.new HBR4.out)
              have HG6 : Hid (∀ i, G i → w.heap.size ≤ i ∧ i < w4.heap.size) := fun i hi => ⟨(HG.out i hi).1, Nat.lt_of_lt_of_le (HG.out i hi).2 HBR4.out.size⟩
              clear hlo hcb hwb hso hgo hwh hre hnc hend
              go_wp2
              go_roundw
              case rel => exact ⟨j + 1, acc, nx, G, by go_num, rfl, hjn, HL6.out, HG6.out, HOW6.out, HB4.out, .inr ⟨hjl, HEND.out, by rw [HACC.out]; exact hjl⟩⟩
              case measure => simp [intOf]; omega
      · obtain rfl : j = n := by omega
        have l0 : ¬ ((j : Nat) : Int) < (j : Int) := by omega
        have hrs : rs = some acc := by
          rcases hat with ⟨h1, _⟩ | ⟨_, h1, _⟩
          · rw [← h1, List.drop_eq_nil_of_le (by rw [HFN.out]; exact Nat.le_refl _)]
            rfl
          · exact h1
        have hlen : acc.length = j ∨ acc.length + 1 = j := by
          rcases hat with ⟨_, h1, _⟩ | ⟨_, _, h1⟩
          · exact .inl h1
          · exact .inr h1
        have hlo2 : WalMath.load f0 0 [] fs = some acc := by rw [HRS.out, hrs]
        obtain ⟨k, hk, hsg⟩ := Wal.load_files hlo2
        rw [List.nil_append] at hsg
        have hkl : acc.length = k := by rw [hsg, List.length_map, List.length_take]; omega
        have HSG : Hid (acc = (fs.take acc.length).map segOf) := by show _ = _; rw [hkl]; exact hsg
        have hE : r = mended ba sz acc (mend d fs acc) := by rw [HOP2.out, hrs]
        have HE := Lib.hid hE
        have HRF : Hid (RefAt F wr h d) := HD.out.new HBW.out
        have HFR : Hid (∀ i, F i → ¬ G i) := fun i hi hg => by
          have := HF.out i hi
          have := (HG.out i hg).1
          omega
        clear hat hrs hlo2 hk hsg hkl hE
        obtain ⟨Al, nl, cl, qs, hL⟩ := HLOG.out
        have d3 : wr.cell? ⟨g, 3, none⟩ = some (.slice Al nl cl) := hL.2.1.cell 3
        have hnl := hL.len
        have HLA := Lib.hid hL
        clear hL
        by_cases hj0 : j = 0
        · subst hj0
          obtain rfl : acc = [] := List.eq_nil_of_length_eq_zero (by omega)
          obtain rfl : fs = [] := List.eq_nil_of_length_eq_zero HFN.out
          have HE2 := Lib.hid (show r = ⟨0, some ⟨[], ba, sz, none⟩, d⟩ by rw [HE.out]; rfl)
          clear hnl
          go_wp2
          go_ret2
          rw [HE2.out]
          exact ⟨g, G, rfl, HLOG.out, RefAt.out HD.out HBW.out, Turn.new HBW.out⟩
        · obtain ⟨m, hm⟩ : ∃ m, j = m + 1 := ⟨j - 1, by omega⟩
          obtain ⟨x, hx⟩ : ∃ x, fs[m]? = some x := ⟨_, List.getElem?_eq_getElem (by rw [HFN.out]; omega)⟩
          obtain ⟨hsk, hid0, hid1, hxl⟩ := HFS.out x (List.mem_of_getElem? hx)
          obtain ⟨b9, rfl, _, _, y0, y1, y2⟩ := file_at HOWN.out hx (by omega)
          have hwm : IntKind.i64.wrap ((j : Int) - 1) = (m : Int) := by rw [IntWalk.i64_in _ (by omega)]; omega
          have hjz : ((j : Int) == 0) = false := by simp; omega
          have hmj : (m : Int) < (j : Int) := by omega
          have HX := Lib.hid hx
          have HSK := Lib.hid hsk
          have HMM := Lib.hid hm
          have hmle : m ≤ 16384 := by omega
          clear hx hsk hm
          go_upto_region 26 with fail
          have HX5 := Lib.hid (Blk.new wr 79 #[.int .i64 x.id, .int .i64 x.safe, .slice (bl x.id).A x.b.length (bl x.id).c])
          have HB5 : Hid (Below wr.heap.size wr (wr.alloc (.cells #[.int .i64 x.id, .int .i64 x.safe, .slice (bl x.id).A x.b.length (bl x.id).c] 79))) := (Below.refl _ _).alloc (Nat.le_refl _) _
          generalize wr.alloc (.cells #[.int .i64 x.id, .int .i64 x.safe, .slice (bl x.id).A x.b.length (bl x.id).c] 79) = W5 at HX5 HB5 ⊢
          generalize hs5 : wr.heap.size = s5 at HX5 ⊢
          have HS5 : Hid (w.heap.size ≤ s5) := by show _ ≤ _; rw [← hs5]; exact HBW.out.size
          clear hs5
          have k0 : W5.cell? ⟨s5, 0, none⟩ = some (.int .i64 x.id) := HX5.out.cell 0
          have k2 : W5.cell? ⟨s5, 2, none⟩ = some (.slice (bl x.id).A x.b.length (bl x.id).c) := HX5.out.cell 2
          have HBW5 := Lib.hid (held_two HBW.out HB5.out)
          have HL5 := Lib.hid (HLOG.out.new HB5.out)
          have HR5 := Lib.hid (HRF.out.new HB5.out)
          have d5 : W5.cell? ⟨g, 3, none⟩ = some (.slice Al nl cl) := held_cell HB5.out d3
          clear y0 y1 y2 d3
          rcases hlen with hlen | hlen
          · have hnj : nl = j := by omega
            subst hnj
            have hlt : ¬ ((nl : Nat) : Int) < (nl : Int) := by omega
            have hacc : acc = (fs.take m).map segOf ++ [segOf x] := by
              have h5 := HSG.out
              rw [hlen, HMM.out, List.take_add_one, List.map_append, HX.out] at h5
              exact h5
            obtain ⟨b, q, hAl, hbl, _, hnc, _, _, _, z2, _⟩ := HLA.out.at_ (k := m) (s := segOf x) (by rw [hacc, List.getElem?_append_right (by rw [List.length_map, List.length_take]; omega), List.length_map, List.length_take, show m - min m fs.length = 0 by rw [HFN.out]; omega]; rfl)
            subst hAl
            have z5 : W5.cell? ⟨b, m * 4 + 2, none⟩ = some (.int .i64 (SegMath.sread x.b).n) := held_cell HB5.out z2
            have hgl : acc.getLast? = some (segOf x) := by rw [hacc]; simp
            have HMD : Hid (mend d fs acc = if ((SegMath.sread x.b).n : Int) < (x.b.length : Int) then DiskMath.cut d x.id (SegMath.sread x.b).n else (0, d)) := by
              show _ = _
              have hnone : fs[acc.length]? = none := List.getElem?_eq_none (by rw [HFN.out]; omega)
              unfold mend
              rw [hnone]
              dsimp only
              rw [hgl]
              show (if ((SegMath.sread x.b).n : Int) < DiskMath.size d x.id then DiskMath.cut d x.id (SegMath.sread x.b).n else (0, d)) = _
              rw [Wal.size_of HSK.out]
            have HLAST := Lib.hid (fun wx (hx : Below W5.heap.size W5 wx) => rlast_any G g h acc ba sz m wx (HL5.out.new hx) (by have := HMM.out; omega) hmle)
            have HCUT := Lib.hid (fun wx (hx : Below W5.heap.size W5 wx) => Ref.refcut_any F h d x.id (SegMath.sread x.b).n wx (HR5.out.new hx) HFT.out (fun y hy => by
              have h5 := HSK.out
              rw [hy] at h5
              injection h5 with h5
              rw [h5]
              exact Nat.le_trans hxl (by omega)))
            generalize (SegMath.sread x.b).n = rn at *
            generalize x.b.length = xl at *
            clear hacc hgl z2 hlen
            by_cases hrx : (rn : Int) < (xl : Int)
            · have f1 : decide ((rn : Int) < (xl : Int)) = true := decide_eq_true hrx
              have f1n : decide (rn < xl) = true := decide_eq_true (by omega)
              have HM2 : Hid (mend d fs acc = DiskMath.cut d x.id rn) := by show _ = _; rw [HMD.out, if_pos hrx]
              generalize hcc : DiskMath.cut d x.id rn = cc at *
              obtain ⟨e6, d6⟩ := cc
              clear hrx hcc
              go_upto_region 30 with fail
              have QL := Lib.hid (fun n => Wal.quiet (w := W5) (n := n) (HLAST.out (W5.drewN n) (below_drewN (Below.refl _ _) n)))
              go_quiet (first | (go_at_call 37; exact QL.out _))
              go_upto_region 31 with fail
              have HB6 : Hid (Below W5.heap.size W5 (W5.drewN nq)) := below_drewN (Below.refl _ _) nq
              have d6' : (W5.drewN nq).cell? ⟨g, 3, none⟩ = some (.slice (some ⟨b, 0, none⟩) nl cl) := d5
              have z6 : (W5.drewN nq).cell? ⟨b, m * 4 + 2, none⟩ = some (.int .i64 rn) := z5
              have k6 : (W5.drewN nq).cell? ⟨s5, 0, none⟩ = some (.int .i64 x.id) := k0
              clear QL
              generalize W5.drewN nq = W6 at HB6 d6' z6 k6 ⊢
              refine Go.wp_region_held_drew (S := fun w' => w'.cell? ⟨g, 3, none⟩ = some (.slice (some ⟨b, 0, none⟩) nl cl) ∧ w'.cell? ⟨b, m * 4 + 2, none⟩ = some (.int .i64 rn) ∧ w'.cell? ⟨s5, 0, none⟩ = some (.int .i64 x.id)) (by kernel_rfl) ⟨d6', z6, k6⟩ (fun hHeld => ?_)
              refine wpAnyH_take (i := 0) (v := ?cv0) rfl (by kernel_rfl) (by kernel_rfl) (by kernel_rfl) (fun _ _ _ h => h) (Or.inl ⟨by rfl, ?cy0⟩) (by assumption) ?cr0
              case cy0 => (intro w hSw; (try dsimp only at hSw); go_simp; try with_reducible rfl)
              try simp only [Act.put, List.getElem_toArray, List.getElem_cons_succ, List.getElem_cons_zero, List.setIfInBounds_toArray, List.set_cons_zero, List.set_cons_succ]
              refine wpAnyH_take (i := 1) (v := ?cv1) rfl (by kernel_rfl) (by kernel_rfl) (by kernel_rfl) (fun _ _ _ h => h) (Or.inl ⟨by rfl, ?cy1⟩) (by assumption) ?cr1
              case cy1 => (intro w hSw; (try dsimp only at hSw); go_simp; try with_reducible rfl)
              try simp only [Act.put, List.getElem_toArray, List.getElem_cons_succ, List.getElem_cons_zero, List.setIfInBounds_toArray, List.set_cons_zero, List.set_cons_succ]
              refine wpAnyH_take (i := 2) (v := ?cv2) rfl (by kernel_rfl) (by kernel_rfl) (by kernel_rfl) (fun _ _ _ h => h) (Or.inl ⟨by rfl, ?cy2⟩) (by assumption) ?cr2
              case cy2 => (intro w hSw; (try dsimp only at hSw); go_simp; try with_reducible rfl)
              try simp only [Act.put, List.getElem_toArray, List.getElem_cons_succ, List.getElem_cons_zero, List.setIfInBounds_toArray, List.set_cons_zero, List.set_cons_succ]
              refine wpAnyH_take (i := 3) (v := ?cv3) rfl (by kernel_rfl) (by kernel_rfl) (by kernel_rfl) (fun _ _ _ h => h) (Or.inl ⟨by rfl, ?cy3⟩) (by assumption) ?cr3
              case cy3 => (intro w hSw; (try dsimp only at hSw); go_simp; try with_reducible rfl)
              try simp only [Act.put, List.getElem_toArray, List.getElem_cons_succ, List.getElem_cons_zero, List.setIfInBounds_toArray, List.set_cons_zero, List.set_cons_succ]
              refine wpAnyH_take (i := 4) (v := ?cv4) rfl (by kernel_rfl) (by kernel_rfl) (by kernel_rfl) (fun _ _ _ h => h) (Or.inl ⟨by rfl, ?cy4⟩) (by assumption) ?cr4
              case cy4 => (intro w hSw; (try dsimp only at hSw); go_simp; try with_reducible rfl)
              try simp only [Act.put, List.getElem_toArray, List.getElem_cons_succ, List.getElem_cons_zero, List.setIfInBounds_toArray, List.set_cons_zero, List.set_cons_succ]
              refine wpAnyH_take (i := 5) (v := ?cv5) rfl (by kernel_rfl) (by kernel_rfl) (by kernel_rfl) (fun _ _ _ h => h) (Or.inl ⟨by rfl, ?cy5⟩) (by assumption) ?cr5
              case cy5 => (intro w hSw; (try dsimp only at hSw); go_simp; try with_reducible rfl)
              try simp only [Act.put, List.getElem_toArray, List.getElem_cons_succ, List.getElem_cons_zero, List.setIfInBounds_toArray, List.set_cons_zero, List.set_cons_succ]
              refine wpAnyH_take (i := 6) (v := ?cv6) rfl (by kernel_rfl) (by kernel_rfl) (by kernel_rfl) (fun _ _ _ h => h) (Or.inl ⟨by rfl, ?cy6⟩) (by assumption) ?cr6
              case cy6 => (intro w hSw; (try dsimp only at hSw); go_simp; try with_reducible rfl)
              try simp only [Act.put, List.getElem_toArray, List.getElem_cons_succ, List.getElem_cons_zero, List.setIfInBounds_toArray, List.set_cons_zero, List.set_cons_succ]
              refine wpAnyH_take (i := 7) (v := ?cv7) rfl (by kernel_rfl) (by kernel_rfl) (by kernel_rfl) (fun _ _ _ h => h) (Or.inl ⟨by rfl, ?cy7⟩) (by assumption) ?cr7
              case cy7 => (intro w hSw; (try dsimp only at hSw); go_simp; try with_reducible rfl)
              try simp only [Act.put, List.getElem_toArray, List.getElem_cons_succ, List.getElem_cons_zero, List.setIfInBounds_toArray, List.set_cons_zero, List.set_cons_succ]
              refine wpAnyH_ready (rs := [8]) (by kernel_rfl) (by simp) ?_
              refine AllReadyH.cons rfl (fun K hK => ?_) AllReadyH.nil
              go_simp
              go_at_call 37
              refine (HLAST.out _ (HB6.out.drew)).mono ?_
              rintro e w7 ⟨rfl, rfl⟩
              refine hK.out _ _ ⟨d6', z6, k6⟩ (fun hHeld => ?_)
              clear hK K
              try simp only [Act.put, List.getElem_toArray, List.getElem_cons_succ, List.getElem_cons_zero, List.setIfInBounds_toArray, List.set_cons_zero, List.set_cons_succ]
              refine wpAnyH_take (i := 9) (v := ?dv9) rfl (by kernel_rfl) (by kernel_rfl) (by kernel_rfl) (fun _ _ _ h => h) (Or.inl ⟨by rfl, ?dy9⟩) (by assumption) ?dr9
              case dy9 => (intro w hSw; (try dsimp only at hSw); go_simp; try with_reducible rfl)
              try simp only [Act.put, List.getElem_toArray, List.getElem_cons_succ, List.getElem_cons_zero, List.setIfInBounds_toArray, List.set_cons_zero, List.set_cons_succ]
              refine wpAnyH_take (i := 10) (v := ?dv10) rfl (by kernel_rfl) (by kernel_rfl) (by kernel_rfl) (fun _ _ _ h => h) (Or.inl ⟨by rfl, ?dy10⟩) (by assumption) ?dr10
              case dy10 => (intro w hSw; (try dsimp only at hSw); go_simp; try with_reducible rfl)
              try simp only [Act.put, List.getElem_toArray, List.getElem_cons_succ, List.getElem_cons_zero, List.setIfInBounds_toArray, List.set_cons_zero, List.set_cons_succ]
              refine wpAnyH_take (i := 11) (v := ?dv11) rfl (by kernel_rfl) (by kernel_rfl) (by kernel_rfl) (fun _ _ _ h => h) (Or.inl ⟨by rfl, ?dy11⟩) (by assumption) ?dr11
              case dy11 => (intro w hSw; (try dsimp only at hSw); go_simp; try with_reducible rfl)
              try simp only [Act.put, List.getElem_toArray, List.getElem_cons_succ, List.getElem_cons_zero, List.setIfInBounds_toArray, List.set_cons_zero, List.set_cons_succ]
              refine wpAnyH_ready (rs := [12]) (by kernel_rfl) (by simp) ?_
              refine AllReadyH.cons rfl (fun K hK => ?_) AllReadyH.nil
              go_simp
              go_at_call 38
              refine (HCUT.out _ (HB6.out.drew)).mono ?_
              rintro e w7 ⟨rfl, hr7, ht7⟩
              have hbx := held_two HBW5.out HB6.out.drew
              have hfin := fin_turn hbx ht7 hr7
              have hlog := log_turn (HL5.out.new HB6.out.drew) ht7 HFR.out
              have HFIN := Lib.hid hfin
              have HLG := Lib.hid hlog
              have gg : ∀ i, G i → w7.heap[i]? = W6.heap[i]? := fun i hi => ht7.block i (by
                have := (HG.out i hi).2
                have := HB5.out.size
                have := HB6.out.size
                show i < W6.heap.size
                omega) (fun hf => HFR.out i hf hi)
              have ss : w7.heap[s5]? = W6.heap[s5]? := ht7.block s5 (by
                have := HX5.out.lt
                have := HB6.out.size
                show s5 < W6.heap.size
                omega) (fun hf => by
                have := HF.out s5 hf
                have := HS5.out
                omega)
              refine hK.out _ _ ⟨(World.cell?_of_block (gg g HLA.out.2.2.1)).trans d6', (World.cell?_of_block (gg b (HLA.out.2.2.2.2.1 b rfl))).trans z6, (World.cell?_of_block ss).trans k6⟩ (fun hHeld => ?_)
              clear hK K gg ss hlog hfin hr7 ht7 hbx
              try simp only [Act.put, List.getElem_toArray, List.getElem_cons_succ, List.getElem_cons_zero, List.setIfInBounds_toArray, List.set_cons_zero, List.set_cons_succ]
              refine wpAnyH_take (i := 13) (v := ?ev13) rfl (by kernel_rfl) (by kernel_rfl) (by kernel_rfl) (fun _ _ _ h => h) (Or.inl ⟨by rfl, ?ey13⟩) (by assumption) ?er13
              case ey13 => (intro w hSw; (try dsimp only at hSw); go_simp; try with_reducible rfl)
              try simp only [Act.put, List.getElem_toArray, List.getElem_cons_succ, List.getElem_cons_zero, List.setIfInBounds_toArray, List.set_cons_zero, List.set_cons_succ]
              refine wpAnyH_done (by kernel_rfl) ?_ _
              by_cases he0 : e6 = 0
              · have HR := Lib.hid (show r = ⟨0, some ⟨acc, ba, sz, none⟩, d6⟩ by rw [HE.out, HM2.out]; exact if_pos he0)
                subst he0
                go_wp2
                go_ret2
                rw [HR.out]
                exact ⟨g, G, rfl, HLG.out, HFIN.out.1, HFIN.out.2⟩
              · have HR := Lib.hid (show r = ⟨e6, none, d6⟩ by rw [HE.out, HM2.out]; exact if_neg he0)
                have hne : (e6 != 0) = true := by simpa using he0
                clear he0
                go_wp2
                go_ret2
                rw [HR.out]
                exact ⟨rfl, HFIN.out.1, HFIN.out.2⟩
            · have f1 : decide ((rn : Int) < (xl : Int)) = false := decide_eq_false hrx
              have f1n : decide (rn < xl) = false := decide_eq_false (by omega)
              have HR := Lib.hid (show r = ⟨0, some ⟨acc, ba, sz, none⟩, d⟩ by rw [HE.out, HMD.out, if_neg hrx]; rfl)
              clear hrx
              go_upto_region 30 with fail
              have QL := Lib.hid (fun n => Wal.quiet (w := W5) (n := n) (HLAST.out (W5.drewN n) (below_drewN (Below.refl _ _) n)))
              go_quiet (first | (go_at_call 37; exact QL.out _))
              go_wp2
              go_ret2
              rw [HR.out]
              exact ⟨g, G, rfl, HL5.out.new (below_drewN (Below.refl _ _) _), RefAt.out HD.out (below_drewN HBW5.out _), Turn.new (below_drewN HBW5.out _)⟩
          · have hlt : (nl : Int) < (j : Int) := by omega
            have HMD : Hid (mend d fs acc = DiskMath.remove d x.id) := by
              show _ = _
              unfold mend
              rw [show acc.length = m by have := HMM.out; omega, HX.out]
            have HRM := Lib.hid (Ref.refremove_any F h d x.id W5 HR5.out HFT.out)
            generalize hcc : DiskMath.remove d x.id = cc at *
            obtain ⟨e6, d6⟩ := cc
            clear hcc
            go_wp2_with fail
            refine HRM.out.mono ?_
            rintro e w7 ⟨rfl, hr7, ht7⟩
            have HFIN := Lib.hid (fin_turn HBW5.out ht7 hr7)
            have HLG := Lib.hid (log_turn HL5.out ht7 HFR.out)
            clear hr7 ht7
            by_cases he0 : e6 = 0
            · have HR := Lib.hid (show r = ⟨0, some ⟨acc, ba, sz, none⟩, d6⟩ by rw [HE.out, HMD.out]; exact if_pos he0)
              subst he0
              go_wp2
              go_ret2
              rw [HR.out]
              exact ⟨g, G, rfl, HLG.out, HFIN.out.1, HFIN.out.2⟩
            · have HR := Lib.hid (show r = ⟨e6, none, d6⟩ by rw [HE.out, HMD.out]; exact if_neg he0)
              have hne : (e6 != 0) = true := by simpa using he0
              clear he0
              go_wp2
              go_ret2
              rw [HR.out]
              exact ⟨rfl, HFIN.out.1, HFIN.out.2⟩

theorem refopen_any (F : Nat → Prop) (h : Nat) (d : Dk) (ba sz : Int) (w : World) (hr : RefAt F w h d) (hF : ∀ i, F i → i < w.heap.size) (hf : Fits d) (hM : ∀ x ∈ d.files, x.b.length ≤ 35184372088832) :
    Calls Tryz.prog 13 #[.pointer (some ⟨h, 0, none⟩), .int .i64 ba, .int .i64 sz] w (ROpened F w h (open_ d ba sz)) := by
  by_cases hb : ba < 0 ∨ 12288 < ba ∨ sz < 64 ∨ 65536 < sz
  · exact refopen_no F h d ba sz w hr hb
  · exact refopen_yes F h d ba sz w hr hF hf hM hb
end Go.Proofs.YtedfddnbgljcjaaGreat.RLog
