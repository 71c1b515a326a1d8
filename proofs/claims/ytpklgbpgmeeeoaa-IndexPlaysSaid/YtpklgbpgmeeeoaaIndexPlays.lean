/-
  The walk of the law IndexPlays: rows go as the document says: any rows at first, any ops.
-/
import Derived.Test.YtpklgbpgmeeeoaaIdxHelp
import Derived.Test.YtpklgbpgmeeeoaaIdxOpen
import Derived.Test.YtpklgbpgmeeeoaaIdxRef2
import Derived.Test.YtpklgbpgmeeeoaaPlayMod
namespace Go.Proofs.Ytpklgbpgmeeeoaa.Idx
set_option linter.unusedVariables false
set_option maxRecDepth 100000
open Go.RowKit Base IdxMath Foot
open Go.Sort (grow)
open Go.Proofs.Ytpklgbpgmeeeoaa.Field (modZ modZ_lt mod_any)
set_option linter.ambiguousOpen false
set_option linter.unusedSimpArgs false

/-! ### the ops as a row -/
structure Op8 where
  kind : Int
  n : Int
  key : Int
  val : ByteArray
def noOp8 : Op8 := ⟨0, 0, 0, ⟨#[]⟩⟩
def ocells (o : Op8) : List Value := [.int .i64 o.kind, .int .i64 o.n, .int .i64 o.key, .string o.val]
def Ops8 (w : World) (B : Nat) (A : Option Addr) (n c : Nat) (l : List Op8) : Prop := Row w B 4 A n c (l.flatMap ocells) ∧ l.length = n
theorem Ops8.below {w w' : World} {B n c : Nat} {A : Option Addr} {l : List Op8} (h : Ops8 w B A n c l) (hb : Below B w w') : Ops8 w' B A n c l := ⟨Row.below h.1 hb, h.2⟩
theorem Ops8.at_ {w : World} {B n c : Nat} {A : Option Addr} {l : List Op8} (h : Ops8 w B A n c l) {k : Nat} (hk : k < n) :
    ∃ (b off : Nat) (o : Op8), A = some ⟨b, off, none⟩ ∧ b < B ∧ w.cell? ⟨b, off + k * 4, none⟩ = some (.int .i64 o.kind) ∧ w.cell? ⟨b, off + k * 4 + 1, none⟩ = some (.int .i64 o.n) ∧ w.cell? ⟨b, off + k * 4 + 2, none⟩ = some (.int .i64 o.key) ∧ w.cell? ⟨b, off + k * 4 + 3, none⟩ = some (.string o.val) := by
  obtain ⟨b, off, e, hb, hc⟩ := h.1.2.2.2 (by omega)
  have hl : k < l.length := by rw [h.2]; exact hk
  have hg : l[k]? = some l[k] := List.getElem?_eq_getElem hl
  have g := fun j hj => Flat.flat_get (ec := ocells) (k := 4) (fun _ => rfl) l k _ hg j hj
  refine ⟨b, off, l[k], e, hb, ?_, ?_, ?_, ?_⟩
  · exact hc (k * 4 + 0) _ (by rw [g 0 (by omega)]; rfl)
  · exact hc (k * 4 + 1) _ (by rw [g 1 (by omega)]; rfl)
  · exact hc (k * 4 + 2) _ (by rw [g 2 (by omega)]; rfl)
  · exact hc (k * 4 + 3) _ (by rw [g 3 (by omega)]; rfl)
section
open Go.ChangeShapes Go.WideShapes Go.Deep
variable {H : Type} {enc : TypeId × Value → H} {W : World} {a : Option Addr} {len cap : Nat} {d : DataW H} {p : List MemPlace}
theorem open_ops8 (h : DataW.Trod enc Try.prog W 0 (fun _ => true) true 23 (.slice a len cap) d p) : ∃ l, Ops8 W W.heap.size a len cap l := by
  obtain ⟨fuel, hf⟩ := h
  rcases Flat.open_slice_fields Try.underlying23 Try.underlying28 (by kernel_rfl) (by kernel_rfl) hf with hcs | ⟨x, l, c, m, hcs, hl, hm, hmm, hall⟩
  · simp [Value.cells] at hcs
    obtain ⟨rfl, rfl, rfl⟩ := hcs
    exact ⟨[], Row.nil_ _ _ _, rfl⟩
  · simp [Value.cells] at hcs
    obtain ⟨rfl, rfl, rfl⟩ := hcs
    obtain ⟨ls, h1, h2, _⟩ := Flat.open_flat (ec := ocells) (k := 4) (fun _ => rfl) (by omega) noOp8 (fun _ => True) (y := x) hl hm (fun i hi => by
      obtain ⟨n, hn⟩ := hall i (by rw [hmm]; simp; omega)
      obtain ⟨v0, y0, c0, t0⟩ := hn 0 _ rfl
      obtain ⟨v1, y1, c1, t1⟩ := hn 1 _ rfl
      obtain ⟨v2, y2, c2, t2⟩ := hn 2 _ rfl
      obtain ⟨v3, y3, c3, t3⟩ := hn 3 _ rfl
      obtain ⟨k0, e0, _, _⟩ := DataW.trod_int Try.underlying3 t0
      obtain ⟨k1, e1, _, _⟩ := DataW.trod_int Try.underlying3 t1
      obtain ⟨k2, e2, _, _⟩ := DataW.trod_int Try.underlying2 t2
      obtain ⟨s, e3, _, _⟩ := DataW.trod_string Try.underlying9 t3
      simp only [List.cons.injEq, and_true] at e0 e1 e2 e3
      subst e0 e1 e2 e3
      refine ⟨⟨k0, k1, k2, s⟩, trivial, fun j hj => ?_⟩
      match j, hj with
      | 0, _ => exact ⟨_, rfl, c0⟩
      | 1, _ => exact ⟨_, rfl, c1⟩
      | 2, _ => exact ⟨_, rfl, c2⟩
      | 3, _ => exact ⟨_, rfl, c3⟩)
    exact ⟨ls, h1, h2⟩
end

/-! ### an index and the document's rows in one memory -/
def StX (w wr : World) (F : Nat → Prop) (p : Nat) (l : List Rw) : Prop := Below w.heap.size w wr ∧ IdxAt wr F p l ∧ ∀ i, F i → w.heap.size ≤ i ∧ i < wr.heap.size
def StY (wr : World) (F : Nat → Prop) (A : Option Addr) (c : Nat) (l : List Rw) : Prop := Rz wr wr.heap.size A l.length c l ∧ ∀ b off, A = some ⟨b, off, none⟩ → ¬ F b ∧ b < wr.heap.size
section
variable {w wr w' : World} {F : Nat → Prop} {p c : Nat} {A : Option Addr} {l l' : List Rw}
theorem StX.new (h : StX w wr F p l) (hb : Below wr.heap.size wr w') : StX w w' F p l :=
  ⟨h.1.trans (hb.mono h.1.size), h.2.1.new hb, fun i hi => ⟨(h.2.2 i hi).1, Nat.lt_of_lt_of_le (h.2.2 i hi).2 hb.size⟩⟩
theorem StY.new (h : StY wr F A c l) (hb : Below wr.heap.size wr w') : StY w' F A c l :=
  ⟨(h.1.below hb).more hb.size, fun b off e => ⟨(h.2 b off e).1, Nat.lt_of_lt_of_le (h.2 b off e).2 hb.size⟩⟩
theorem StY.made {base : Nat} (ho : w'.ownsRow base 38 2 (.slice A l.length c) l.length (rv l)) (hF : ∀ i, F i → i < base) : StY w' F A c l :=
  ⟨Rz.of_own ho, fun b off e => ⟨fun hf => by have h1 := (ho.lt b (by rw [e]; rfl)).1; have := hF b hf; omega, own_lt ho (by rw [e]; rfl)⟩⟩
theorem StX.turn (h : StX w wr F p l) (hi : IdxAt w' (Out F wr w') p l') (ht : Turn F wr w') : StX w w' (Out F wr w') p l' :=
  ⟨h.1.trans (ht.below (fun i hf => (h.2.2 i hf).1) h.1.size), hi, fun i hf => by
    rcases hf with hf | hf
    · exact ⟨(h.2.2 i hf).1, Nat.lt_of_lt_of_le (h.2.2 i hf).2 ht.size⟩
    · exact ⟨Nat.le_trans h.1.size hf.1, hf.2⟩⟩
theorem StY.turn (h : StY wr F A c l) (ht : Turn F wr w') : StY w' (Out F wr w') A c l := by
  obtain ⟨⟨h1, h2⟩, h3⟩ := h
  refine ⟨⟨⟨h1.1, h1.2.1, h1.2.2.1, fun hn => ?_⟩, h2⟩, fun b off e => ⟨fun hf => ?_, Nat.lt_of_lt_of_le (h3 b off e).2 ht.size⟩⟩
  · obtain ⟨b, off, e, hb, hc⟩ := h1.2.2.2 hn
    exact ⟨b, off, e, Nat.lt_of_lt_of_le hb ht.size, fun j u hu => (ht.cell hb (h3 b off e).1).trans (hc j u hu)⟩
  · rcases hf with hf | hf
    · exact (h3 b off e).1 hf
    · have := (h3 b off e).2; omega
theorem Blk.turn {g : Nat} {t : TypeId} {cs : Array Value} (h : Blk wr g t cs) (hg : ¬ F g) (ht : Turn F wr w') : Blk w' g t cs := (ht.block g h.lt hg).trans h
end
def PlayRel (w : World) (p : Nat) (vi vy : Value) (wr : World) : Prop :=
  ∃ (i : Nat) (F : Nat → Prop) (A : Option Addr) (c : Nat) (l : List Rw), vi = .int .i64 i ∧ i ≤ 80 ∧ vy = .slice A l.length c ∧ l.length ≤ 30 + i ∧ StX w wr F p l ∧ StY wr F A c l
theorem ret_after {w w' : World} {l : List Rw} {e : Ending} (h : NewRows w l e w') : ∃ A c, e = .returned (.slice A l.length c) ∧ Rs w' w'.heap.size A l.length c l ∧ Below w.heap.size w w' := by
  obtain ⟨A, c, h1, h2, h3⟩ := h
  exact ⟨A, c, h1, Rs.of_own h2, h3⟩

set_option maxHeartbeats 12800000 in
theorem plays_walk (A0 : Option Addr) (n0 c0 : Nat) (rows : List Rw) (A1 : Option Addr) (n1 c1 : Nat) (ops : List Op8) (w : World) (h0 : Rz w w.heap.size A0 n0 c0 rows) (h1 : Ops8 w w.heap.size A1 n1 c1 ops) :
    Calls Try.prog 3 #[.slice A0 n0 c0, .slice A1 n1 c1] w fun e w' => e = .returned (.bool true) ∧ Below w.heap.size w w' := by
  have hle := h0.1.le
  have hle1 : n1 ≤ c1 ∧ c1 ≤ 9223372036854775807 := ⟨h1.1.2.1, h1.1.2.2.1⟩
  have HR := Lib.hid h0
  have HO := Lib.hid h1
  clear h0 h1
  go_enter Try.func3, Try.ntmps3
  go_upto_region 1 with fail
  go_cut [0] (fun v wx => ∃ m, v = .slice A0 m c0 ∧ m ≤ 30 ∧ Rs w w.heap.size A0 m c0 (rows.take m) ∧ w = wx)
  case first =>
    by_cases h30 : 30 < n0
    · have HF := Lib.hid (HR.out.1.front (k := 30) (by omega))
      have q1 : (30 : Int) < (n0 : Int) := by omega
      have q2 : 30 ≤ c0 := by omega
      go_wp2_with fail
      go_meet
      exact ⟨30, rfl, Nat.le_refl _, HF.out, rfl⟩
    · have HF := Lib.hid (HR.out.1.front (k := n0) (Nat.le_refl _))
      have q1 : ¬ (30 : Int) < (n0 : Int) := by omega
      go_wp2_with fail
      go_meet
      exact ⟨n0, rfl, by omega, HF.out, rfl⟩
  case rest =>
    obtain ⟨m0, rfl, hm0, hrs, rfl⟩ := hcut
    have HRS := Lib.hid hrs
    have HML := Lib.hid (show (make (rows.take m0)).length ≤ 30 by have := make_length (rows.take m0); have := hrs.len; omega)
    clear hrs hle
    generalize rows.take m0 = rs at *
    go_wp2_with fail
    refine (new_any _ _ m0 c0 rs _ HRS.out (Nat.le_refl _) (by omega)).mono ?_
    intro e w1 h1
    obtain ⟨p, rfl, hx, hb⟩ := h1.at_
    have HX := Lib.hid (show StX w w1 (fun i => w.heap.size ≤ i ∧ i < w1.heap.size) p (make rs) from ⟨hb, hx, fun i hi => hi⟩)
    clear h1 hx hb
    go_wp2_with fail
    refine (refmake_any w.heap.size A0 m0 c0 rs w1 (HRS.out.below HX.out.1) HX.out.1.size (by omega)).mono ?_
    rintro e w2 ⟨A2, c2, rfl, ho2, hb2⟩
    have HY2 := Lib.hid (StY.made (F := fun i => w.heap.size ≤ i ∧ i < w1.heap.size) ho2 (fun i hi => hi.2))
    have HX2 := Lib.hid (HX.out.new hb2)
    clear ho2 hb2 HX
    have S1 : Hid (PlayRel w p (.int .i64 0) (.slice A2 (make rs).length c2) w2) := ⟨0, _, A2, c2, make rs, rfl, by omega, rfl, HML.out, HX2.out, HY2.out⟩
    clear HX2 HY2 HML
    generalize (make rs).length = N2 at *
    go_wp2
    go_loopw [7, 6] (fun vi vy wr => PlayRel w p vi vy wr) (fun vi _ _ => 80 - (RowKit.intOf vi).toNat)
    case atStart => exact S1.out
    case round =>
      obtain ⟨i, F, Ay, cy, l, rfl, hi80, rfl, hl, hX, hY⟩ := hrel
      have HX := Lib.hid hX
      have HY := Lib.hid hY
      clear hX hY
      by_cases hin : i < n1
      · by_cases hi8 : i < 80
        · have q1 : (i : Int) < (n1 : Int) := by omega
          have q2 : (i : Int) < 80 := by omega
          obtain ⟨b, off, o, rfl, hbB, d0, d1, d2, d3⟩ := (HO.out.below HX.out.1).at_ hin
          obtain ⟨kd, on, oz, ov⟩ := o
          dsimp only at d0 d1 d2 d3
          obtain ⟨ob, hob⟩ : ∃ ob, ob = wr.heap.size := ⟨_, rfl⟩
          have hbx : Below wr.heap.size wr (wr.alloc (.cells #[.int .i64 kd, .int .i64 on, .int .i64 oz, .string ov] 28)) := (Below.refl _ _).alloc (Nat.le_refl _) _
          have hOB := Blk.new wr 28 #[.int .i64 kd, .int .i64 on, .int .i64 oz, .string ov]
          rw [← hob] at hOB
          have HXb := Lib.hid (HX.out.new hbx)
          have HYb := Lib.hid (HY.out.new hbx)
          have HOB := Lib.hid hOB
          have HFO : Hid (¬ F ob) := fun hf => by have := (HX.out.2.2 ob hf).2; omega
          clear hbx hOB
          obtain ⟨wb, hwb⟩ : ∃ wb, wb = wr.alloc (.cells #[.int .i64 kd, .int .i64 on, .int .i64 oz, .string ov] 28) := ⟨_, rfl⟩
          rw [← hwb] at HXb HYb HOB
          have HWB := Lib.hid hwb
          have HOBE := Lib.hid hob
          clear hwb hob
          generalize hk : opKey oz = k
          have HK := Lib.hid hk
          clear hk
          go_wp2_with fail
          rw [← HWB.out, ← HOBE.out]
          refine (key_any kd on oz ov wb).mono ?_
          rintro e w3 ⟨rfl, hb3⟩
          rw [HK.out]
          have HX3 := Lib.hid (HXb.out.new hb3)
          have HY3 := Lib.hid (HYb.out.new hb3)
          have HO3 := Lib.hid (HOB.out.below hb3 HOB.out.lt)
          have e0 := HO3.out.cell 0
          clear hb3 HXb HYb HOB d0 d1 d2 d3 HX HY
          have hll : l.length ≤ 110 := by omega
          go_wp2_with fail
          refine (mod_any kd 8 w3 (by omega) (by omega)).mono ?_
          rintro e w3' ⟨rfl, rfl⟩
          obtain ⟨m, hm⟩ : ∃ m, m = modZ kd 8 := ⟨_, rfl⟩
          have hm8 : m < 8 := by rw [hm]; exact modZ_lt kd (by omega)
          rw [← hm]
          clear hm
          by_cases k4 : m < 4
          · have y1 : (m : Int) < 4 := by omega
            have e3 := HO3.out.cell 3
            go_wp2_with fail
            refine (refput_any w3.heap.size Ay l.length cy l k ov w3 HY3.out.1 (Nat.le_refl _) (by omega)).mono ?_
            rintro e w4 ⟨A4, c4, rfl, ho4, hb4⟩
            have HX4 := Lib.hid (HX3.out.new hb4)
            have HY4 := Lib.hid (StY.made (F := F) ho4 (fun i hi => (HX3.out.2.2 i hi).2))
            have HO4 := Lib.hid (HO3.out.below hb4 HO3.out.lt)
            have f3 := HO4.out.cell 3
            clear ho4 hb4 HX3 HY3 HO3 e0 e3
            go_wp2_with fail
            refine (put_any F p l k ov w4 HX4.out.2.1 (by omega)).mono ?_
            rintro e w5 ⟨rfl, hx5, ht5⟩
            have HX5 := Lib.hid (HX4.out.turn hx5 ht5)
            have HY5 := Lib.hid (HY4.out.turn ht5)
            clear hx5 ht5 HX4 HY4 HO4 f3
            generalize there l k = bt at *
            go_wp2_with fail
            refine (len_any _ p _ _ HX5.out.2.1).mono ?_
            rintro e w6 ⟨rfl, rfl⟩
            go_wp2
            go_roundw
            case rel => exact ⟨i + 1, _, _, _, _, by go_num, hi8, rfl, by have := put_length_le l k ov; omega, HX5.out, HY5.out⟩
            case measure => simp [RowKit.intOf]; omega
          · by_cases k6 : m < 6
            · have y1 : ¬ (m : Int) < 4 := by omega
              have y2 : (m : Int) < 6 := by omega
              go_wp2_with fail
              refine (refdel_any w3.heap.size Ay l.length cy l k w3 HY3.out.1.1 (Nat.le_refl _) HX3.out.2.1.rise (by omega)).mono ?_
              intro e w4 hd
              obtain ⟨A4, c4, rfl, HX4, HY4⟩ : ∃ A4 c4, e = .returned (.tuple #[.slice A4 (del l k).length c4, .bool (there l k)]) ∧ Hid (StX w w4 F p l) ∧ Hid (StY w4 F A4 c4 (del l k)) := by
                rcases hd with ⟨ht, A4, c4, rfl, ho4, hb4⟩ | ⟨ht, rfl, rfl⟩
                · exact ⟨A4, c4, by rw [ht], HX3.out.new hb4, StY.made (F := F) ho4 (fun i hi => (HX3.out.2.2 i hi).2)⟩
                · have hdl : del l k = l := by rw [del, if_neg (by rw [ht]; simp)]
                  exact ⟨Ay, cy, by rw [ht, hdl], HX3.out, by rw [hdl]; exact HY3.out⟩
              clear hd HX3 HY3 HO3 e0
              go_wp2_with fail
              refine (del_any F p l k w4 HX4.out.2.1 (by omega)).mono ?_
              rintro e w5 ⟨rfl, hx5, ht5⟩
              have HX5 := Lib.hid (HX4.out.turn hx5 ht5)
              have HY5 := Lib.hid (HY4.out.turn ht5)
              clear hx5 ht5 HX4 HY4
              generalize there l k = bt at *
              go_wp2_with fail
              refine (len_any _ p _ _ HX5.out.2.1).mono ?_
              rintro e w6 ⟨rfl, rfl⟩
              go_wp2
              go_roundw
              case rel => exact ⟨i + 1, _, _, _, _, by go_num, hi8, rfl, by have := del_length l k; omega, HX5.out, HY5.out⟩
              case measure => simp [RowKit.intOf]; omega
            · by_cases k7 : m = 6
              · subst k7
                have e1 := HO3.out.cell 1
                have d1 : w3.cell? ⟨ob, 1, none⟩ = some (.int .i64 on) := e1
                clear e0 e1
                go_wp2_with fail
                go_region_held3 (fun w' => w'.cell? ⟨ob, 1, none⟩ = some (.int .i64 on) ∧ Below w3.heap.size w3 w')
                  (first
                    | exact held1 (held_start w3) d1
                    | (go_split_ands; exact held1 (held_call (by assumption) hbA) d1)
                    | (go_split_ands; exact held1 (held_call (by assumption) hbB) d1)
                    | (go_split_ands; exact held1 (held_call (by assumption) hbC) d1)
                    | assumption)
                  (first
                    | (go_at_call 21; go_split_ands; refine (after_any F p l k on _ (HX3.out.2.1.new (by assumption)) (by omega)).mono ?_; intro e wA hA; obtain ⟨AA, cA, rfl, hrA, hbA⟩ := ret_after hA)
                    | (go_at_call 22; go_split_ands; refine (refafter_any w3.heap.size Ay l.length cy l k on _ (HY3.out.1.1.below (by assumption)) (by assumption : Below w3.heap.size w3 _).size (by omega)).mono ?_; intro e wB hB; obtain ⟨AB, cB, rfl, hrB, hbB⟩ := ret_after hB)
                    | (go_at_call 20; go_split_ands; refine (rplain_same _ _ AA AB _ _ cA cB (after l k on) _ (hrA.below hbB) hrB hbB.size (Nat.le_refl _)).mono ?_; rintro e wC ⟨rfl, hbC⟩)
                    | (go_at_call 20; go_split_ands; refine (rplain_same _ _ AA AB _ _ cA cB (after l k on) _ hrA (hrB.below hbA) (Nat.le_refl _) hbA.size).mono ?_; rintro e wC ⟨rfl, hbC⟩)
                    | fail)
                all_goals
                  have HZ : Hid (Below w3.heap.size w3 wC) := by first | exact (held_call (held_call (held_call (held_start w3) hbA) hbB) hbC) | exact (held_call (held_call (held_call (held_start w3) hbB) hbA) hbC)
                  have HX5 := Lib.hid (HX3.out.new HZ.out)
                  have HY5 := Lib.hid (HY3.out.new HZ.out)
                  clear HX3 HY3 HO3 d1
                  go_wp2_with fail
                  refine (len_any _ p _ _ HX5.out.2.1).mono ?_
                  rintro e w6 ⟨rfl, rfl⟩
                  go_wp2
                  go_roundw
                  case rel => exact ⟨i + 1, _, _, _, _, by go_num, hi8, rfl, by omega, HX5.out, HY5.out⟩
                  case measure => simp [RowKit.intOf]; omega
              · have y1 : ¬ (m : Int) < 4 := by omega
                have y2 : ¬ (m : Int) < 6 := by omega
                have y3 : ((m : Int) == 6) = false := by rw [beq_eq_false_iff_ne]; omega
                clear e0 HO3
                go_wp2_with fail
                refine (get_any F p l k w3 HX3.out.2.1 (by omega)).mono ?_
                rintro e w4 ⟨rfl, hb4⟩
                have HX4 := Lib.hid (HX3.out.new hb4)
                have HY4 := Lib.hid (HY3.out.new hb4)
                clear hb4 HX3 HY3
                go_wp2_with fail
                refine (refget_any w4.heap.size Ay l.length cy l k w4 HY4.out.1.1).mono ?_
                rintro e w5 ⟨rfl, rfl⟩
                have HX5 := HX4
                have HY5 := HY4
                clear HX4 HY4
                generalize getV l k = gv at *
                generalize (IdxMath.get l k).isSome = gb at *
                go_wp2_with fail
                refine (len_any _ p _ _ HX5.out.2.1).mono ?_
                rintro e w6 ⟨rfl, rfl⟩
                go_wp2
                go_roundw
                case rel => exact ⟨i + 1, _, _, _, _, by go_num, hi8, rfl, by omega, HX5.out, HY5.out⟩
                case measure => simp [RowKit.intOf]; omega
        · have q1 : (i : Int) < (n1 : Int) := by omega
          have q2 : ¬ (i : Int) < 80 := by omega
          go_wp2_with fail
          refine (awake_any wr).mono ?_
          rintro e wa ⟨rfl, hba⟩
          have HXa := Lib.hid (HX.out.new hba)
          have HYa := Lib.hid (HY.out.new hba)
          clear hba HX HY
          go_wp2_with fail
          refine (all_any F p l wa HXa.out.2.1 (by omega)).mono ?_
          rintro e wb ⟨Ab, cb, rfl, hob, hbb⟩
          have HXb := Lib.hid (HXa.out.new hbb)
          have HYb := Lib.hid (HYa.out.new hbb)
          have HOb := Lib.hid (Rs.of_own hob)
          clear hob hbb HXa HYa
          go_wp2_with fail
          refine (rplain_same wb.heap.size wb.heap.size Ab Ay l.length l.length cb cy l wb HOb.out HYb.out.1.1 (Nat.le_refl _) (Nat.le_refl _)).mono ?_
          rintro e wc ⟨rfl, hbc⟩
          have HXc := Lib.hid (HXb.out.new hbc)
          clear hbc HXb HYb
          go_wp2
          go_ret
          exact ⟨rfl, HXc.out.1⟩
      · have q1 : decide ((i : Int) < (n1 : Int)) = false := decide_eq_false (by omega)
        go_wp2_with fail
        refine (awake_any wr).mono ?_
        rintro e wa ⟨rfl, hba⟩
        have HXa := Lib.hid (HX.out.new hba)
        have HYa := Lib.hid (HY.out.new hba)
        clear hba HX HY
        go_wp2_with fail
        refine (all_any F p l wa HXa.out.2.1 (by omega)).mono ?_
        rintro e wb ⟨Ab, cb, rfl, hob, hbb⟩
        have HXb := Lib.hid (HXa.out.new hbb)
        have HYb := Lib.hid (HYa.out.new hbb)
        have HOb := Lib.hid (Rs.of_own hob)
        clear hob hbb HXa HYa
        go_wp2_with fail
        refine (rplain_same wb.heap.size wb.heap.size Ab Ay l.length l.length cb cy l wb HOb.out HYb.out.1.1 (Nat.le_refl _) (Nat.le_refl _)).mono ?_
        rintro e wc ⟨rfl, hbc⟩
        have HXc := Lib.hid (HXb.out.new hbc)
        clear hbc HXb HYb
        go_wp2
        go_ret
        exact ⟨rfl, HXc.out.1⟩
end Go.Proofs.Ytpklgbpgmeeeoaa.Idx
