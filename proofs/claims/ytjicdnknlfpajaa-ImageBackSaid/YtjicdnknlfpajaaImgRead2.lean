/-
  Contracts of package image's reader of the image, of its open and Decode.
-/
import Derived.Test.YtjicdnknlfpajaaImgRead
import Derived.Test.YtjicdnknlfpajaaRecTake
namespace Go.Proofs.Ytjicdnknlfpajaa.Img
set_option linter.unusedVariables false
set_option maxRecDepth 100000
open Go.RowKit Base FieldMath TxnMath RecMath
open ImgMath
open IdxMath (Rw)
open Idx (rv rv_append rv_one er)
open Txn (Rd cnumber2_any upTo_any done_any open_any Opened)
set_option linter.ambiguousOpen false
set_option linter.unusedSimpArgs false

theorem etab : Elem Try.prog 49 95 1 24 (.slice none 0 0) := .of (by rfl) (by rfl) rfl (by omega)
/-- a row of slices of rows, all of the call's own -/
def OwnTabs (w : World) (base : Nat) (A : Option Addr) (n c : Nat) (T : List (List Rw)) : Prop :=
  ∃ vs, w.ownsRow base 95 1 (.slice A n c) n vs ∧ vs.length = T.length ∧ ∀ (i : Nat) v l, vs[i]? = some v → T[i]? = some l → ∃ A' n' c', v = .slice A' n' c' ∧ w.ownsRow base 97 2 (.slice A' n' c') n' (rv l)
section
variable {w w' : World} {base n c g : Nat} {A : Option Addr} {T : List (List Rw)}
theorem OwnTabs.nil_ (w : World) (base : Nat) : OwnTabs w base none 0 0 [] := ⟨[], World.ownsRow_nil _ _ _ _, rfl, fun i v l h => by simp at h⟩
theorem OwnTabs.tabs (h : OwnTabs w base A n c T) : Tabs w w.heap.size A n c T := by
  obtain ⟨vs, h1, h2, h3⟩ := h
  refine ⟨vs, Row.of_own h1, h2, fun i v l hv hl => ?_⟩
  obtain ⟨A', n', c', e, h4⟩ := h3 i v l hv hl
  exact ⟨A', n', c', e, Idx.Rs.of_own h4⟩
theorem OwnTabs.len (h : OwnTabs w base A n c T) : T.length = n := h.tabs.len
theorem OwnTabs.keep (h : OwnTabs w base A n c T) (hb : Below w.heap.size w w') : OwnTabs w' base A n c T := by
  obtain ⟨vs, h1, h2, h3⟩ := h
  refine ⟨vs, own_keep h1 hb, h2, fun i v l hv hl => ?_⟩
  obtain ⟨A', n', c', e, h4⟩ := h3 i v l hv hl
  exact ⟨A', n', c', e, own_keep h4 hb⟩
theorem OwnTabs.off (h : OwnTabs w base A n c T) (hlt : g < base) (hg : w.grownBy w' (some g)) : OwnTabs w' base A n c T := by
  obtain ⟨vs, h1, h2, h3⟩ := h
  refine ⟨vs, own_off h1 hlt hg, h2, fun i v l hv hl => ?_⟩
  obtain ⟨A', n', c', e, h4⟩ := h3 i v l hv hl
  exact ⟨A', n', c', e, own_off h4 hlt hg⟩
theorem OwnTabs.mono {base' : Nat} (h : OwnTabs w base A n c T) (hb : base' ≤ base) : OwnTabs w base' A n c T := by
  obtain ⟨vs, h1, h2, h3⟩ := h
  refine ⟨vs, own_mono h1 hb, h2, fun i v l hv hl => ?_⟩
  obtain ⟨A', n', c', e, h4⟩ := h3 i v l hv hl
  exact ⟨A', n', c', e, own_mono h4 hb⟩
end
/-- one table more, at the end -/
theorem OwnTabs.snoc {w w' : World} {base n c : Nat} {A A2 Al : Option Addr} {c2 nl cl : Nat} {T : List (List Rw)} {vs : List Value} {l : List Rw}
    (h1 : w.ownsRow base 95 1 (.slice A n c) n vs) (h2 : vs.length = T.length) (h3 : ∀ (i : Nat) v l, vs[i]? = some v → T[i]? = some l → ∃ A' n' c', v = .slice A' n' c' ∧ w.ownsRow base 97 2 (.slice A' n' c') n' (rv l))
    (hl : w.ownsRow base 97 2 (.slice Al nl cl) nl (rv l)) (ho : w'.ownsRow base 95 1 (.slice A2 (n + 1) c2) (n + 1) (vs ++ [.slice Al nl cl])) (hg : w.grownBy w' (Value.slice A n c).ownBlock) : OwnTabs w' base A2 (n + 1) c2 (T ++ [l]) := by
  have keep : ∀ {A' : Option Addr} {n' c' : Nat} {m : List Rw}, w.ownsRow base 97 2 (.slice A' n' c') n' (rv m) → w'.ownsRow base 97 2 (.slice A' n' c') n' (rv m) := fun k => k.kept hg (own_types k h1 (by decide))
  refine ⟨_, ho, by rw [List.length_append, List.length_append, h2]; rfl, fun i v m hv hm => ?_⟩
  by_cases hi : i < vs.length
  · rw [List.getElem?_append_left hi] at hv
    rw [List.getElem?_append_left (by omega)] at hm
    obtain ⟨A', n', c', e, h4⟩ := h3 i v m hv hm
    exact ⟨A', n', c', e, keep h4⟩
  · rw [List.getElem?_append_right (by omega)] at hv
    rw [List.getElem?_append_right (by omega)] at hm
    have h0 : i - vs.length = 0 := by
      rcases Nat.eq_zero_or_pos (i - vs.length) with h0 | h0
      · exact h0
      · rw [List.getElem?_eq_none (by simp; omega)] at hv; cases hv
    have h1' : i - T.length = 0 := by omega
    rw [h0] at hv
    rw [h1'] at hm
    simp only [List.getElem?_cons_zero, Option.some.injEq] at hv hm
    subst hv hm
    exact ⟨Al, nl, cl, rfl, keep hl⟩
theorem one_slice (w : World) (A : Option Addr) (n c : Nat) {s : Nat} (hs : s = w.heap.size) : Row (w.alloc (.cells #[.slice A n c] 95)) (w.heap.size + 1) 1 (some ⟨s, 0, none⟩) 1 1 [.slice A n c] :=
  Row.lit w #[.slice A n c] 95 (0, 0) hs rfl (by omega)
def ImRel (w : World) (B g N : Nat) (s0 : Rst) (vl vi : Value) (wr : World) : Prop :=
  ∃ (k : Nat) (pre : List (List Rw)) (s : Rst) (A : Option Addr) (c : Nat), k ≤ N ∧ vi = .int .i64 k ∧ vl = .slice A k c ∧ rdTabs none false N s0 = (pre ++ (rdTabs none false (N - k) s).1, (rdTabs none false (N - k) s).2) ∧
    OwnTabs wr (w.heap.size + 1) A k c pre ∧ ImSt w B g s wr
/-- what the reader of an image answers -/
def ReadIm (w : World) (B g : Nat) (q : Im × Rst) (e : Ending) (w' : World) : Prop :=
  ∃ A n c, e = .returned (.tuple #[.int .i64 q.1.lsn, .slice A n c]) ∧ OwnTabs w' w.heap.size A n c q.1.tabs ∧ Rd w' B g q.2 ∧ w.grownBy w' (some g)
set_option maxHeartbeats 3200000 in
theorem image_any (B g : Nat) (s : Rst) (w : World) (h : Rd w B g s) :
    Calls Try.prog 66 #[.agg #[.pointer (some ⟨g, 0, none⟩)]] w (ReadIm w B g (rdI none none false s)) := by
  obtain ⟨a, ha⟩ : ∃ a, a = rdN none s := ⟨_, rfl⟩
  obtain ⟨n, hn⟩ : ∃ n, n = rdN (some 8) a.2 := ⟨_, rfl⟩
  have hn2 := rdN_range (show (0 : Int) ≤ 8 by omega) a.2
  rw [← hn] at hn2
  obtain ⟨N, hN⟩ : ∃ N : Nat, n.1 = N := ⟨n.1.toNat, by omega⟩
  rw [hN] at hn2
  obtain ⟨d, hd⟩ : ∃ d, d = rdTabs none false N n.2 := ⟨_, rfl⟩
  have HE : Hid (rdI none none false s = (⟨a.1, d.1⟩, d.2)) := by
    show _ = _
    rw [hd, ← Int.toNat_natCast N, ← hN, hn, ha]
    rfl
  have HA := Lib.hid ha
  have HNN := Lib.hid hn
  have HN := Lib.hid hN
  have HD := Lib.hid hd
  have HR := Lib.hid h
  have hlt := h.lt
  clear h ha hn hN hd
  go_enter Try.func66, Try.ntmps66
  go_wp2_with fail
  have HT0 : Hid (ImSt w B g s (w.alloc (.cells #[.pointer (some ⟨g, 0, none⟩)] 103))) := ImSt.start HR.out
  refine (cnumber2_any B g s _ HT0.out.1).mono ?_
  rintro e w1 ⟨he1, hr1, hg1⟩
  rw [← HA.out] at he1 hr1
  subst he1
  have HT1 := Lib.hid (HT0.out.call hlt hr1 hg1)
  have c1 := HT1.out.recv
  clear hr1 hg1 HT0
  go_wp2_with fail
  refine (upTo_any B g a.2 8 _ HT1.out.1 (by omega)).mono ?_
  rintro e w2 ⟨he2, hr2, hg2⟩
  rw [show ((8 : Nat) : Int) = 8 from rfl, ← HNN.out, HN.out] at he2
  rw [show ((8 : Nat) : Int) = 8 from rfl, ← HNN.out] at hr2
  subst he2
  have HT2 := Lib.hid (HT1.out.call hlt hr2 hg2)
  clear hr2 hg2 HT1 c1
  go_wp2
  go_loopw [5, 12] (fun vl vi wr => ImRel w B g N n.2 vl vi wr) (fun _ vi _ => N - (intOf vi).toNat)
  case atStart => exact ⟨0, [], n.2, none, 0, by omega, rfl, rfl, rfl, OwnTabs.nil_ _ _, HT2.out⟩
  case round =>
    obtain ⟨k, pre, s1, A, cp, hk, rfl, rfl, hrd, hown, hst⟩ := hrel
    have c1 := hst.recv
    have HRD := Lib.hid hrd
    have HO := Lib.hid hown
    have HT := Lib.hid hst
    clear hrd hown hst HT2
    by_cases hlk : k < N
    · have HST := Lib.hid (rdTabs_step HRD.out hlk)
      have l1 : (k : Int) < (N : Int) := by omega
      go_wp2_with fail
      refine (table_any B g s1 _ HT.out.1).mono ?_
      rintro e w5 ⟨A5, n5, c5, rfl, ho5, hr5, hg5⟩
      have hz := HT.out.2.1.lt
      have HT5 := Lib.hid (HT.out.call hlt hr5 hg5)
      have HO5 := Lib.hid (HO.out.off (by omega) hg5)
      have HL5 := Lib.hid (own_mono (base' := w.heap.size + 1) ho5 (by omega))
      obtain ⟨f, hf⟩ : ∃ f, f = (rdTab none false s1).1 := ⟨_, rfl⟩
      rw [← hf] at HST HL5
      clear hf hr5 hg5 ho5
      have hz5 := HT5.out.2.1.lt
      have HO6 := Lib.hid (HO5.out.keep ((Below.refl _ _).alloc (Nat.le_refl _) (.cells #[.slice A5 n5 c5] 95)))
      have HL6 := Lib.hid (own_keep HL5.out ((Below.refl _ _).alloc (Nat.le_refl _) (.cells #[.slice A5 n5 c5] 95)))
      obtain ⟨vs, hv1, hv2, hv3⟩ := HO6.out
      have HV1 := Lib.hid hv1
      have HV2 := Lib.hid hv2
      have HV3 := Lib.hid hv3
      clear hv1 hv2 hv3
      go_wp2_with (first
        | (at_builtin
           refine wpList_append_row rfl (.tmp 14) (.tmp 17) rfl etab (w.heap.size + 1) (.slice A k cp) k vs rfl HV1.out (w5.heap.size + 1) (some ⟨w5.heap.size, 0, none⟩) 1 1 [.slice A5 n5 c5] rfl (one_slice w5 A5 n5 c5 rfl) (fun u hu => by rw [List.mem_singleton] at hu; subst hu; rfl) (by omega) (by omega) (by simp; omega) ?_
           intro A6 c6 w6 hown6 hg6 hb6
           have HO7 := Lib.hid (OwnTabs.snoc HV1.out HV2.out HV3.out HL6.out hown6 hg6.1)
           have HT6 := Lib.hid ((HT5.out.alloc (.cells #[.slice A5 n5 c5] 95)).below hlt hb6)
           clear hown6 hg6 hb6)
        | fail)
      go_roundw
      case rel => exact ⟨k + 1, pre ++ [f], (rdTab none false s1).2, A6, c6, by omega, by go_num, rfl, HST.out, HO7.out, HT6.out⟩
      case measure => simp [intOf]; omega
    · have HD1 : Hid (d = (pre, s1)) := by
        show d = _
        rw [HD.out, HRD.out, show N - k = 0 by omega]
        simp [rdTabs]
      have l1 : ¬ (k : Int) < (N : Int) := by omega
      go_wp2
      go_ret2
      rw [HE.out, HD1.out]
      exact ⟨A, k, cp, rfl, HO.out.mono (by omega), HT.out.1, HT.out.2.2⟩

/-- what open answers: a reader of the record's fields, or none -/
def OpenedI (w : World) (q : Option (List Fld)) (e : Ending) (w' : World) : Prop :=
  match q with
  | some fs => ∃ g, e = .returned (.tuple #[.agg #[.pointer (some ⟨g, 0, none⟩)], .bool true]) ∧ w.heap.size ≤ g ∧ Rd w' g g (some fs) ∧ Below w.heap.size w w'
  | none => e = .returned (.tuple #[.agg #[.pointer none], .bool false]) ∧ Below w.heap.size w w'
theorem tk_tsize {b p : List UInt8} (h : tk b = .ok p) : tsize (tk b) = 8 + p.length := by rw [h]; rfl
theorem fv_no (l : List Fld) : ∀ u ∈ Field.fv l, ∀ q, u ≠ .pointer q := by
  intro u hu q e
  subst e
  induction l with
  | nil => cases hu
  | cons f r ih =>
    unfold Field.fv at hu ih
    rw [List.flatMap_cons] at hu
    rcases List.mem_append.1 hu with h | h
    · simp [Field.fcells] at h
    · exact ih h
/-- a store into a block that holds a pointer alone -/
theorem Rd.past {w : World} {B g p : Nat} {s : Rst} {T : TypeId} {q : Option Addr} (h : Rd w B g s) (hp : Blk w p T #[.pointer q]) (hne : p ≠ g) (u : Value) : Rd (w.setCell ⟨p, 0, none⟩ u) B g s := by
  obtain ⟨A, n, c, l, x, h1, h2, h3, h4⟩ := h
  refine ⟨A, n, c, l, x, h1.far (by exact fun e => hne e.symm) u, ⟨h2.1, h2.2.1, h2.2.2.1, fun hn => ?_⟩, h3, h4⟩
  obtain ⟨b, off, e, hb, hc⟩ := h2.2.2.2 hn
  refine ⟨b, off, e, hb, fun j v hv => ?_⟩
  by_cases hbp : b = p
  · exfalso
    subst hbp
    have h5 := hc j v hv
    rw [hp.cell] at h5
    have h6 : v = .pointer q := by
      rcases Nat.eq_zero_or_pos (off + j) with h0 | h0
      · rw [h0] at h5; simp at h5; exact h5.symm
      · rw [Array.getElem?_eq_none (by simp; omega)] at h5; cases h5
    exact fv_no l v (List.mem_of_getElem? hv) q h6
  · exact (World.cell?_of_block (Below.heap_setCell w _ _ b (by exact hbp))).trans (hc j v hv)
set_option maxHeartbeats 3200000 in
theorem open_anyI (B : Nat) (A : Option Addr) (n c : Nat) (l : List UInt8) (w : World) (hr : Bytes w B A n c l) (hB : B ≤ w.heap.size) :
    Calls Try.prog 65 #[.slice A n c] w (OpenedI w (ImgMath.fieldsOf l)) := by
  have HR := Lib.hid hr
  have HL := Lib.hid hr.len
  have hle := hr.le
  clear hr
  have HX0 : Hid (Blk (w.alloc (.cells #[.pointer none] 103)) w.heap.size 103 #[.pointer none]) := Blk.new _ _ _
  have HB0 : Hid (Below w.heap.size w (w.alloc (.cells #[.pointer none] 103))) := (Below.refl _ _).alloc (Nat.le_refl _) _
  go_enter Try.func65, Try.ntmps65
  go_wp2_with fail
  refine (Rec.take_any B A n c l _ (HR.out.alloc hB _) (by simp; omega)).mono ?_
  rintro e w1 ⟨A1, n1, c1, rfl, ho1, hb1⟩
  have HX1 := Lib.hid (HX0.out.below hb1 HX0.out.lt)
  have HB1 := Lib.hid (held_two HB0.out hb1)
  have x0 : w1.cell? ⟨w.heap.size, 0, none⟩ = some (.pointer none) := HX1.out.cell 0
  have f0 := HX1.out.frozen 0
  cases htk : tk l with
  | error k =>
    have hk0 := tk_err htk
    have hk1 : ((k : Int) != 0) = true := by simp; omega
    have HF := Lib.hid (show ImgMath.fieldsOf l = none by unfold ImgMath.fieldsOf; rw [htk])
    rw [htk] at ho1
    clear ho1 hb1 htk hk0 HX0 HB0
    rw [show ((err (Except.error k : Except Nat (List UInt8)) : Nat) : Int) = (k : Int) from rfl, show ((tsize (Except.error k) : Nat) : Int) = 0 from rfl]
    go_wp2
    refine bodyPost_ret (v := .tuple #[.agg #[.pointer none], .bool false]) (by simp [results, Try.results65, go_sem, x0]) rfl ?_
    rw [HF.out]
    exact ⟨rfl, HB1.out.setCell (by exact Nat.le_refl _) _⟩
  | ok p =>
    have hfit := tk_fits htk
    rw [htk] at ho1
    have HO1 : Hid (Bytes w1 w1.heap.size A1 n1 c1 p) := Bytes.of_own ho1
    have HO1L := Lib.hid HO1.out.len
    rw [show ((err (Except.ok p : Except Nat (List UInt8)) : Nat) : Int) = 0 from rfl, show ((tsize (Except.ok p) : Nat) : Int) = ((8 + p.length : Nat) : Int) from rfl]
    obtain ⟨m, hm⟩ : ∃ m, m = 8 + p.length := ⟨_, rfl⟩
    rw [← hm]
    have hmn : m ≤ n := by have := HL.out; omega
    have hm2 : m ≤ 9223372036854775807 := by omega
    by_cases hlt : m < n
    · have HF := Lib.hid (show ImgMath.fieldsOf l = none by unfold ImgMath.fieldsOf; rw [htk]; dsimp only; rw [if_neg (by have := HL.out; omega)])
      have l1 : (m : Int) < (n : Int) := by omega
      clear ho1 hb1 htk HX0 HB0 hm hfit
      go_wp2
      refine bodyPost_ret (v := .tuple #[.agg #[.pointer none], .bool false]) (by simp [results, Try.results65, go_sem, x0]) rfl ?_
      rw [HF.out]
      exact ⟨rfl, HB1.out.setCell (by exact Nat.le_refl _) _⟩
    · have l1 : ¬ (m : Int) < (n : Int) := by omega
      have HFE := Lib.hid (show ∀ q, dec p = q → ImgMath.fieldsOf l = (match q with | .error _ => none | .ok fs => some fs) from fun q hq => by unfold ImgMath.fieldsOf; rw [htk]; dsimp only; rw [if_pos (by have := HL.out; omega), hq]; cases q <;> rfl)
      clear ho1 hb1 htk HX0 HB0 hm hfit x0 f0
      go_wp2_with fail
      refine (open_any w1.heap.size A1 n1 c1 p w1 HO1.out (Nat.le_refl _)).mono ?_
      intro e w2 h2
      unfold Opened at h2
      cases hd : dec p with
      | error k =>
        rw [hd] at h2
        obtain ⟨rfl, hb2⟩ := h2
        have hk0 := Txn.dec_why hd
        have hk1 : ((k : Int) != 0) = true := by simp; omega
        have HF := Lib.hid (HFE.out _ hd)
        have HX2 := Lib.hid (HX1.out.below hb2 HX1.out.lt)
        have HB2 := Lib.hid (held_two HB1.out hb2)
        have x0 : w2.cell? ⟨w.heap.size, 0, none⟩ = some (.pointer none) := HX2.out.cell 0
        have f0 := HX2.out.frozen 0
        clear hd hb2 hk0
        go_wp2
        refine bodyPost_ret (v := .tuple #[.agg #[.pointer none], .bool false]) (by simp [results, Try.results65, go_sem, x0]) rfl ?_
        rw [HF.out]
        exact ⟨rfl, HB2.out.setCell (by exact Nat.le_refl _) _⟩
      | ok fs =>
        rw [hd] at h2
        obtain ⟨g, rfl, hge, hrd, hb2⟩ := h2
        have HF := Lib.hid (HFE.out _ hd)
        have HX2 := Lib.hid (HX1.out.below hb2 HX1.out.lt)
        have HB2 := Lib.hid (held_two HB1.out hb2)
        have x0 : w2.cell? ⟨w.heap.size, 0, none⟩ = some (.pointer none) := HX2.out.cell 0
        have f0 := HX2.out.frozen 0
        have hw1 := HX1.out.lt
        have HRD := Lib.hid hrd
        have hgw : w.heap.size ≤ g := by omega
        clear hd hb2 hrd
        go_wp2
        refine bodyPost_ret (v := .tuple #[.agg #[.pointer (some ⟨g, 0, none⟩)], .bool true]) (by simp [results, Try.results65, go_sem, x0]) rfl ?_
        rw [HF.out]
        have hgr : w.heap.size < g := by omega
        exact ⟨g, rfl, hgw, Rd.past HRD.out HX2.out (by omega) _, HB2.out.setCell (by exact Nat.le_refl _) _⟩

/-- what Decode answers, of bytes -/
def gotI : Option Im → Im
  | some x => x
  | none => noIm
def DecI (w : World) (q : Option Im) (e : Ending) (w' : World) : Prop :=
  ∃ A n c, e = .returned (.tuple #[.int .i64 (gotI q).lsn, .slice A n c, .int .i64 (if q.isSome then 0 else 3)]) ∧ OwnTabs w' w.heap.size A n c (gotI q).tabs ∧ Below w.heap.size w w'
theorem decI_no {w w' : World} {q : Option Im} {e : Ending} (h : q = none) (he : e = .returned (.tuple #[.int .i64 0, .slice none 0 0, .int .i64 3])) (hb : Below w.heap.size w w') : DecI w q e w' := by
  subst h
  exact ⟨none, 0, 0, he, OwnTabs.nil_ _ _, hb⟩
theorem isEnd_ends (s : Rst) : Txn.isEnd s = ends s := by
  unfold Txn.isEnd ends
  split <;> simp_all
theorem decI_fields {l : List UInt8} {fs : List Fld} (h : ImgMath.fieldsOf l = some fs) : decI l = ImgMath.decX none none false fs := by unfold decI; rw [h]
set_option maxHeartbeats 3200000 in
theorem decode_any (B : Nat) (A : Option Addr) (n c : Nat) (l : List UInt8) (w : World) (hr : Bytes w B A n c l) (hB : B ≤ w.heap.size) :
    Calls Try.prog 33 #[.slice A n c] w (DecI w (decI l)) := by
  have HR := Lib.hid hr
  clear hr
  go_enter Try.func33, Try.ntmps33
  go_wp2_with fail
  refine (open_anyI B A n c l w HR.out hB).mono ?_
  intro e w1 h1
  unfold OpenedI at h1
  cases hf : ImgMath.fieldsOf l with
  | none =>
    rw [hf] at h1
    obtain ⟨rfl, hb1⟩ := h1
    have HB1 := Lib.hid hb1
    have HD := Lib.hid (show decI l = none by unfold decI; rw [hf])
    clear hf hb1
    go_wp2
    refine bodyPost_ret (v := .tuple #[.int .i64 0, .slice none 0 0, .int .i64 3]) (by simp [results, Try.results33, go_sem]) rfl ?_
    exact decI_no HD.out rfl (HB1.out.alloc HB1.out.size _)
  | some fs =>
    rw [hf] at h1
    obtain ⟨g, rfl, hge, hrd1, hb1⟩ := h1
    have HDF := Lib.hid (decI_fields hf)
    have HB1 := Lib.hid hb1
    have hgl := hrd1.lt
    have HRD1 := Lib.hid (hrd1.alloc (.cells #[.pointer (some ⟨g, 0, none⟩)] 103))
    have HP1 := Lib.hid (Blk.new w1 103 #[.pointer (some ⟨g, 0, none⟩)])
    have hpne : w1.heap.size ≠ g := by omega
    clear hf hb1 hrd1
    go_wp2_with fail
    refine (image_any g g (some fs) _ HRD1.out).mono ?_
    rintro e w3 ⟨A3, n3, c3, rfl, ho3, hrd3, hg3⟩
    have hp3 : Blk w3 w1.heap.size 103 #[.pointer (some ⟨g, 0, none⟩)] := Txn.Blk.kept HP1.out hg3 hpne
    have p0 : w3.cell? ⟨w1.heap.size, 0, none⟩ = some (.pointer (some ⟨g, 0, none⟩)) := hp3.cell 0
    have HB3 : Hid (Below w.heap.size w w3) := (HB1.out.alloc HB1.out.size (.cells #[.pointer (some ⟨g, 0, none⟩)] 103)).grown hg3 (by have := HB1.out.size; simp; omega) (fun x hx => by injection hx; omega)
    generalize hq : rdI none none false (some fs) = q at *
    have HQ := Lib.hid hq
    have HO3 := Lib.hid (ho3.mono (base' := w.heap.size) (by have := HB1.out.size; simp; omega))
    have HT3 := Lib.hid ho3.tabs
    have HRD3 := Lib.hid hrd3
    clear hq ho3 hrd3 hg3 hp3 HRD1 HP1
    cases hend : Txn.isEnd q.2 with
    | false =>
      have HEND := Lib.hid hend
      have HD := Lib.hid (show decI l = none by rw [HDF.out]; unfold ImgMath.decX; rw [HQ.out, ← isEnd_ends, hend]; rfl)
      clear hend
      go_wp2_with fail
      refine (done_any g g q.2 _ HRD3.out).mono ?_
      rintro e w4 ⟨rfl, rfl⟩
      rw [HEND.out]
      go_wp2
      refine bodyPost_ret (v := .tuple #[.int .i64 0, .slice none 0 0, .int .i64 3]) (by simp [results, Try.results33, go_sem]) rfl ?_
      exact decI_no HD.out rfl HB3.out
    | true =>
      have HEND := Lib.hid hend
      have HDE := Lib.hid (show decI l = if q.1.may = true then some q.1 else none by rw [HDF.out]; unfold ImgMath.decX; rw [HQ.out, ← isEnd_ends, hend]; cases q.1.may <;> rfl)
      clear hend
      go_wp2_with fail
      refine (done_any g g q.2 _ HRD3.out).mono ?_
      rintro e w4 ⟨rfl, rfl⟩
      rw [HEND.out]
      go_wp2_with fail
      refine (may_any w3.heap.size q.1.lsn A3 n3 c3 q.1.tabs w3 HT3.out (Nat.le_refl _)).mono ?_
      rintro e w5 ⟨rfl, hb5⟩
      have HB5 := Lib.hid (held_two HB3.out hb5)
      have HO5 := Lib.hid (HO3.out.keep hb5)
      rw [show (Im.mk q.1.lsn q.1.tabs) = q.1 from rfl]
      clear hb5
      cases hm : q.1.may with
      | true =>
        have HD := Lib.hid (show decI l = some q.1 by rw [HDE.out, if_pos hm])
        clear hm
        go_wp2
        refine bodyPost_ret (v := .tuple #[.int .i64 q.1.lsn, .slice A3 n3 c3, .int .i64 0]) (by simp [results, Try.results33, go_sem]) rfl ?_
        rw [HD.out]
        exact ⟨A3, n3, c3, rfl, HO5.out, HB5.out⟩
      | false =>
        have HD := Lib.hid (show decI l = none by rw [HDE.out, if_neg (by rw [hm]; simp)])
        clear hm
        go_wp2
        refine bodyPost_ret (v := .tuple #[.int .i64 0, .slice none 0 0, .int .i64 3]) (by simp [results, Try.results33, go_sem]) rfl ?_
        exact decI_no HD.out rfl HB5.out
end Go.Proofs.Ytjicdnknlfpajaa.Img
