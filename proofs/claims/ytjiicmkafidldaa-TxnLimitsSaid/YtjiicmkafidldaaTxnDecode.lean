/-
  Contract of package txn's Decode: it answers what the plain mathematics says of the bytes.
-/
import Derived.Test.YtjiicmkafidldaaTxnTxn
namespace Go.Proofs.Ytjiicmkafidldaa.Txn
set_option linter.unusedVariables false
set_option maxRecDepth 100000
open Go.RowKit Base FieldMath TxnMath
open Go.Proofs.Ytjiicmkafidldaa.Field (fv fv_append fv_one fv_length fv_get fv_take Flds ef ret_bool empty_iff Decoded)
set_option linter.ambiguousOpen false
set_option linter.unusedSimpArgs false

def gotX : Except Nat Tx → Tx
  | .ok t => t
  | .error _ => noTx
/-- what Decode answers -/
def DecT (w : World) (l : List UInt8) (e : Ending) (w' : World) : Prop :=
  ∃ A n c A' n' c', e = .returned (.tuple #[txv (gotX (decT l)).lsn (gotX (decT l)).kind (gotX (decT l)).mark A n c A' n' c', .int .i64 (err (decT l))]) ∧ Chs w' w'.heap.size A n c (gotX (decT l)).chs ∧ Sigs w' w'.heap.size A' n' c' (gotX (decT l)).sigs ∧ Below w.heap.size w w'
theorem decT_no {w w' : World} {l : List UInt8} {e : Ending} {k : Nat} (h : decT l = .error k) (he : e = .returned (.tuple #[txv 0 0 0 none 0 0 none 0 0, .int .i64 k])) (hb : Below w.heap.size w w') : DecT w l e w' := by
  unfold DecT
  rw [h]
  exact ⟨none, 0, 0, none, 0, 0, he, Row.nil_ _ _ _, Row.nil_ _ _ _, hb⟩
theorem decT_err {l : List UInt8} {k : Nat} (h : dec l = .error k) : decT l = .error k := by unfold decT; rw [h]
theorem takeN_err {e : Nat} : ∀ {n : Nat} {b : List UInt8}, takeN n b = .error e → e = 2 ∨ e = 3
  | 0, b, h => by rw [takeN] at h; cases h
  | n + 1, b, h => by
    rw [takeN] at h
    split at h
    · rename_i h1
      injection h with h
      subst h
      exact takeF_err h1
    · split at h
      · rename_i h1
        injection h with h
        subst h
        exact takeN_err h1
      · cases h
theorem dec_why {l : List UInt8} {k : Nat} (h : dec l = .error k) : k = 2 ∨ k = 3 := by
  unfold dec at h
  split at h
  · injection h with h; omega
  · split at h
    · injection h with h; omega
    · split at h
      · rename_i h1
        injection h with h
        subst h
        exact takeN_err h1
      · split at h
        · injection h with h; omega
        · cases h
theorem five_below {w W : World} (h : Below w.heap.size w W) (v0 v1 v2 v3 v4 : Value) : Below w.heap.size w (((((W.setCell ⟨w.heap.size, 0, none⟩ v0).setCell ⟨w.heap.size, 1, none⟩ v1).setCell ⟨w.heap.size, 2, none⟩ v2).setCell ⟨w.heap.size, 3, none⟩ v3).setCell ⟨w.heap.size, 4, none⟩ v4) :=
  ((((h.setCell (by exact Nat.le_refl _) v0).setCell (by exact Nat.le_refl _) v1).setCell (by exact Nat.le_refl _) v2).setCell (by exact Nat.le_refl _) v3).setCell (by exact Nat.le_refl _) v4
theorem decT_none {l : List UInt8} {fs : List Fld} (h : dec l = .ok fs) (hx : decX none none false fs = none) : decT l = .error 3 := by unfold decT; rw [h]; dsimp only; rw [hx]
theorem decT_some {l : List UInt8} {fs : List Fld} {t : Tx} (h : dec l = .ok fs) (hx : decX none none false fs = some t) : decT l = .ok t := by unfold decT; rw [h]; dsimp only; rw [hx]
theorem decX_off {hl hk : Option Int} {stop : Bool} {fs : List Fld} (h : (rdX hl hk stop (some fs)).2 ≠ some []) : decX hl hk stop fs = none := by
  unfold decX
  rw [if_neg]
  unfold isX
  generalize (rdX hl hk stop (some fs)).2 = s at h
  match s with
  | none => simp
  | some [] => exact absurd rfl h
  | some (f :: r) => simp
theorem decX_bad {hl hk : Option Int} {stop : Bool} {fs : List Fld} (h : (rdX hl hk stop (some fs)).1.may = false) : decX hl hk stop fs = none := by
  unfold decX
  rw [if_neg]
  unfold isX
  rw [h, Bool.and_false]
  simp
theorem decX_good {hl hk : Option Int} {stop : Bool} {fs : List Fld} (h : (rdX hl hk stop (some fs)).2 = some []) (h1 : (rdX hl hk stop (some fs)).1.may = true) : decX hl hk stop fs = some (rdX hl hk stop (some fs)).1 := by
  unfold decX
  rw [if_pos]
  unfold isX
  rw [h, h1]
  rfl

set_option maxHeartbeats 3200000 in
theorem decode_any (B : Nat) (A : Option Addr) (n c : Nat) (l : List UInt8) (w : World) (hr : Bytes w B A n c l) (hB : B ≤ w.heap.size) :
    Calls Try.prog 20 #[.slice A n c] w (DecT w l) := by
  have HR := Lib.hid hr
  clear hr
  have HX0 : Hid (Blk (w.alloc (.cells txz 25)) w.heap.size 25 txz) := Blk.new _ _ _
  have HB0 : Hid (Below w.heap.size w (w.alloc (.cells txz 25))) := (Below.refl _ _).alloc (Nat.le_refl _) _
  go_enter Try.func20, Try.ntmps20
  go_wp2_with fail
  refine (Field.decode_any B A n c l _ (HR.out.alloc hB _) (by simp; omega)).mono ?_
  rintro e w1 ⟨A1, n1, c1, rfl, hf1, hb1⟩
  have HX1 := Lib.hid (HX0.out.below hb1 HX0.out.lt)
  have HB1 := Lib.hid (held_two HB0.out hb1)
  have HF1 := Lib.hid hf1
  have hz1 : w.heap.size < w1.heap.size := HX1.out.lt
  clear hf1 hb1 HX0 HB0
  have q0 : w1.cell? ⟨w.heap.size, 0, none⟩ = some (.int .i64 0) := HX1.out.cell 0
  have q1 : w1.cell? ⟨w.heap.size, 1, none⟩ = some (.int .i64 0) := HX1.out.cell 1
  have q2 : w1.cell? ⟨w.heap.size, 2, none⟩ = some (.slice none 0 0) := HX1.out.cell 2
  have q3 : w1.cell? ⟨w.heap.size, 3, none⟩ = some (.slice none 0 0) := HX1.out.cell 3
  have q4 : w1.cell? ⟨w.heap.size, 4, none⟩ = some (.int .i64 0) := HX1.out.cell 4
  have r0 := HX1.out.frozen 0
  have r1 := HX1.out.frozen 1
  have r2 := HX1.out.frozen 2
  have r3 := HX1.out.frozen 3
  have r4 := HX1.out.frozen 4
  cases hd : dec l with
  | error k =>
    have hk0 : k ≠ 0 := by have := dec_why hd; omega
    have hk1 : ((k : Int) != 0) = true := by simp; omega
    have HD := Lib.hid (decT_err hd)
    clear hd hk0
    rw [show ((err (Except.error k : Except Nat (List Fld)) : Nat) : Int) = (k : Int) from rfl]
    go_wp2
    refine bodyPost_ret (v := .tuple #[txv 0 0 0 none 0 0 none 0 0, .int .i64 k]) (by simp [txv, results, Try.results20, go_sem, q0, q1, q2, q3, q4]) rfl ?_
    exact decT_no HD.out rfl (five_below HB1.out _ _ _ _ _)
  | ok fs =>
    have HD := Lib.hid hd
    rw [hd] at HF1
    have HF2 : Hid (Flds w1 w1.heap.size A1 n1 c1 fs) := HF1.out
    clear hd HF1 q0 q1 q2 q3 q4 r0 r1 r2 r3 r4
    rw [show ((err (Except.ok fs : Except Nat (List Fld)) : Nat) : Int) = 0 from rfl]
    go_wp2_with fail
    have HW2 : Hid (Rd (w1.alloc (.cells #[.slice A1 n1 c1, .bool false] 89)) w1.heap.size w1.heap.size (some fs)) := ⟨A1, n1, c1, fs, false, Blk.new _ _ _, HF2.out.alloc (Nat.le_refl _) _, Nat.le_refl _, rfl⟩
    refine (txn_any w1.heap.size w1.heap.size (some fs) _ HW2.out).mono ?_
    rintro e w3 ⟨A2, n2, c2, A3, n3, c3, he, hoc, hos, hrd, hg3⟩
    generalize hq : rdX none none false (some fs) = q at he hoc hos hrd
    have HQ := Lib.hid hq
    clear hq
    unfold txv at he
    subst he
    have hx3 : Blk w3 w.heap.size 25 txz := Blk.kept (HX1.out.alloc _) hg3 (by omega)
    have HX3 := Lib.hid hx3
    have HB3 : Hid (Below w.heap.size w w3) := (HB1.out.alloc (by omega) _).trans ((below_of_only hg3 (by simp)).mono (by omega))
    have HOC := Lib.hid hoc
    have HOS := Lib.hid hos
    obtain ⟨Ar, nr, cr, lr, x, hrb, hrf, _, hrs⟩ := hrd
    have hrl := hrb.lt
    have hR3 : w.heap.size < w3.heap.size := hx3.lt
    have k0 : w3.cell? ⟨w1.heap.size, 0, none⟩ = some (.slice Ar nr cr) := hrb.cell 0
    have k1 : w3.cell? ⟨w1.heap.size, 1, none⟩ = some (.bool x) := hrb.cell 1
    have HLR := Lib.hid hrf.len
    have HRS := Lib.hid hrs
    clear hg3 hoc hos hrb hrf hrs HX1 hx3
    have qb0 : w3.cell? ⟨w.heap.size, 0, none⟩ = some (.int .i64 0) := HX3.out.cell 0
    have qb1 : w3.cell? ⟨w.heap.size, 1, none⟩ = some (.int .i64 0) := HX3.out.cell 1
    have qb2 : w3.cell? ⟨w.heap.size, 2, none⟩ = some (.slice none 0 0) := HX3.out.cell 2
    have qb3 : w3.cell? ⟨w.heap.size, 3, none⟩ = some (.slice none 0 0) := HX3.out.cell 3
    have qb4 : w3.cell? ⟨w.heap.size, 4, none⟩ = some (.int .i64 0) := HX3.out.cell 4
    have rb0 := HX3.out.frozen 0
    have rb1 := HX3.out.frozen 1
    have rb2 := HX3.out.frozen 2
    have rb3 := HX3.out.frozen 3
    have rb4 := HX3.out.frozen 4
    cases x with
    | true =>
      have HE := Lib.hid (decT_none HD.out (decX_off (by rw [HQ.out, HRS.out]; simp)))
      go_wp2
      refine bodyPost_ret (v := .tuple #[txv 0 0 0 none 0 0 none 0 0, .int .i64 3]) (by simp [txv, results, Try.results20, go_sem, hR3, qb0, qb1, qb2, qb3, qb4]) rfl ?_
      exact decT_no HE.out rfl ((five_below HB3.out _ _ _ _ _).alloc (by simpa using HB3.out.size) _)
    | false =>
      by_cases hnr : nr = 0
      · subst hnr
        have hlr : lr = [] := List.eq_nil_of_length_eq_zero HLR.out
        subst hlr
        go_wp2_with fail
        refine (may_any w3.heap.size q.1.lsn q.1.kind q.1.mark A2 n2 c2 q.1.chs A3 n3 c3 q.1.sigs _ (Row.alloc (Row.of_own HOC.out) (Nat.le_refl _) _) (Row.alloc (Row.of_own HOS.out) (Nat.le_refl _) _) (by simp)).mono ?_
        rintro e w5 ⟨rfl, hb5⟩
        have HX5 := Lib.hid ((HX3.out.alloc _).below hb5 (by simp; omega))
        have HB5 := Lib.hid (held_two (HB3.out.alloc HB3.out.size _) hb5)
        have HOC5 := Lib.hid (own_keep (own_keep HOC.out ((Below.refl _ _).alloc (Nat.le_refl _) _)) hb5)
        have HOS5 := Lib.hid (own_keep (own_keep HOS.out ((Below.refl _ _).alloc (Nat.le_refl _) _)) hb5)
        have hbx : Blk w5 w3.heap.size 25 #[.int .i64 q.1.lsn, .int .i64 q.1.kind, .slice A2 n2 c2, .slice A3 n3 c3, .int .i64 q.1.mark] := (Blk.new w3 _ _).below hb5 (by simp)
        have t0 : w5.cell? ⟨w3.heap.size, 0, none⟩ = some (.int .i64 q.1.lsn) := hbx.cell 0
        have t1 : w5.cell? ⟨w3.heap.size, 1, none⟩ = some (.int .i64 q.1.kind) := hbx.cell 1
        have t2 : w5.cell? ⟨w3.heap.size, 2, none⟩ = some (.slice A2 n2 c2) := hbx.cell 2
        have t3 : w5.cell? ⟨w3.heap.size, 3, none⟩ = some (.slice A3 n3 c3) := hbx.cell 3
        have t4 : w5.cell? ⟨w3.heap.size, 4, none⟩ = some (.int .i64 q.1.mark) := hbx.cell 4
        clear hb5 hbx qb0 qb1 qb2 qb3 qb4 rb0 rb1 rb2 rb3 rb4
        have qc0 : w5.cell? ⟨w.heap.size, 0, none⟩ = some (.int .i64 0) := HX5.out.cell 0
        have qc1 : w5.cell? ⟨w.heap.size, 1, none⟩ = some (.int .i64 0) := HX5.out.cell 1
        have qc2 : w5.cell? ⟨w.heap.size, 2, none⟩ = some (.slice none 0 0) := HX5.out.cell 2
        have qc3 : w5.cell? ⟨w.heap.size, 3, none⟩ = some (.slice none 0 0) := HX5.out.cell 3
        have qc4 : w5.cell? ⟨w.heap.size, 4, none⟩ = some (.int .i64 0) := HX5.out.cell 4
        have rc0 := HX5.out.frozen 0
        have rc1 := HX5.out.frozen 1
        have rc2 := HX5.out.frozen 2
        have rc3 := HX5.out.frozen 3
        have rc4 := HX5.out.frozen 4
        have hq1 : (⟨q.1.lsn, q.1.kind, q.1.chs, q.1.sigs, q.1.mark⟩ : Tx) = q.1 := rfl
        rw [hq1]
        clear hq1
        cases hm : Tx.may q.1 with
        | true =>
          have HE := Lib.hid (decT_some HD.out (decX_good (by rw [HQ.out, HRS.out]; rfl) (by rw [HQ.out]; exact hm)))
          rw [HQ.out] at HE
          clear hm
          go_wp2
          have hon := five_on w5 w.heap.size (.int .i64 q.1.lsn) (.int .i64 q.1.kind) (.slice A2 n2 c2) (.slice A3 n3 c3) (.int .i64 q.1.mark)
          refine bodyPost_ret (v := .tuple #[txv q.1.lsn q.1.kind q.1.mark A2 n2 c2 A3 n3 c3, .int .i64 0]) (by simp [txv, results, Try.results20, go_sem, qc0, qc1, qc2, qc3, qc4]) rfl ?_
          unfold DecT
          rw [HE.out]
          refine ⟨A2, n2, c2, A3, n3, c3, rfl, Row.of_own (HOC5.out.kept hon (.inr fun e => by have := (HOC5.out.lt _ e).1; simp at this; omega)), Row.of_own (HOS5.out.kept hon (.inr fun e => by have := (HOS5.out.lt _ e).1; simp at this; omega)), five_below HB5.out _ _ _ _ _⟩
        | false =>
          have HE := Lib.hid (decT_none HD.out (decX_bad (by rw [HQ.out]; exact hm)))
          clear hm
          go_wp2
          refine bodyPost_ret (v := .tuple #[txv 0 0 0 none 0 0 none 0 0, .int .i64 3]) (by simp [txv, results, Try.results20, go_sem, qc0, qc1, qc2, qc3, qc4]) rfl ?_
          exact decT_no HE.out rfl (five_below HB5.out _ _ _ _ _)
      · have hnr0 : 0 < nr := by omega
        have HE := Lib.hid (decT_none HD.out (decX_off (by rw [HQ.out, HRS.out, if_neg (by simp)]; intro e; injection e with e; rw [e] at HLR; have := HLR.out; simp at this; omega)))
        go_wp2
        refine bodyPost_ret (v := .tuple #[txv 0 0 0 none 0 0 none 0 0, .int .i64 3]) (by simp [txv, results, Try.results20, go_sem, hR3, qb0, qb1, qb2, qb3, qb4]) rfl ?_
        exact decT_no HE.out rfl ((five_below HB3.out _ _ _ _ _).alloc (by simpa using HB3.out.size) _)
end Go.Proofs.Ytjiicmkafidldaa.Txn
