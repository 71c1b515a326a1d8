/-
  The walk of FoldAll: any transactions come to what the document says.
-/
import Derived.Test.YtlgdbpejefgeaaaFoldAwake
import Derived.Test.YtlgdbpejefgeaaaFoldRef3
import Derived.Test.YtlgdbpejefgeaaaTabsSame
import Derived.Test.YtlgdbpejefgeaaaPlayTxns2
namespace Go.Proofs.Ytlgdbpejefgeaaa.Fold
set_option linter.unusedVariables false
set_option linter.unusedSimpArgs false
set_option maxRecDepth 100000
open Go.RowKit Base IdxMath FoldMath Foot
open TxnMath (Ch Tx)
open PChg (gval Cs)
open PTx
open Lsts (Lsts)
open Idx (Rs)
open Go.Proofs.Ytlgdbpejefgeaaa.Field (modZ modZ_lt mod_any bigZ bigZ_lt playbig_any)
set_option linter.ambiguousOpen false

theorem good_chs {N : Nat} {l : List Tx} (h : AllGood N l) {k : Nat} {c : Ch} (hc : c ∈ chs l k) : c.may N = true := by
  unfold chs at hc
  obtain ⟨x, hx, hcx⟩ := List.mem_flatMap.1 hc
  obtain ⟨i, hi⟩ := List.getElem?_of_mem (List.mem_of_mem_take hx)
  exact (h i x hi).chs c hcx
theorem may_key {N : Int} {c : Ch} (h : c.may N = true) : 1 ≤ c.key ∧ c.key ≤ 1099511627776 := by
  unfold TxnMath.Ch.may at h
  simp only [Bool.and_eq_true, decide_eq_true_eq] at h
  exact ⟨h.2.2.1, h.2.2.2.1⟩
theorem good_in64 {N : Nat} {l : List Tx} (h : AllGood N l) {k : Nat} : ∀ c ∈ chs l k, In64 c.key := fun c hc => by
  have := may_key (good_chs h hc)
  exact ⟨by omega, by omega⟩
theorem good_len {N : Nat} {l : List Tx} (h : AllGood N l) : ∀ k, (chs l k).length ≤ 5 * k := by
  intro k
  induction k with
  | zero => rw [chs_zero]; simp
  | succ k ih =>
    cases hx : l[k]? with
    | none =>
      have e : chs l (k + 1) = chs l k := by
        unfold chs
        rw [List.take_of_length_le (by have := List.getElem?_eq_none_iff.1 hx; omega), List.take_of_length_le (List.getElem?_eq_none_iff.1 hx)]
      rw [e]; omega
    | some x =>
      rw [chs_succ hx, List.length_append]
      have := (h k x hx).few
      omega
theorem ok_chs {l : List Tx} (h : ∀ x ∈ l, OkTx x) {k : Nat} : ∀ c ∈ chs l k, In64 c.key := fun c hc => by
  unfold chs at hc
  obtain ⟨x, hx, hcx⟩ := List.mem_flatMap.1 hc
  exact ((h x (List.mem_of_mem_take hx)).1 c hcx).1
theorem ok_play {l : List Tx} (h : ∀ x ∈ l, OkTx x) : ∀ x ∈ l, (∀ f ∈ x.chs, f.val.size ≤ 9223372036854775807) ∧ ∀ f ∈ x.sigs, f.size ≤ 9223372036854775807 := fun x hx => ⟨fun f hf => ((h x hx).1 f hf).2, (h x hx).2.1⟩
/-- true, and nothing below has turned -/
def Yes (w : World) (e : Ending) (w' : World) : Prop := e = .returned (.bool true) ∧ Below w.heap.size w w'

set_option maxHeartbeats 6400000 in
theorem all_walk (N k : Int) (A : Option Addr) (n c : Nat) (l : List Tx) (w : World) (h : Txs w w.heap.size A n c l) (hok : ∀ x ∈ l, OkTx x) (hl : l.length ≤ 140737488355328) :
    Calls Try.prog 3 #[.int .i64 N, .slice A n c, .int .i64 k] w (Yes w) := by
  have hlen := h.len
  have HL := Lib.hid h
  have HOK := Lib.hid hok
  clear h hok
  go_enter Try.func3, Try.ntmps3
  go_wp2_with fail
  refine (few_any w.heap.size A n c l w HL.out HOK.out hl).mono ?_
  rintro e w1 ⟨g, rfl, rfl, hg⟩
  cases g with
  | false =>
    go_wp2_with fail
    refine (awake_any w).mono ?_
    rintro e w1 ⟨rfl, hb⟩
    have HB := Lib.hid hb
    clear hb
    go_wp2
    go_ret
    exact ⟨rfl, HB.out⟩
  | true =>
    obtain ⟨hg1, hg2⟩ := hg rfl
    rw [hlen] at hg2
    have HG2 := Lib.hid hg2
    clear hg hg2
    go_wp2_with fail
    refine (mod_any N 10 w (by omega) (by omega)).mono ?_
    rintro e w1 ⟨rfl, rfl⟩
    generalize modZ N 10 = m
    go_wp2_with fail
    refine (ptxns_any 8 30 (by omega) (by omega) (by omega) w.heap.size A n c l w HL.out (Nat.le_refl _) (ok_play HOK.out)).mono ?_
    rintro e w1 ⟨t, A1, n1, c1, rfl, hn1, ht1, hgood, hb1⟩
    have HT1 := Lib.hid ht1
    have HGD := Lib.hid hgood
    have HB1 := Lib.hid hb1
    have hn1' := ht1.len
    clear ht1 hgood hb1
    go_wp2_with fail
    refine (awake_any w1).mono ?_
    rintro e w2 ⟨rfl, hb2⟩
    have HB2 : Hid (Below w.heap.size w w2) := held_two HB1.out hb2
    have HT2 := Lib.hid ((HT1.out.below hb2).more hb2.size)
    clear hb2
    -- any transactions, any place
    go_wp2_with fail
    refine (fold_any N w.heap.size A n c l k w2 (HL.out.below HB2.out) HB2.out.size (ok_chs HOK.out) (by have := HG2.out; omega)).mono ?_
    rintro e w3 ⟨A3, n3, c3, rfl, hls3, hb3⟩
    have HS3 := Lib.hid (rz_rs hls3)
    have HB3 : Hid (Below w.heap.size w w3) := held_two HB2.out hb3
    have HT3 := Lib.hid ((HT2.out.below hb3).more hb3.size)
    clear hls3 hb3
    go_wp2_with fail
    refine (reffold_any N w.heap.size A n c l k w3 (HL.out.below HB3.out) HB3.out.size (by have := HG2.out; omega)).mono ?_
    rintro e w4 ⟨A4, n4, c4, rfl, hls4, hb4⟩
    have HS4 := Lib.hid (rz_rs hls4)
    have HS3b : Hid (Lsts Rs w4 w3.heap.size A3 n3 c3 (foldT N l k)) := HS3.out.below hb4 fun _ _ _ _ hh => Row.below hh hb4
    have HB4 : Hid (Below w.heap.size w w4) := held_two HB3.out hb4
    have HT4 := Lib.hid ((HT3.out.below hb4).more hb4.size)
    have hz4 := hb4.size
    clear hls4 hb4
    go_wp2_with fail
    refine (Same.tables_same w3.heap.size w4.heap.size A3 A4 n3 n4 c3 c4 (foldT N l k) w4 HS3b.out HS4.out hz4 (Nat.le_refl _)).mono ?_
    rintro e w5 ⟨rfl, hb5⟩
    have HB5 : Hid (Below w.heap.size w w5) := held_two HB4.out hb5
    have HT5 := Lib.hid ((HT4.out.below hb5).more hb5.size)
    clear hb5 HS3 HS4 HS3b HT1 HT2 HT3 HT4
    -- transactions that may be
    go_wp2_with fail
    refine (fold_any m w5.heap.size A1 n1 c1 t k w5 HT5.out (Nat.le_refl _) (good_in64 HGD.out) (by have := good_len HGD.out n1; omega)).mono ?_
    rintro e w6 ⟨A6, n6, c6, rfl, hls6, hb6⟩
    have HS6 := Lib.hid (rz_rs hls6)
    have HB6 : Hid (Below w.heap.size w w6) := held_two HB5.out hb6
    have HT6 := Lib.hid ((HT5.out.below hb6).more hb6.size)
    clear hls6 hb6
    go_wp2_with fail
    refine (reffold_any m w6.heap.size A1 n1 c1 t k w6 HT6.out (Nat.le_refl _) (by have := good_len HGD.out n1; omega)).mono ?_
    rintro e w7 ⟨A7, n7, c7, rfl, hls7, hb7⟩
    have HS7 := Lib.hid (rz_rs hls7)
    have HS6b : Hid (Lsts Rs w7 w6.heap.size A6 n6 c6 (foldT m t k)) := HS6.out.below hb7 fun _ _ _ _ hh => Row.below hh hb7
    have HB7 : Hid (Below w.heap.size w w7) := held_two HB6.out hb7
    have HT7 := Lib.hid ((HT6.out.below hb7).more hb7.size)
    have hz7 := hb7.size
    clear hls7 hb7
    go_wp2_with fail
    refine (Same.tables_same w6.heap.size w7.heap.size A6 A7 n6 n7 c6 c7 (foldT m t k) w7 HS6b.out HS7.out hz7 (Nat.le_refl _)).mono ?_
    rintro e w8 ⟨rfl, hb8⟩
    have HB8 : Hid (Below w.heap.size w w8) := held_two HB7.out hb8
    have HT8 := Lib.hid ((HT7.out.below hb8).more hb8.size)
    clear hb8 HS6 HS7 HS6b HT5 HT6 HT7
    go_wp2_with fail
    refine (mod_any k 31 w8 (by omega) (by omega)).mono ?_
    rintro e w9 ⟨rfl, rfl⟩
    obtain ⟨q, hq⟩ : ∃ q, q = modZ k 31 := ⟨_, rfl⟩
    rw [← hq]
    have HQ := Lib.hid hq
    clear hq
    go_wp2_with fail
    refine (fold_any m w8.heap.size A1 n1 c1 t q w8 HT8.out (Nat.le_refl _) (good_in64 HGD.out) (by have := good_len HGD.out n1; omega)).mono ?_
    rintro e w6 ⟨A6, n6, c6, rfl, hls6, hb6⟩
    have HS6 := Lib.hid (rz_rs hls6)
    have HB6 : Hid (Below w.heap.size w w6) := held_two HB8.out hb6
    have HT6 := Lib.hid ((HT8.out.below hb6).more hb6.size)
    clear hls6 hb6
    go_wp2_with fail
    refine (mod_any k 31 w6 (by omega) (by omega)).mono ?_
    rintro e w9 ⟨rfl, rfl⟩
    rw [← HQ.out]
    go_wp2_with fail
    refine (reffold_any m w6.heap.size A1 n1 c1 t q w6 HT6.out (Nat.le_refl _) (by have := good_len HGD.out n1; omega)).mono ?_
    rintro e w7 ⟨A7, n7, c7, rfl, hls7, hb7⟩
    have HS7 := Lib.hid (rz_rs hls7)
    have HS6b : Hid (Lsts Rs w7 w6.heap.size A6 n6 c6 (foldT m t q)) := HS6.out.below hb7 fun _ _ _ _ hh => Row.below hh hb7
    have HB7 : Hid (Below w.heap.size w w7) := held_two HB6.out hb7
    have hz7 := hb7.size
    clear hls7 hb7
    go_wp2_with fail
    refine (Same.tables_same w6.heap.size w7.heap.size A6 A7 n6 n7 c6 c7 (foldT m t q) w7 HS6b.out HS7.out hz7 (Nat.le_refl _)).mono ?_
    rintro e w8 ⟨rfl, hb8⟩
    have HB9 : Hid (Below w.heap.size w w8) := held_two HB7.out hb8
    clear hb8
    go_wp2
    go_ret
    exact ⟨rfl, HB9.out⟩
end Go.Proofs.Ytlgdbpejefgeaaa.Fold
