/-
  The walk of the statement TxnReads: it answers true, whatever the input, and writes nothing that was there.
-/
import Derived.Test.YtjicdnknlfpajaaTxnHelp
import Derived.Test.YtjicdnknlfpajaaTxnRefDecode
import Derived.Test.YtjicdnknlfpajaaFieldEncode
namespace Go.Proofs.Ytjicdnknlfpajaa.Txn
set_option linter.unusedVariables false
set_option maxRecDepth 100000
open Go.RowKit Base FieldMath TxnMath
open Go.Proofs.Ytjicdnknlfpajaa.Field (ret_bool eb Flds)
set_option linter.ambiguousOpen false
set_option linter.unusedSimpArgs false

theorem got_len {fs : List Fld} : (got (enc fs)).length ≤ 2 + 4100 * fs.length := by
  unfold enc
  split
  · exact Nat.zero_le _
  · rename_i h
    have hall : ∀ f ∈ fs, f.right = true := by
      intro f hf
      have h2 : fs.all Fld.right = true := by
        cases h3 : fs.all Fld.right with
        | true => rfl
        | false => exact absurd (.inr h3) h
      exact List.all_eq_true.1 h2 f hf
    show (encZ fs).length ≤ _
    unfold encZ
    rw [List.length_append, big_length]
    clear h
    have : (fs.flatMap encF).length ≤ 4100 * fs.length := by
      induction fs with
      | nil => exact Nat.le_refl _
      | cons f r ih =>
        rw [List.flatMap_cons, List.length_append, List.length_cons]
        have h1 := ih fun g hg => hall g (List.mem_cons_of_mem _ hg)
        have h2 : (encF f).length ≤ 4100 := by
          have h3 := Field.right_size (hall f List.mem_cons_self)
          rw [Field.fsize_enc]
          unfold Field.fsize
          split <;> omega
        omega
    omega
/-- the two rows of bytes that the statement goes through -/
def Pair (w : World) (B g : Nat) (A : Option Addr) (n c : Nat) (l : List UInt8) (A' : Option Addr) (n' c' : Nat) (l' : List UInt8) (wr : World) : Prop :=
  Blk wr g 30 #[.slice A n c, .slice A' n' c'] ∧ Bytes wr B A n c l ∧ Bytes wr B A' n' c' l' ∧ B ≤ g ∧ Below w.heap.size w wr
def PairRel (w : World) (B g : Nat) (A : Option Addr) (n c : Nat) (l : List UInt8) (A' : Option Addr) (n' c' : Nat) (l' : List UInt8) (i : Value) (wr : World) : Prop := (∃ j : Nat, j ≤ 2 ∧ i = .int .i64 j) ∧ Pair w B g A n c l A' n' c' l' wr
theorem Pair.new {w wr w1 : World} {B g : Nat} {A : Option Addr} {n c : Nat} {l : List UInt8} {A' : Option Addr} {n' c' : Nat} {l' : List UInt8} (h : Pair w B g A n c l A' n' c' l' wr) (hb : Below wr.heap.size wr w1) : Pair w B g A n c l A' n' c' l' w1 := by
  have hlt := h.1.lt
  exact ⟨h.1.below hb h.1.lt, h.2.1.below (hb.mono (by have := h.2.2.2.1; omega)), h.2.2.1.below (hb.mono (by have := h.2.2.2.1; omega)), h.2.2.2.1, held_two h.2.2.2.2 hb⟩
/-- one round: the bytes decoded twice -/
theorem Pair.at_ {w wr : World} {B g : Nat} {A : Option Addr} {n c : Nat} {l : List UInt8} {A' : Option Addr} {n' c' : Nat} {l' : List UInt8} (h : Pair w B g A n c l A' n' c' l' wr) (hn : n ≤ 140737488355328) (hn' : n' ≤ 140737488355328) (j : Nat) (hj : j < 2) :
    ∃ A0 n0 c0 l0, wr.cell? ⟨g, j, none⟩ = some (.slice A0 n0 c0) ∧ Bytes wr B A0 n0 c0 l0 ∧ n0 ≤ 140737488355328 := by
  match j, hj with
  | 0, _ => exact ⟨A, n, c, l, h.1.cell 0, h.2.1, hn⟩
  | 1, _ => exact ⟨A', n', c', l', h.1.cell 1, h.2.2.1, hn'⟩

set_option maxHeartbeats 6400000 in
theorem reads_walk (A : Option Addr) (n c : Nat) (l : List UInt8) (A' : Option Addr) (n' c' : Nat) (fs : List Fld) (w : World) (h1 : Bytes w w.heap.size A n c l) (hn : n ≤ 140737488355328) (h2 : Flds w w.heap.size A' n' c' fs) :
    Calls Try.prog 5 #[.slice A n c, .slice A' n' c'] w fun e w' => e = .returned (.bool true) ∧ Below w.heap.size w w' := by
  have HR := Lib.hid h1
  have HF := Lib.hid h2
  have HL := Lib.hid h2.len
  clear h1 h2
  by_cases hbig : 300 < n'
  · go_enter Try.func5, Try.ntmps5
    go_wp2_with fail
    refine (awake_any _).mono ?_
    rintro e w2 ⟨rfl, hb2⟩
    have HB2 := Lib.hid hb2
    clear hb2
    go_wp2
    go_ret
    exact ⟨rfl, HB2.out⟩
  · go_enter Try.func5, Try.ntmps5
    go_wp2_with fail
    refine (Field.refencode_any _ A' n' c' fs w HF.out (Nat.le_refl _)).mono ?_
    rintro e w1 ⟨A1, n1, c1, rfl, ho1, hb1⟩
    have hn1 : n1 ≤ 140737488355328 := by
      have h := ho1.1
      have h3 := got_len (fs := fs)
      rw [bv_length] at h
      have := HL.out
      omega
    have HY1 := Lib.hid (Bytes.of_own ho1)
    have HB1 := Lib.hid hb1
    have HR1 := Lib.hid (HR.out.below hb1)
    have hz1 := hb1.size
    clear ho1 hb1
    generalize ((err (enc fs) : Nat) : Int) = q
    have HP : Hid (Pair w w1.heap.size w1.heap.size A n c l A1 n1 c1 (got (enc fs)) (w1.alloc (.cells #[.slice A n c, .slice A1 n1 c1] 30))) := ⟨Blk.new _ _ _, (HR1.out.more hz1).alloc (Nat.le_refl _) _, HY1.out.alloc (Nat.le_refl _) _, Nat.le_refl _, HB1.out.alloc HB1.out.size _⟩
    go_wp2
    go_loopw [8] (fun i wr => PairRel w w1.heap.size w1.heap.size A n c l A1 n1 c1 (got (enc fs)) i wr) (fun i _ => 2 - (intOf i).toNat)
    case atStart => exact ⟨⟨0, by omega, rfl⟩, HP.out⟩
    case round =>
      obtain ⟨⟨j, hj, rfl⟩, hp⟩ := hrel
      have HQ := Lib.hid hp
      clear hp HP
      by_cases hlt : j < 2
      · obtain ⟨A0, n0, c0, l0, k0, hy0, hn0⟩ := HQ.out.at_ hn hn1 j hlt
        have HY0 := Lib.hid hy0
        have hBg := HQ.out.1.lt
        have hwr : w.heap.size ≤ wr.heap.size := HQ.out.2.2.2.2.size
        clear hy0
        go_wp2_with (first
          | (at_builtin
             refine wpList_append_row rfl (.tmp 30) (.tmp 34) rfl eb wr.heap.size _ 0 [] rfl (own_empty _ _ _ _ rfl (Nat.le_refl _)) w1.heap.size A0 n0 c0 (bv l0) rfl (HY0.out.alloc (by omega) _) (bv_one _) (by omega) (by omega) (by simp) ?_
             intro A2 c2 w2 hown2 _ hb2
             rw [Nat.zero_add, List.nil_append] at hown2
             rw [Nat.zero_add]
             have HY2 := Lib.hid (Bytes.of_own hown2)
             have HB2 : Hid (Below wr.heap.size wr w2) := ((Below.refl wr.heap.size wr).alloc (Nat.le_refl _) _).trans hb2
             clear hown2 hb2)
          | fail)
        refine (decode_any _ A2 n0 c2 l0 w2 HY2.out (Nat.le_refl _)).mono ?_
        intro e w3 he3
        obtain ⟨v3, he, hti3, hb3⟩ := decT_in he3
        obtain ⟨A3, n3, c3, P3, m3, q3, hv, hin3⟩ := hti3.agg
        subst hv
        subst he
        have HB3 := Lib.hid (held_two HB2.out hb3)
        have HT3 := Lib.hid hin3
        have HQ3 := Lib.hid (HQ.out.new HB3.out)
        have HX3 : Hid (Blk (w3.alloc (.cells #[.int .i64 (gotX (decT l0)).lsn, .int .i64 (gotX (decT l0)).kind, .slice A3 n3 c3, .slice P3 m3 q3, .int .i64 (gotX (decT l0)).mark] 25)) w3.heap.size 25 #[.int .i64 (gotX (decT l0)).lsn, .int .i64 (gotX (decT l0)).kind, .slice A3 n3 c3, .slice P3 m3 q3, .int .i64 (gotX (decT l0)).mark]) := Blk.new _ _ _
        have k3 : w3.cell? ⟨w1.heap.size, j, none⟩ = some (.slice A0 n0 c0) := (HB3.out.cell (p := ⟨w1.heap.size, j, none⟩) hBg).trans k0
        have hg3 : w1.heap.size < w3.heap.size := HQ3.out.1.lt
        have HY3 := Lib.hid (HY0.out.below (HB3.out.mono (Nat.le_of_lt hBg)))
        clear he3 hti3 hin3 hb3 k0
        go_wp2_with fail
        refine (refdecode_any w1.heap.size A0 n0 c0 l0 _ (HY3.out.alloc (by omega) _) (by simp; omega)).mono ?_
        intro e w4 he4
        obtain ⟨v4, he, hti4, hb4⟩ := decT_in he4
        obtain ⟨A4, n4, c4, P4, m4, q4, hv, hin4⟩ := hti4.agg
        subst hv
        subst he
        have HB4 := Lib.hid (held_two (HB3.out.alloc HB3.out.size _) hb4)
        have HT4 := Lib.hid hin4
        have HT4' := Lib.hid ((HT3.out.alloc (Nat.le_refl _) _).below (hb4.mono (by simp)))
        have hx4 := HX3.out.below hb4 (by simp)
        have hz34 : w3.heap.size < w4.heap.size := hx4.lt
        have u0 : w4.cell? ⟨w3.heap.size, 0, none⟩ = some (.int .i64 (gotX (decT l0)).lsn) := hx4.cell 0
        have u1 : w4.cell? ⟨w3.heap.size, 1, none⟩ = some (.int .i64 (gotX (decT l0)).kind) := hx4.cell 1
        have u2 : w4.cell? ⟨w3.heap.size, 2, none⟩ = some (.slice A3 n3 c3) := hx4.cell 2
        have u3 : w4.cell? ⟨w3.heap.size, 3, none⟩ = some (.slice P3 m3 q3) := hx4.cell 3
        have u4 : w4.cell? ⟨w3.heap.size, 4, none⟩ = some (.int .i64 (gotX (decT l0)).mark) := hx4.cell 4
        clear he4 hti4 hin4 hb4 hx4 k3
        generalize ((err (decT l0) : Nat) : Int) = er
        generalize gotX (decT l0) = tt at HT3 HT4 HT4' u0 u1 u4 ⊢
        go_wp2_with fail
        refine (txnsame_any w3.heap.size w4.heap.size tt _ _ _ (HT4'.out.alloc (by omega) _) (HT4.out.alloc (Nat.le_refl _) _) (by simp; omega) (by simp)).mono ?_
        rintro e w5 ⟨rfl, hb5⟩
        have HB5 := Lib.hid (held_two (HB4.out.alloc HB4.out.size _) hb5)
        have HQ5 := Lib.hid (HQ.out.new HB5.out)
        clear hb5
        go_wp2
        go_roundw
        case rel => exact ⟨⟨j + 1, by omega, by go_num⟩, HQ5.out⟩
        case measure => simp [intOf]; omega
      · have hB := HQ.out.2.2.2.2
        have HBB := Lib.hid hB
        clear hB
        go_wp2_with fail
        refine (awake_any _).mono ?_
        rintro e w2 ⟨rfl, hb2⟩
        have HB2 := Lib.hid (held_two HBB.out hb2)
        clear hb2
        go_wp2
        go_ret
        exact ⟨rfl, HB2.out⟩
end Go.Proofs.Ytjicdnknlfpajaa.Txn
