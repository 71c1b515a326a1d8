/-
  Contracts of the statements' own helpers over images of tables: tables that are the same, the first line of each statement, few, record.
-/
import Derived.Test.YtjicdnknlfpajaaIdxHelp
import Derived.Test.YtjicdnknlfpajaaImgRead2
import Derived.Test.YtjicdnknlfpajaaImgEncode
namespace Go.Proofs.Ytjicdnknlfpajaa.Img
set_option linter.unusedVariables false
set_option maxRecDepth 100000
open Go.RowKit Base FieldMath RecMath
open ImgMath
open IdxMath (Rw)
open Idx (rv)
open Go.Proofs.Ytjicdnknlfpajaa.Field (fv fv_append fv_one fv_length fval Flds ef ret_bool Encoded)
open Rec (Putted)
set_option linter.ambiguousOpen false
set_option linter.unusedSimpArgs false

set_option maxHeartbeats 1600000 in
theorem tsame_any (B B' : Nat) (A A' : Option Addr) (n c c' : Nat) (T : List (List Rw)) (w : World) (h : Tabs w B A n c T) (h' : Tabs w B' A' n c' T) (hB : B ≤ w.heap.size) (hB' : B' ≤ w.heap.size) :
    Calls Try.prog 67 #[.slice A n c, .slice A' n c', .func (.func 68) #[] #[]] w fun e w' => e = .returned (.bool true) ∧ Below w.heap.size w w' := by
  have hle := h.le
  have HR := Lib.hid h
  have HR' := Lib.hid h'
  clear h h'
  go_enter Try.func67, Try.ntmps67
  go_wp2
  go_loopw [7] (fun i wr => ∃ k : Nat, k ≤ n ∧ i = .int .i64 k ∧ Below w.heap.size w wr) (fun i _ => n - (intOf i).toNat)
  case atStart => exact ⟨0, by omega, rfl, Below.refl _ _⟩
  case round =>
    obtain ⟨k, hk, rfl, hbel⟩ := hrel
    have HB := Lib.hid hbel
    clear hbel
    by_cases hlt : k < n
    · obtain ⟨b, off, A1, n1, c1, l, rfl, hb, q0, hrs, hget, _⟩ := (HR.out.below (HB.out.mono hB)).at_ hlt
      obtain ⟨b', off', A2, n2, c2, l', rfl, hb', p0, hrs', hget', _⟩ := (HR'.out.below (HB.out.mono hB')).at_ hlt
      obtain rfl : l = l' := by rw [hget] at hget'; injection hget'
      have HS := Lib.hid hrs
      have HS' := Lib.hid hrs'
      clear hget hget' hrs hrs'
      go_wp2
      go_still_tail 9, (by kernel_rfl)
      go_wp2_with fail
      refine (Idx.rplain_same B B' A1 A2 n1 n2 c1 c2 l wr.drew HS.out HS'.out (Nat.le_trans hB HB.out.size) (Nat.le_trans hB' HB.out.size)).mono ?_
      rintro e w2 ⟨rfl, hb2⟩
      have HB2 := Lib.hid (HB.out.drew.trans (hb2.mono HB.out.size))
      clear hb2
      go_wp2
      go_roundw
      case rel => exact ⟨k + 1, by omega, by go_num, HB2.out⟩
      case measure => simp [intOf]; omega
    · go_wp2
      go_ret
      exact ⟨rfl, HB.out⟩
theorem tables_same (B B' : Nat) (A A' : Option Addr) (n n' c c' : Nat) (T : List (List Rw)) (w : World) (h : Tabs w B A n c T) (h' : Tabs w B' A' n' c' T) (hB : B ≤ w.heap.size) (hB' : B' ≤ w.heap.size) :
    Calls Try.prog 34 #[.slice A n c, .slice A' n' c'] w fun e w' => e = .returned (.bool true) ∧ Below w.heap.size w w' := by
  obtain rfl : n = n' := by rw [← h.len, ← h'.len]
  go_enter Try.func34, Try.ntmps34
  go_wp2_with fail
  refine (tsame_any B B' A A' n c c' T _ h h' hB hB').mono ?_
  rintro e w2 ⟨rfl, hb2⟩
  have HB2 := Lib.hid hb2
  clear hb2
  go_wp2
  go_ret
  exact ⟨rfl, HB2.out⟩

def FewAns (w : World) (e : Ending) (w' : World) : Prop := ∃ g : Bool, e = .returned (.bool g) ∧ w = w'
def FewRel (w : World) (n : Nat) (vs vi : Value) (wr : World) : Prop := ∃ k m : Nat, k ≤ n ∧ k ≤ 21 ∧ m ≤ k * 1100 ∧ vs = .int .i64 m ∧ vi = .int .i64 k ∧ w = wr
set_option maxHeartbeats 1600000 in
theorem few_any (B : Nat) (A : Option Addr) (n c : Nat) (T : List (List Rw)) (w : World) (h : Tabs w B A n c T) :
    Calls Try.prog 27 #[.slice A n c] w (FewAns w) := by
  have hle := h.le
  have HR := Lib.hid h
  clear h
  go_enter Try.func27, Try.ntmps27
  go_wp2
  go_loopw [3, 4] (fun vs vi wr => FewRel w n vs vi wr) (fun _ vi _ => n - (intOf vi).toNat)
  case atStart => exact ⟨0, 0, by omega, by omega, by omega, rfl, rfl, rfl⟩
  case round =>
    obtain ⟨k, m, hk, hk21, hm, rfl, rfl, rfl⟩ := hrel
    by_cases hlt : k < n
    · obtain ⟨b, off, A1, n1, c1, l, rfl, hb, q0, hrs, _, _⟩ := HR.out.at_ hlt
      have hle1 := hrs.le
      have l1 : (k : Int) < (n : Int) := by omega
      clear hrs
      by_cases h1 : 1100 < n1
      · go_wp2
        go_ret
        exact ⟨_, rfl, rfl⟩
      · by_cases h2 : 20 < k
        · go_wp2
          go_ret
          exact ⟨_, rfl, rfl⟩
        · go_wp2
          go_roundw
          case rel => exact ⟨k + 1, m + n1, by omega, by omega, by omega, by go_num, by go_num, rfl⟩
          case measure => simp [intOf]; omega
    · go_wp2
      go_ret
      exact ⟨_, rfl, rfl⟩

def aT : List (List Rw) := [[⟨5, ⟨#[97]⟩⟩], []]
theorem aT_may : (Im.mk 3 aT).may = true := by decide
theorem lit_tabs (w : World) : Tabs ((w.alloc (.cells #[.int .i64 5, .string ⟨#[97]⟩] 97)).alloc (.cells #[.slice (some ⟨w.heap.size, 0, none⟩) 1 1, .slice none 0 0] 95)) (w.heap.size + 2) (some ⟨w.heap.size + 1, 0, none⟩) 2 2 aT := by
  have h1 : Idx.Rs (w.alloc (.cells #[.int .i64 5, .string ⟨#[97]⟩] 97)) (w.heap.size + 1) (some ⟨w.heap.size, 0, none⟩) 1 1 [⟨5, ⟨#[97]⟩⟩] := Idx.one_row w 5 _ rfl
  have h2 := Row.lit (w.alloc (.cells #[.int .i64 5, .string ⟨#[97]⟩] 97)) #[.slice (some ⟨w.heap.size, 0, none⟩) 1 1, .slice none 0 0] 95 (s := w.heap.size + 1) (n := 2) (size := 1) (0, 0) (by simp) rfl (by omega)
  refine Lsts.Lsts.row (by simpa using h2) rfl fun i v l hv hl => ?_
  match i with
  | 0 =>
    simp only [aT, List.getElem?_cons_zero, Option.some.injEq] at hv hl
    subst hv hl
    exact ⟨_, _, _, rfl, (h1.below ((Below.refl _ _).alloc (by simp) _)).more (by omega)⟩
  | 1 =>
    simp only [aT, List.getElem?_cons_zero, List.getElem?_cons_succ, Option.some.injEq] at hv hl
    subst hv hl
    exact ⟨_, _, _, rfl, Idx.Rs.nil_ _ _⟩
  | i + 2 => simp [aT] at hl
theorem encI_at {w w' : World} {x : Im} {e : Ending} (h : EncI w x e w') (hm : x.may = true) : ∃ A c, e = .returned (.tuple #[.slice A (imgB x).length c, .int .i64 0]) ∧ Bytes w' w'.heap.size A (imgB x).length c (imgB x) ∧ w'.ownsRow w.heap.size 5 1 (.slice A (imgB x).length c) (imgB x).length (bv (imgB x)) ∧ Below w.heap.size w w' := by
  obtain ⟨A, n, c, he, ho, hb⟩ := h
  rw [encI_ok hm] at he ho
  have hn : n = (imgB x).length := by have := ho.1; rw [show got (.ok (imgB x) : Except Nat (List UInt8)) = imgB x from rfl, bv_length, Nat.mul_one] at this; exact this.symm
  subst hn
  exact ⟨A, c, he, Bytes.of_own ho, ho, hb⟩
set_option maxHeartbeats 3200000 in
theorem awake_any (w : World) : Calls Try.prog 28 #[] w fun e w' => e = .returned (.bool true) ∧ Below w.heap.size w w' := by
  have HT := Lib.hid (lit_tabs w)
  have HW : Hid (Below w.heap.size w ((w.alloc (.cells #[.int .i64 5, .string ⟨#[97]⟩] 97)).alloc (.cells #[.slice (some ⟨w.heap.size, 0, none⟩) 1 1, .slice none 0 0] 95))) := ((Below.refl _ _).alloc (Nat.le_refl _) _).alloc (by simp) _
  go_enter Try.func28, Try.ntmps28
  go_wp2_with fail
  refine (encode_any (w.heap.size + 2) 3 _ 2 2 aT _ HT.out (by simp)).mono ?_
  intro e w1 h1
  obtain ⟨A1, c1, rfl, hy1, _, hb1⟩ := encI_at h1 aT_may
  have HY1 := Lib.hid hy1
  have HB1 := Lib.hid (held_two HW.out hb1)
  have HDE := Lib.hid (decI_enc aT_may)
  generalize (imgB ⟨3, aT⟩) = bs at HY1 HDE ⊢
  clear h1 hy1 hb1 HW HT
  generalize bs.length = N at HY1 ⊢
  go_wp2_with fail
  refine (decode_any w1.heap.size A1 N c1 bs w1 HY1.out (Nat.le_refl _)).mono ?_
  rw [HDE.out]
  rintro e w2 ⟨A2, n2, c2, rfl, ho2, hb2⟩
  have ht := ho2.tabs
  obtain rfl : 2 = n2 := ht.len
  obtain ⟨b, off, A3, n3, c3, l, e3, hb, q0, hrs, hget, _⟩ := ht.at_ (k := 0) (by omega)
  obtain ⟨b', off', A4, n4, c4, l', e4, hb', q1, hrs', hget', _⟩ := ht.at_ (k := 1) (by omega)
  subst e3
  simp only [Option.some.injEq, Addr.mk.injEq, and_true] at e4
  obtain ⟨rfl, rfl⟩ := e4
  simp only [gotI, aT, List.getElem?_cons_zero, List.getElem?_cons_succ, Option.some.injEq] at hget hget'
  subst hget hget'
  obtain rfl : 1 = n3 := hrs.len
  obtain rfl : 0 = n4 := hrs'.len
  obtain ⟨b2, off2, f, rfl, hb2', d0, d1, hf, _⟩ := hrs.at_ (k := 0) (by omega)
  simp only [List.getElem?_cons_zero, Option.some.injEq] at hf
  subst hf
  have HB2 := Lib.hid (held_two HB1.out hb2)
  clear ht ho2 hrs hrs' hb2
  simp only [Nat.zero_mul, Nat.add_zero, Nat.zero_add] at q0 q1 d0 d1
  show _
  simp only [gotI, aT, Option.isSome_some, if_true]
  go_wp2
  go_ret
  exact ⟨ret_bool (by simp), by first | exact HB2.out | exact HB2.out.alloc HB2.out.size _⟩

/-- bytes in new memory, at most m -/
def NewB (w : World) (m : Nat) (e : Ending) (w' : World) : Prop := ∃ A n c l, e = .returned (.slice A n c) ∧ w'.ownsRow w.heap.size 5 1 (.slice A n c) n (bv l) ∧ n ≤ m ∧ Below w.heap.size w w'
theorem got_len {fs : List Fld} : (got (enc fs)).length ≤ 2 + 4100 * fs.length := by
  unfold enc
  split
  · exact Nat.zero_le _
  · rename_i h
    have hall : ∀ f ∈ fs, f.right = true := by
      intro f hf
      have h2 : fs.all Fld.right = true := by
        cases h3 : fs.all Fld.right with
        | true => rfl
        | false => exact absurd (.inr h3) h
      exact List.all_eq_true.1 h2 f hf
    show (encZ fs).length ≤ _
    unfold encZ
    rw [List.length_append, big_length]
    clear h
    have : (fs.flatMap encF).length ≤ 4100 * fs.length := by
      induction fs with
      | nil => exact Nat.le_refl _
      | cons f r ih =>
        rw [List.flatMap_cons, List.length_append, List.length_cons]
        have h1 := ih fun g hg => hall g (List.mem_cons_of_mem _ hg)
        have h2 : (encF f).length ≤ 4100 := by
          have h3 := Field.right_size (hall f List.mem_cons_self)
          rw [Field.fsize_enc]
          unfold Field.fsize
          split <;> omega
        omega
    omega
theorem put_len (b : List UInt8) : (got (RecMath.put b)).length ≤ 8 + b.length := by
  unfold RecMath.put
  split
  · exact Nat.zero_le _
  · show (recB b).length ≤ _
    rw [recB_length]
    exact Nat.le_refl _
theorem enc_err {fs : List Fld} {k : Nat} (h : enc fs = .error k) : k = 1 := by
  unfold enc at h
  split at h
  · injection h with h; exact h.symm
  · cases h
set_option maxHeartbeats 1600000 in
theorem record_any (B : Nat) (A : Option Addr) (n c : Nat) (fs : List Fld) (w : World) (h : Flds w B A n c fs) (hB : B ≤ w.heap.size) (hn : n ≤ 1000) :
    Calls Try.prog 35 #[.slice A n c] w (NewB w 5000000) := by
  have HF := Lib.hid h
  have HG := Lib.hid (show (got (enc fs)).length ≤ 4200000 by have := @got_len fs; rw [h.len] at this; omega)
  clear h
  go_enter Try.func35, Try.ntmps35
  go_wp2_with fail
  refine (Field.refencode_any B A n c fs w HF.out hB).mono ?_
  rintro e w1 ⟨A1, n1, c1, rfl, ho1, hb1⟩
  have HY1 := Lib.hid (Bytes.of_own ho1)
  have HB1 := Lib.hid hb1
  clear ho1 hb1
  cases he : enc fs with
  | error k =>
    obtain rfl := enc_err he
    clear he
    rw [show ((err (Except.error 1 : Except Nat (List UInt8)) : Nat) : Int) = 1 from rfl]
    go_wp2
    go_ret
    exact ⟨none, 0, 0, [], rfl, World.ownsRow_nil _ _ _ _, by omega, HB1.out⟩
  | ok b =>
    rw [he] at HY1 HG
    rw [show ((err (Except.ok b : Except Nat (List UInt8)) : Nat) : Int) = 0 from rfl]
    have HP := Lib.hid (put_len b)
    have HGB : Hid (b.length ≤ 4200000) := HG.out
    clear he HG
    go_wp2_with fail
    refine (Rec.refput_any w1.heap.size A1 n1 c1 b w1 HY1.out (Nat.le_refl _)).mono ?_
    rintro e w2 ⟨A2, n2, c2, rfl, ho2, hb2⟩
    have hn2 : n2 ≤ 5000000 := by
      have := ho2.1
      rw [bv_length] at this
      have h1 := HP.out
      have h2 := HGB.out
      omega
    have HO2 := Lib.hid (own_mono ho2 HB1.out.size)
    have HB2 := Lib.hid (held_two HB1.out hb2)
    clear ho2 hb2 HP
    generalize err (RecMath.put b) = q
    generalize got (RecMath.put b) = bb at HO2
    go_wp2
    go_ret
    exact ⟨A2, n2, c2, bb, rfl, HO2.out, hn2, HB2.out⟩
end Go.Proofs.Ytjicdnknlfpajaa.Img
