/-
  Contracts of the statements' own helpers over bytes: a copy with something behind it, and whether it is as it was.
-/
import Derived.Test.YthjdankeopfkaaaHelpBytes
namespace Go.Proofs.Ythjdankeopfkaaa.Help
open Go.RowKit Base
open Go.Proofs.Ythjdankeopfkaaa.Field
set_option linter.ambiguousOpen false

theorem eq8_same (x : Int) (w : World) :
    Calls Try.prog 54 #[.int .u8 x, .int .u8 x] w fun e w' => e = .returned (.bool true) ∧ w = w' := by
  go_enter Try.func54, Try.ntmps54
  go_wp2
  go_ret
  exact ⟨ret_bool (by simp), rfl⟩

set_option maxRecDepth 100000 in
set_option maxHeartbeats 800000 in
theorem same8_same (B B' : Nat) (A A' : Option Addr) (n c c' : Nat) (l : List UInt8) (w : World) (h : Bytes w B A n c l) (h' : Bytes w B' A' n c' l) (hB : B ≤ w.heap.size) (hB' : B' ≤ w.heap.size) :
    Calls Try.prog 53 #[.slice A n c, .slice A' n c', .func (.func 54) #[] #[]] w fun e w' => e = .returned (.bool true) ∧ Below w.heap.size w w' := by
  have hle := h.le
  have HR := Lib.hid h
  have HR' := Lib.hid h'
  clear h h'
  go_enter Try.func53, Try.ntmps53
  go_wp2
  go_loopw [7] (fun i wr => ∃ k : Nat, k ≤ n ∧ i = .int .i64 k ∧ Below w.heap.size w wr) (fun i _ => n - (intOf i).toNat)
  case atStart => exact ⟨0, by omega, rfl, Below.refl _ _⟩
  case round =>
    obtain ⟨k, hk, rfl, hbel⟩ := hrel
    have HB := Lib.hid hbel
    clear hbel
    by_cases hlt : k < n
    · obtain ⟨b, off, z, rfl, hb, hcell, hget, _⟩ := (HR.out.below (HB.out.mono hB)).at_ hlt
      obtain ⟨b', off', z', rfl, hb', hcell', hget', _⟩ := (HR'.out.below (HB.out.mono hB')).at_ hlt
      obtain rfl : z = z' := by rw [hget] at hget'; injection hget'
      clear hget hget'
      go_wp2
      go_still_tail 9, (by kernel_rfl)
      go_wp2_with fail
      refine (eq8_same _ _).mono ?_
      rintro e w2 ⟨rfl, rfl⟩
      go_wp2
      go_roundw
      case rel => exact ⟨k + 1, by omega, by go_num, HB.out.drew⟩
      case measure => simp [intOf]; omega
    · go_wp2
      go_ret
      exact ⟨rfl, HB.out⟩

theorem plain8_same (B B' : Nat) (A A' : Option Addr) (n c c' : Nat) (l : List UInt8) (w : World) (h : Bytes w B A n c l) (h' : Bytes w B' A' n c' l) (hB : B ≤ w.heap.size) (hB' : B' ≤ w.heap.size) :
    Calls Try.prog 43 #[.slice A n c, .slice A' n c'] w fun e w' => e = .returned (.bool true) ∧ Below w.heap.size w w' := by
  go_enter Try.func43, Try.ntmps43
  go_wp2_with fail
  refine (same8_same B B' A A' n c c' l _ h h' hB hB').mono ?_
  rintro e w2 ⟨rfl, hb2⟩
  have HB2 := Lib.hid hb2
  clear hb2
  go_wp2
  go_ret
  exact ⟨rfl, HB2.out⟩

/-- what Own makes: a copy of the bytes, with three of 'fill' behind it -/
def Owned8 (w : World) (l : List UInt8) (f : UInt8) (n : Nat) (e : Ending) (w' : World) : Prop :=
  ∃ A, e = .returned (.slice A n (n + 3)) ∧ Bytes w' w'.heap.size A (n + 3) (n + 3) (l ++ [f, f, f]) ∧ Below w.heap.size w w'
theorem three8 (w : World) (e : TypeId) (f : UInt8) {s : Nat} (hs : s = w.heap.size) :
    Row (w.alloc (.cells #[.int .u8 f.toNat, .int .u8 f.toNat, .int .u8 f.toNat] e)) (w.heap.size + 1) 1 (some ⟨s, 0, none⟩) 3 3 (bv [f, f, f]) :=
  Row.lit w #[.int .u8 f.toNat, .int .u8 f.toNat, .int .u8 f.toNat] e (0, 0) hs rfl (by omega)

set_option maxHeartbeats 800000 in
theorem own8_row (B : Nat) (A : Option Addr) (n c : Nat) (l : List UInt8) (f : UInt8) (w : World) (h : Bytes w B A n c l) (hB : B ≤ w.heap.size) (hn : n ≤ 140737488351232) :
    Calls Try.prog 22 #[.slice A n c, .int .u8 f.toNat] w fun e w' => ∃ A c, e = .returned (.slice A n (n + 3)) ∧ w'.ownsRow w.heap.size 5 1 (.slice A (n + 3) c) (n + 3) (bv (l ++ [f, f, f])) ∧ Below w.heap.size w w' := by
  have HR := Lib.hid h
  clear h
  go_enter Try.func22, Try.ntmps22
  go_wp2_with (first
    | (at_builtin
       refine wpList_append_row rfl (.tmp 6) (.tmp 7) rfl eb w.heap.size _ 0 [] rfl (own_empty _ _ _ _ rfl (Nat.le_refl _)) B A n c (bv l) rfl (HR.out.alloc hB _) (bv_one _) (by omega) (by omega) (by simp) ?_
       intro A2 c2 w2 hown2 _ hb2
       rw [Nat.zero_add, List.nil_append] at hown2
       rw [Nat.zero_add]
       have HO2 := Lib.hid hown2
       have HB2 := Lib.hid (((Below.refl w.heap.size w).alloc (Nat.le_refl _) _).trans hb2)
       clear hown2 hb2)
    | (at_builtin
       refine wpList_append_row rfl (.tmp 9) (.tmp 13) rfl eb w.heap.size _ n (bv l) rfl (HO2.out.alloc _) _ _ 3 3 (bv [f, f, f]) rfl (three8 w2 _ f rfl) (bv_one _) (by omega) (by omega) (by have := HB2.out.size; simp; omega) ?_
       intro A3 c3 w3 hown3 _ hb3
       rw [← bv_append] at hown3
       have hc3 := (Row.of_own hown3).le
       have HO3 := Lib.hid hown3
       have HB3 := Lib.hid ((HB2.out.alloc HB2.out.size _).trans hb3)
       clear hown3 hb3)
    | fail)
  go_ret
  exact ⟨A3, c3, rfl, HO3.out, HB3.out⟩
theorem own8_any (B : Nat) (A : Option Addr) (n c : Nat) (l : List UInt8) (f : UInt8) (w : World) (h : Bytes w B A n c l) (hB : B ≤ w.heap.size) (hn : n ≤ 140737488351232) :
    Calls Try.prog 22 #[.slice A n c, .int .u8 f.toNat] w (Owned8 w l f n) := by
  refine (own8_row B A n c l f w h hB hn).mono ?_
  rintro e w' ⟨A', c', rfl, ho, hb⟩
  exact ⟨A', rfl, Row.recap (Bytes.of_own ho) (by omega) (by omega), hb⟩

theorem fill8_get (l : List UInt8) (f : UInt8) {k : Nat} (h1 : l.length ≤ k) (h2 : k < l.length + 3) : (l ++ [f, f, f])[k]? = some f := by
  rw [List.getElem?_append_right h1]
  generalize hq : k - l.length = q
  have : q < 3 := by omega
  match q, this with
  | 0, _ => rfl
  | 1, _ => rfl
  | 2, _ => rfl

set_option maxHeartbeats 800000 in
theorem kept8_same (B B' : Nat) (A A' : Option Addr) (n c' : Nat) (l : List UInt8) (f : UInt8) (w : World) (hl : l.length = n) (h : Bytes w B A (n + 3) (n + 3) (l ++ [f, f, f])) (h' : Bytes w B' A' n c' l) (hB : B ≤ w.heap.size) (hB' : B' ≤ w.heap.size) (hn : n ≤ 140737488351232) :
    Calls Try.prog 23 #[.slice A n (n + 3), .slice A' n c', .int .u8 f.toNat] w fun e w' => e = .returned (.bool true) ∧ Below w.heap.size w w' := by
  have HL := Lib.hid hl
  have HR := Lib.hid h
  have HR' := Lib.hid h'
  have HF : Hid (Bytes w B A n (n + 3) l) := by
    have := h.front (k := n) (by omega)
    rw [List.take_left' hl] at this
    exact this
  clear h h' hl
  go_enter Try.func23, Try.ntmps23
  go_wp2_with fail
  refine (plain8_same B B' A A' n (n + 3) c' l _ HF.out HR'.out hB hB').mono ?_
  rintro e w2 ⟨rfl, hb2⟩
  have HR2 := Lib.hid (HR.out.below (hb2.mono hB))
  have HB2 := Lib.hid hb2
  clear hb2
  go_wp2
  go_loop [8] (fun i => ∃ k : Nat, n ≤ k ∧ k ≤ n + 3 ∧ i = .int .i64 k) (fun i => n + 3 - (intOf i).toNat)
  case atStart => exact ⟨n, by omega, by omega, rfl⟩
  case round =>
    obtain ⟨k, hk0, hk, rfl⟩ := hrel
    by_cases hlt : k < n + 3
    · obtain ⟨b, off, g, rfl, hb, hcell, hget, _⟩ := HR2.out.at_ hlt
      obtain rfl : f = g := by rw [fill8_get l f (by rw [HL.out]; exact hk0) (by rw [HL.out]; exact hlt)] at hget; injection hget
      clear hget
      go_wp2
      go_round
      case rel => exact ⟨k + 1, by omega, by omega, by go_num⟩
      case measure => simp [intOf]; omega
    · go_wp2
      go_ret
      exact ⟨rfl, HB2.out⟩
end Go.Proofs.Ythjdankeopfkaaa.Help
