/-
  Contracts of the statements' own helpers over fields and bytes: lists held against each other, copies, and the first line of each statement.
-/
import Derived.Test.YtdinkampbkckpaaFieldDecode
import Derived.Test.YtdinkampbkckpaaFieldEncode
import Derived.Deep.QuietTactic
import Derived.BigQuiet
import Derived.StillTailTactics
namespace Go.Proofs.Ytdinkampbkckpaa.Field
open Go.RowKit Base FieldMath

theorem bytes_same (B B' : Nat) (A A' : Option Addr) (n c n' c' : Nat) (l : List UInt8) (w : World) (h : Bytes w B A n c l) (h' : Bytes w B' A' n' c' l) :
    Calls Try.prog 12 #[.slice A n c, .slice A' n' c'] w fun e w' => e = .returned (.bool true) ∧ w = w' := by
  have k1 := h.str (P := Try.prog) Try.underlying27 Try.underlying5 Try.underlying9
  have k2 := h'.str (P := Try.prog) Try.underlying27 Try.underlying5 Try.underlying9
  clear h h'
  go_enter Try.func12, Try.ntmps12
  go_wp2
  go_ret
  exact ⟨ret_bool (by simp), rfl⟩

set_option maxHeartbeats 400000 in
theorem eq_same (k n : Int) (s : ByteArray) (w : World) :
    Calls Try.prog 31 #[.agg #[.int .i64 k, .int .i64 n, .string s], .agg #[.int .i64 k, .int .i64 n, .string s]] w fun e w' => e = .returned (.bool true) ∧ Below w.heap.size w w' := by
  go_enter Try.func31, Try.ntmps31
  go_wp2
  go_ret
  exact ⟨ret_bool (by simp), ((Below.refl _ _).alloc (Nat.le_refl _) _).alloc (by simp) _⟩

set_option maxHeartbeats 800000 in
theorem same_same (B B' : Nat) (A A' : Option Addr) (n c c' : Nat) (l : List Fld) (w : World) (h : Flds w B A n c l) (h' : Flds w B' A' n c' l) (hB : B ≤ w.heap.size) (hB' : B' ≤ w.heap.size) :
    Calls Try.prog 30 #[.slice A n c, .slice A' n c', .func (.func 31) #[] #[]] w fun e w' => e = .returned (.bool true) ∧ Below w.heap.size w w' := by
  have hle := h.le
  have HR := Lib.hid h
  have HR' := Lib.hid h'
  clear h h'
  go_enter Try.func30, Try.ntmps30
  go_wp2
  go_loopw [7] (fun i wr => ∃ k : Nat, k ≤ n ∧ i = .int .i64 k ∧ Below w.heap.size w wr) (fun i _ => n - (intOf i).toNat)
  case atStart => exact ⟨0, by omega, rfl, Below.refl _ _⟩
  case round =>
    obtain ⟨k, hk, rfl, hbel⟩ := hrel
    have HB := Lib.hid hbel
    clear hbel
    by_cases hlt : k < n
    · obtain ⟨b, off, f, rfl, hb, q0, q1, q2, hget, _⟩ := (HR.out.below (HB.out.mono hB)).at_ hlt
      obtain ⟨b', off', f', rfl, hb', p0, p1, p2, hget', _⟩ := (HR'.out.below (HB.out.mono hB')).at_ hlt
      obtain rfl : f = f' := by rw [hget] at hget'; injection hget'
      clear hget hget'
      go_wp2
      go_still_tail 9, (by kernel_rfl)
      go_wp2_with fail
      refine (eq_same _ _ _ _).mono ?_
      rintro e w2 ⟨rfl, hb2⟩
      have HB2 := Lib.hid (HB.out.drew.trans (hb2.mono HB.out.size))
      clear hb2
      go_wp2
      go_roundw
      case rel => exact ⟨k + 1, by omega, by go_num, HB2.out⟩
      case measure => simp [intOf]; omega
    · go_wp2
      go_ret
      exact ⟨rfl, HB.out⟩

theorem plain_same (B B' : Nat) (A A' : Option Addr) (n c c' : Nat) (l : List Fld) (w : World) (h : Flds w B A n c l) (h' : Flds w B' A' n c' l) (hB : B ≤ w.heap.size) (hB' : B' ≤ w.heap.size) :
    Calls Try.prog 16 #[.slice A n c, .slice A' n c'] w fun e w' => e = .returned (.bool true) ∧ Below w.heap.size w w' := by
  go_enter Try.func16, Try.ntmps16
  go_wp2_with fail
  refine (same_same B B' A A' n c c' l _ h h' hB hB').mono ?_
  rintro e w2 ⟨rfl, hb2⟩
  have HB2 := Lib.hid hb2
  clear hb2
  go_wp2
  go_ret
  exact ⟨rfl, HB2.out⟩

theorem three_fld (w : World) (e : TypeId) (f : Fld) {s : Nat} (hs : s = w.heap.size) :
    Row (w.alloc (.cells #[.int .i64 f.kind, .int .i64 f.n, .string f.s, .int .i64 f.kind, .int .i64 f.n, .string f.s, .int .i64 f.kind, .int .i64 f.n, .string f.s] e)) (w.heap.size + 1) 3 (some ⟨s, 0, none⟩) 3 3 (fv [f, f, f]) :=
  Row.lit w #[.int .i64 f.kind, .int .i64 f.n, .string f.s, .int .i64 f.kind, .int .i64 f.n, .string f.s, .int .i64 f.kind, .int .i64 f.n, .string f.s] e (0, 0) hs rfl (by omega)
/-- what Own makes: a copy of the fields, with three of 'fill' behind it -/
def Owned (w : World) (l : List Fld) (f : Fld) (e : Ending) (w' : World) : Prop :=
  ∃ A, e = .returned (.slice A l.length (l.length + 3)) ∧ Flds w' w'.heap.size A (l.length + 3) (l.length + 3) (l ++ [f, f, f]) ∧ Below w.heap.size w w'

set_option maxHeartbeats 800000 in
theorem own_any (B : Nat) (A : Option Addr) (n c : Nat) (l : List Fld) (f : Fld) (w : World) (h : Flds w B A n c l) (hB : B ≤ w.heap.size) (hn : n ≤ 1099511627776) :
    Calls Try.prog 9 #[.slice A n c, .agg #[.int .i64 f.kind, .int .i64 f.n, .string f.s]] w (Owned w l f) := by
  have hlen := h.len
  subst hlen
  have HR := Lib.hid h
  clear h
  go_enter Try.func9, Try.ntmps9
  go_wp2_with (first
    | (at_builtin
       refine wpList_append_row rfl (.tmp 6) (.tmp 7) rfl ef (w.heap.size + 1) _ 0 [] rfl (own_empty _ _ _ _ (by simp) (by simp)) B A l.length c (fv l) rfl ((HR.out.alloc hB _).alloc (by simp; omega) _) (fv_one _) (by omega) (by omega) (by simp) ?_
       intro A2 c2 w2 hown2 _ hb2
       rw [Nat.zero_add, List.nil_append] at hown2
       have hbox : Blk w2 w.heap.size 26 #[.int .i64 f.kind, .int .i64 f.n, .string f.s] := ((Blk.new w _ _).alloc _).below hb2 (by omega)
       have d0 : w2.cell? ⟨w.heap.size, 0, none⟩ = some (.int .i64 f.kind) := hbox.cell 0
       have d1 : w2.cell? ⟨w.heap.size, 1, none⟩ = some (.int .i64 f.n) := hbox.cell 1
       have d2 : w2.cell? ⟨w.heap.size, 2, none⟩ = some (.string f.s) := hbox.cell 2
       have HO2 := Lib.hid hown2
       have HB2 := Lib.hid ((((Below.refl w.heap.size w).alloc (Nat.le_refl _) _).alloc (by simp) _).trans (hb2.mono (by omega)))
       have hz2 : w.heap.size + 2 ≤ w2.heap.size := by have := hb2.size; simpa using this
       clear hown2 hb2 hbox)
    | (at_builtin
       refine wpList_append_row rfl (.tmp 9) (.tmp 13) rfl ef (w.heap.size + 1) _ l.length (fv l) rfl (HO2.out.alloc _) _ _ 3 3 (fv [f, f, f]) rfl (three_fld w2 _ f rfl) (fv_one _) (by omega) (by omega) (by simp; omega) ?_
       intro A3 c3 w3 hown3 _ hb3
       rw [← fv_append] at hown3
       have hc3 := (Row.of_own hown3).le
       have HO3 := Lib.hid hown3
       have HB3 := Lib.hid ((HB2.out.alloc (by have := HB2.out.size; omega) _).trans (hb3.mono (by omega)))
       clear hown3 hb3))
  go_ret
  exact ⟨A3, rfl, (Flds.of_own HO3.out).recap (by omega) (by omega), HB3.out⟩

theorem fill_get (l : List Fld) (f : Fld) {k : Nat} (h1 : l.length ≤ k) (h2 : k < l.length + 3) : (l ++ [f, f, f])[k]? = some f := by
  rw [List.getElem?_append_right h1]
  generalize hq : k - l.length = q
  have : q < 3 := by omega
  match q, this with
  | 0, _ => rfl
  | 1, _ => rfl
  | 2, _ => rfl

set_option maxHeartbeats 800000 in
theorem kept_same (B B' : Nat) (A A' : Option Addr) (n c' : Nat) (l : List Fld) (f : Fld) (w : World) (hl : l.length = n) (h : Flds w B A (n + 3) (n + 3) (l ++ [f, f, f])) (h' : Flds w B' A' n c' l) (hB : B ≤ w.heap.size) (hB' : B' ≤ w.heap.size) (hn : n ≤ 1099511627776) :
    Calls Try.prog 13 #[.slice A n (n + 3), .slice A' n c', .agg #[.int .i64 f.kind, .int .i64 f.n, .string f.s]] w fun e w' => e = .returned (.bool true) ∧ Below w.heap.size w w' := by
  have HL := Lib.hid hl
  have HR := Lib.hid h
  have HR' := Lib.hid h'
  have HF : Hid (Flds w B A n (n + 3) l) := by
    have := h.front (k := n) (by omega)
    rw [take_app _ _ hl] at this
    exact this
  clear h h' hl
  go_enter Try.func13, Try.ntmps13
  go_wp2_with fail
  refine (plain_same B B' A A' n (n + 3) c' l _ (HF.out.alloc hB _) (HR'.out.alloc hB' _) (by simp; omega) (by simp; omega)).mono ?_
  rintro e w2 ⟨rfl, hb2⟩
  have hbox : Blk w2 w.heap.size 26 #[.int .i64 f.kind, .int .i64 f.n, .string f.s] := (Blk.new w _ _).below hb2 (by simp)
  have HX := Lib.hid hbox
  have HR2 := Lib.hid ((HR.out.alloc hB _).below (hb2.mono (by simp; omega)))
  have HB2 := Lib.hid (((Below.refl w.heap.size w).alloc (Nat.le_refl _) _).trans (hb2.mono (by simp)))
  clear hb2 hbox
  go_wp2
  go_loopw [8] (fun i wr => ∃ k m : Nat, n ≤ k ∧ k ≤ n + 3 ∧ i = .int .i64 k ∧ wr = w2.drewN m) (fun i _ => n + 3 - (intOf i).toNat)
  case atStart => exact ⟨n, 0, by omega, by omega, rfl, rfl⟩
  case round =>
    obtain ⟨k, m, hk0, hk, rfl, rfl⟩ := hrel
    by_cases hlt : k < n + 3
    · obtain ⟨b, off, g, rfl, hb, q0, q1, q2, hget, _⟩ := HR2.out.at_ hlt
      obtain rfl : f = g := by rw [fill_get l f (by rw [HL.out]; exact hk0) (by rw [HL.out]; exact hlt)] at hget; injection hget
      clear hget
      have d0 : w2.cell? ⟨w.heap.size, 0, none⟩ = some (.int .i64 f.kind) := HX.out.cell 0
      have d1 : w2.cell? ⟨w.heap.size, 1, none⟩ = some (.int .i64 f.n) := HX.out.cell 1
      have d2 : w2.cell? ⟨w.heap.size, 2, none⟩ = some (.string f.s) := HX.out.cell 2
      go_wp2
      go_quiet (fail)
      go_wp2
      go_roundw
      case rel => exact ⟨k + 1, _, by omega, by omega, by go_num, rfl⟩
      case measure => simp [intOf]; omega
    · go_wp2
      go_ret
      exact ⟨rfl, below_drewN HB2.out m⟩
end Go.Proofs.Ytdinkampbkckpaa.Field
