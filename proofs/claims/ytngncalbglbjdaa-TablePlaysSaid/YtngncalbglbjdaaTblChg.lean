/-
  Package table: changes in memory; one change done, whatever table it names; whether all changes are of tables that there are.
-/
import Derived.Test.YtngncalbglbjdaaTblNew
import Derived.Test.YtngncalbglbjdaaPlayChg
namespace Go.Proofs.Ytngncalbglbjdaa.Tbl
set_option linter.unusedVariables false
set_option maxRecDepth 100000
open Go.RowKit Base IdxMath Foot Idx
open PChg (gcells gval gv gv_cons gv_length gv_get Cs)
set_option linter.ambiguousOpen false
set_option linter.unusedSimpArgs false

abbrev Cg := TxnMath.Ch
/-- what one change makes of a table's rows -/
def one (l : List Rw) (c : Cg) : List Rw := if c.gone then del l c.key else put l c.key c.val
def Did (w : World) (F : Nat → Prop) (p : Nat) (l : List Rw) (e : Ending) (w' : World) : Prop :=
  e = .returned (.tuple #[]) ∧ IdxAt w' (Out F w w') p l ∧ Turn F w w'
theorem out_from {F : Nat → Prop} {w wa w1 : World} {i : Nat} (h : w.heap.size ≤ wa.heap.size) (hi : Out F wa w1 i) : Out F w w1 i := hi.imp id fun k => ⟨Nat.le_trans h k.1, k.2⟩
theorem apply_any (F : Nat → Prop) (p : Nat) (l : List Rw) (c : Cg) (w : World) (h : IdxAt w F p l) (hsz : l.length ≤ 1099511627774) :
    Calls Try.prog 36 #[.agg #[.pointer (some ⟨p, 0, none⟩)], gval c] w (Did w F p (one l c)) := by
  obtain ⟨t, k, gone, v⟩ := c
  have hb : Below w.heap.size w ((w.alloc (.cells #[.pointer (some ⟨p, 0, none⟩)] 63)).alloc (.cells #[.int .i64 t, .int .i64 k, .bool gone, .string v] 45)) :=
    ((Below.refl _ _).alloc (Nat.le_refl _) _).alloc (by simp) _
  have HI := Lib.hid (h.new hb)
  have HT : Hid (Turn F w _) := Turn.new hb
  clear h hb
  unfold gval
  dsimp only
  cases gone with
  | true =>
    go_enter Try.func36, Try.ntmps36
    go_wp2_with fail
    refine (del_any F p l k _ HI.out hsz).mono ?_
    rintro e w1 ⟨rfl, h1, h2⟩
    have H1 := Lib.hid (And.intro h1 h2)
    clear h1 h2
    go_wp2
    go_end0
    exact ⟨rfl, H1.out.1.mono fun i hi hO => out_from HT.out.size hO, HT.out.trans H1.out.2 fun _ h => .inl h⟩
  | false =>
    go_enter Try.func36, Try.ntmps36
    go_wp2_with fail
    refine (put_any F p l k v _ HI.out hsz).mono ?_
    rintro e w1 ⟨rfl, h1, h2⟩
    have H1 := Lib.hid (And.intro h1 h2)
    clear h1 h2
    go_wp2
    go_end0
    exact ⟨rfl, H1.out.1.mono fun i hi hO => out_from HT.out.size hO, HT.out.trans H1.out.2 fun _ h => .inl h⟩

/-- whether all changes are of tables that there are -/
def allT (T : List (List Rw)) (l : List Cg) : Bool := l.all fun c => isT T c.tbl
theorem allT_snoc (T : List (List Rw)) (l : List Cg) (c : Cg) : allT T (l ++ [c]) = (allT T l && isT T c.tbl) := by simp [allT]
theorem allT_not {T : List (List Rw)} {l : List Cg} {k : Nat} {f : Cg} (h : l[k]? = some f) (hf : isT T f.tbl = false) : allT T l = false := by
  unfold allT
  rw [List.all_eq_false]
  exact ⟨f, List.mem_of_getElem? h, by simp [hf]⟩
set_option maxHeartbeats 1600000 in
theorem hasAll_any (F : Nat → Prop) (p : Nat) (T : List (List Rw)) (A : Option Addr) (n c : Nat) (l : List Cg) (w : World) (h : SetAt w F p T) (hl : Cs w w.heap.size A n c l) :
    Calls Try.prog 31 #[.pointer (some ⟨p, 0, none⟩), .slice A n c] w fun e w' => e = .returned (.bool (allT T l)) ∧ Below w.heap.size w w' := by
  have HS := Lib.hid h
  have HC := Lib.hid hl
  have hle := hl.le
  have HL := Lib.hid hl.len
  clear h hl
  go_enter Try.func31, Try.ntmps31
  go_wp2
  go_loopw [9] (fun vi wr => ∃ k : Nat, vi = .int .i64 k ∧ k ≤ n ∧ allT T (l.take k) = true ∧ Below w.heap.size w wr) (fun vi _ => n - (intOf vi).toNat)
  case atStart => exact ⟨0, rfl, Nat.zero_le _, rfl, Below.refl _ _⟩
  case round =>
    obtain ⟨k, rfl, hk, hall, hb⟩ := hrel
    have HB := Lib.hid hb
    have HA := Lib.hid hall
    clear hb hall
    by_cases hkn : k < n
    · obtain ⟨b, off, f, rfl, hbB, c0, c1, c2, c3, hf, ht⟩ := (HC.out.below HB.out).at_ hkn
      have l1 : (k : Int) < (n : Int) := by omega
      have HT := Lib.hid ht
      have HF := Lib.hid hf
      obtain ⟨ft, fk, fg, fv⟩ := f
      dsimp only at c0 c1 c2 c3
      clear hf ht
      have HW1 : Hid (Below w.heap.size w (wr.alloc (.cells #[.int .i64 ft, .int .i64 fk, .bool fg, .string fv] 45))) := HB.out.alloc HB.out.size _
      go_wp2_with fail
      refine (has_any F p T ft _ (HS.out.new HW1.out)).mono ?_
      rintro e w1 ⟨rfl, rfl⟩
      cases hT : isT T ft with
      | true =>
        have HX : Hid (allT T (l.take (k + 1)) = true) := by show _ = _; rw [HT.out, allT_snoc, HA.out]; exact hT
        clear hT
        go_wp2
        refine ⟨⟨k + 1, by rw [Int.natCast_add]; rfl, hkn, HX.out, HW1.out⟩, ?_⟩; simp only [intOf, Int.toNat_natCast]; omega
      | false =>
        have HX := Lib.hid (allT_not HF.out hT)
        clear hT
        go_wp2
        go_ret
        exact ⟨by rw [HX.out]; rfl, HW1.out⟩
    · have l1 : decide ((k : Int) < (n : Int)) = false := decide_eq_false (by omega)
      obtain rfl : k = n := by omega
      rw [show l.take k = l by rw [← HL.out, List.take_length]] at HA
      go_wp2
      go_ret
      exact ⟨by rw [HA.out]; rfl, HB.out⟩
end Go.Proofs.Ytngncalbglbjdaa.Tbl
