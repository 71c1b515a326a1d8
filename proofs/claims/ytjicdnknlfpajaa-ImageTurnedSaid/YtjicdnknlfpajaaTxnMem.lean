/-
  Changes and signals in memory; contracts of which changes, signals and transactions may be: the code's (package txn), and the document's.
-/
import Derived.Test.YtjicdnknlfpajaaTxnMath
import Derived.Test.YtjicdnknlfpajaaFieldFlds
namespace Go.Proofs.Ytjicdnknlfpajaa.Txn
set_option linter.unusedVariables false
set_option maxRecDepth 100000
open Go.RowKit Base FieldMath TxnMath
open Go.Proofs.Ytjicdnknlfpajaa.Field (ret_bool empty_iff)
set_option linter.ambiguousOpen false

def ccells (c : Ch) : List Value := [.int .i64 c.tbl, .int .i64 c.key, .bool c.gone, .string c.val]
def cv (l : List Ch) : List Value := l.flatMap ccells
theorem cv_append (l m : List Ch) : cv (l ++ m) = cv l ++ cv m := List.flatMap_append
theorem cv_length (l : List Ch) : (cv l).length = l.length * 4 := by
  induction l with
  | nil => rfl
  | cons f l ih =>
    show (ccells f ++ cv l).length = _
    rw [List.length_append, ih, List.length_cons]
    show 4 + l.length * 4 = _
    omega
theorem cv_one (l : List Ch) : ∀ u ∈ cv l, u.oneCell' = true := by
  intro u hu
  obtain ⟨f, _, hf⟩ := List.mem_flatMap.1 hu
  simp only [ccells, List.mem_cons, List.not_mem_nil, or_false] at hf
  rcases hf with rfl | rfl | rfl | rfl <;> rfl
theorem cv_get (l : List Ch) (k : Nat) (f : Ch) (h : l[k]? = some f) (i : Nat) (hi : i < 4) : (cv l)[k * 4 + i]? = (ccells f)[i]? := by
  induction l generalizing k with
  | nil => simp at h
  | cons g l ih =>
    show (ccells g ++ cv l)[k * 4 + i]? = _
    cases k with
    | zero =>
      simp only [List.getElem?_cons_zero, Option.some.injEq] at h
      subst h
      rw [List.getElem?_append_left (by show 0 * 4 + i < 4; omega)]
      congr 1
      omega
    | succ k =>
      rw [List.getElem?_cons_succ] at h
      rw [List.getElem?_append_right (by show 4 ≤ (k + 1) * 4 + i; omega), ← ih k h]
      congr 1
      show (k + 1) * 4 + i - 4 = _
      omega
/-- a slice of changes that reads as the list l, below block B -/
def Chs (w : World) (B : Nat) (A : Option Addr) (n c : Nat) (l : List Ch) : Prop := Row w B 4 A n c (cv l)
def sv (l : List ByteArray) : List Value := l.map .string
theorem sv_one (l : List ByteArray) : ∀ u ∈ sv l, u.oneCell' = true := by
  intro u hu
  obtain ⟨f, _, rfl⟩ := List.mem_map.1 hu
  rfl
def Sigs (w : World) (B : Nat) (A : Option Addr) (n c : Nat) (l : List ByteArray) : Prop := Row w B 1 A n c (sv l)
section
variable {w w' : World} {B B' n c : Nat} {A : Option Addr} {l : List Ch} {m : List ByteArray}
theorem Chs.len (h : Chs w B A n c l) : l.length = n := by have := h.1; rw [cv_length] at this; omega
theorem Chs.le (h : Chs w B A n c l) : n ≤ c ∧ c ≤ 9223372036854775807 := ⟨h.2.1, h.2.2.1⟩
theorem Chs.below (h : Chs w B A n c l) (hb : Below B w w') : Chs w' B A n c l := Row.below h hb
theorem Chs.at_ (h : Chs w B A n c l) {k : Nat} (hk : k < n) :
    ∃ b off f, A = some ⟨b, off, none⟩ ∧ b < B ∧ w.cell? ⟨b, off + k * 4, none⟩ = some (.int .i64 f.tbl) ∧ w.cell? ⟨b, off + k * 4 + 1, none⟩ = some (.int .i64 f.key) ∧ w.cell? ⟨b, off + k * 4 + 2, none⟩ = some (.bool f.gone) ∧ w.cell? ⟨b, off + k * 4 + 3, none⟩ = some (.string f.val) ∧
      l[k]? = some f ∧ l.take (k + 1) = l.take k ++ [f] := by
  obtain ⟨b, off, e, hb, hc⟩ := h.2.2.2 (by omega)
  have hl : k < l.length := by rw [h.len]; exact hk
  have hg : l[k]? = some l[k] := List.getElem?_eq_getElem hl
  refine ⟨b, off, l[k], e, hb, ?_, ?_, ?_, ?_, hg, List.take_succ_eq_append_getElem hl⟩
  · exact hc (k * 4 + 0) _ (by rw [cv_get l k _ hg 0 (by omega)]; rfl)
  · exact hc (k * 4 + 1) _ (by rw [cv_get l k _ hg 1 (by omega)]; rfl)
  · exact hc (k * 4 + 2) _ (by rw [cv_get l k _ hg 2 (by omega)]; rfl)
  · exact hc (k * 4 + 3) _ (by rw [cv_get l k _ hg 3 (by omega)]; rfl)
theorem Sigs.len (h : Sigs w B A n c m) : m.length = n := by have := h.1; rw [sv, List.length_map] at this; omega
theorem Sigs.le (h : Sigs w B A n c m) : n ≤ c ∧ c ≤ 9223372036854775807 := ⟨h.2.1, h.2.2.1⟩
theorem Sigs.below (h : Sigs w B A n c m) (hb : Below B w w') : Sigs w' B A n c m := Row.below h hb
theorem Sigs.at_ (h : Sigs w B A n c m) {k : Nat} (hk : k < n) :
    ∃ b off s, A = some ⟨b, off, none⟩ ∧ b < B ∧ w.cell? ⟨b, off + k, none⟩ = some (.string s) ∧ m[k]? = some s ∧ m.take (k + 1) = m.take k ++ [s] := by
  obtain ⟨b, off, e, hb, hc⟩ := h.2.2.2 (by omega)
  have hl : k < m.length := by rw [h.len]; exact hk
  have hg : m[k]? = some m[k] := List.getElem?_eq_getElem hl
  exact ⟨b, off, m[k], e, hb, hc k _ (by rw [sv, List.getElem?_map, hg]; rfl), hg, List.take_succ_eq_append_getElem hl⟩
end
def chv (c : Ch) : Value := .agg #[.int .i64 c.tbl, .int .i64 c.key, .bool c.gone, .string c.val]
def txv (lsn kind mark : Int) (A : Option Addr) (n c : Nat) (A' : Option Addr) (n' c' : Nat) : Value := .agg #[.int .i64 lsn, .int .i64 kind, .slice A n c, .slice A' n' c', .int .i64 mark]

theorem mayLsn_any (n : Int) (w : World) : Calls Try.prog 42 #[.int .i64 n] w fun e w' => e = .returned (.bool (mayLsn n)) ∧ w = w' := by
  by_cases h1 : 1 ≤ n
  · have HE := Lib.hid (show decide (n ≤ 1099511627776) = mayLsn n by unfold mayLsn; rw [decide_eq_true h1, Bool.true_and])
    go_enter Try.func42, Try.ntmps42
    go_wp2
    go_ret
    exact ⟨ret_bool HE.out, rfl⟩
  · have HE := Lib.hid (show false = mayLsn n by unfold mayLsn; rw [decide_eq_false h1, Bool.false_and])
    go_enter Try.func42, Try.ntmps42
    go_wp2
    go_ret
    exact ⟨ret_bool HE.out, rfl⟩
set_option maxHeartbeats 800000 in
theorem maychange_any (t k : Int) (g : Bool) (v : ByteArray) (n : Int) (w : World) : Calls Try.prog 19 #[.agg #[.int .i64 t, .int .i64 k, .bool g, .string v], .int .i64 n] w fun e w' => e = .returned (.bool (Ch.may n ⟨t, k, g, v⟩)) ∧ Below w.heap.size w w' := by
  by_cases h1 : t < 0
  · go_enter Try.func19, Try.ntmps19
    go_wp2
    go_ret
    exact ⟨ret_bool (by simp [Ch.may]; omega), (Below.refl _ _).alloc (Nat.le_refl _) _⟩
  · by_cases h2 : n ≤ t
    · go_enter Try.func19, Try.ntmps19
      go_wp2
      go_ret
      exact ⟨ret_bool (by simp [Ch.may]; omega), (Below.refl _ _).alloc (Nat.le_refl _) _⟩
    · by_cases h3 : k < 1
      · go_enter Try.func19, Try.ntmps19
        go_wp2
        go_ret
        exact ⟨ret_bool (by simp [Ch.may]; omega), (Below.refl _ _).alloc (Nat.le_refl _) _⟩
      · by_cases h4 : 1099511627776 < k
        · go_enter Try.func19, Try.ntmps19
          go_wp2
          go_ret
          exact ⟨ret_bool (by simp [Ch.may]; omega), (Below.refl _ _).alloc (Nat.le_refl _) _⟩
        · cases g with
          | true =>
            go_enter Try.func19, Try.ntmps19
            go_wp2
            go_ret
            exact ⟨ret_bool (by simp [Ch.may, empty_iff, show 0 ≤ t by omega, show t < n by omega, show 1 ≤ k by omega, show k ≤ 1099511627776 by omega]), (Below.refl _ _).alloc (Nat.le_refl _) _⟩
          | false =>
            go_enter Try.func19, Try.ntmps19
            go_wp2
            go_ret
            exact ⟨ret_bool (by simp [Ch.may, show 0 ≤ t by omega, show t < n by omega, show 1 ≤ k by omega, show k ≤ 1099511627776 by omega]; omega), (Below.refl _ _).alloc (Nat.le_refl _) _⟩

def MayRel (w : World) (l : List Ch) (n : Nat) (i : Value) (wr : World) : Prop := ∃ k : Nat, k ≤ n ∧ i = .int .i64 k ∧ (∀ f ∈ l.take k, f.may 8 = true) ∧ Below w.heap.size w wr
theorem all_take {α : Type} {l : List α} {p : α → Bool} {n : Nat} (hl : l.length ≤ n) (h : ∀ f ∈ l.take n, p f = true) : l.all p = true := by
  rw [List.take_of_length_le hl] at h
  exact List.all_eq_true.2 h
theorem all_not {α : Type} {l : List α} {p : α → Bool} {k : Nat} {f : α} (hg : l[k]? = some f) (h : p f = false) : l.all p = false := by
  rw [Bool.eq_false_iff]
  intro h2
  rw [List.all_eq_true.1 h2 f (List.mem_of_getElem? hg)] at h
  cases h
theorem take_all {α : Type} {l : List α} {p : α → Bool} {k : Nat} {f : α} (h : ∀ x ∈ l.take k, p x = true) (e : l.take (k + 1) = l.take k ++ [f]) (hf : p f = true) : ∀ x ∈ l.take (k + 1), p x = true := by
  intro x hx
  rw [e] at hx
  rcases List.mem_append.1 hx with hx | hx
  · exact h x hx
  · rw [List.mem_singleton] at hx
    subst hx
    exact hf
set_option maxHeartbeats 800000 in
theorem mayChanges_any (B : Nat) (A : Option Addr) (n c : Nat) (l : List Ch) (w : World) (h : Chs w B A n c l) (hB : B ≤ w.heap.size) : Calls Try.prog 43 #[.slice A n c] w fun e w' => e = .returned (.bool (mayChs l)) ∧ Below w.heap.size w w' := by
  have hlen := h.len
  have HL := Lib.hid hlen
  have HR := Lib.hid h
  clear h
  by_cases h16 : 16 < n
  · have HE := Lib.hid (show mayChs l = false by unfold mayChs; rw [hlen]; simp; omega)
    clear hlen
    go_enter Try.func43, Try.ntmps43
    go_wp2
    go_ret
    exact ⟨ret_bool (a := false) HE.out.symm, Below.refl _ _⟩
  · have HE := Lib.hid (show mayChs l = l.all (Ch.may 8) by unfold mayChs; rw [hlen, decide_eq_true (by omega), Bool.true_and])
    clear hlen
    go_enter Try.func43, Try.ntmps43
    go_wp2
    go_loopw [10] (fun i wr => MayRel w l n i wr) (fun i _ => n - (intOf i).toNat)
    case atStart => exact ⟨0, Nat.zero_le _, rfl, (fun f hf => by simp at hf), Below.refl _ _⟩
    case round =>
      obtain ⟨k, hk, rfl, hall, hbel⟩ := hrel
      have HA := Lib.hid hall
      have HB := Lib.hid hbel
      clear hall hbel
      by_cases hlt : k < n
      · obtain ⟨b, off, f, rfl, hb, c0, c1, c2, c3, hget, htake⟩ := (HR.out.below (HB.out.mono hB)).at_ hlt
        have HG := Lib.hid hget
        have HT := Lib.hid htake
        clear hget htake
        obtain ⟨t, ky, g, v⟩ := f
        dsimp only at c0 c1 c2 c3
        have HBl := Lib.hid (show Below w.heap.size w (wr.alloc (.cells #[.int .i64 t, .int .i64 ky, .bool g, .string v] 27)) from HB.out.alloc HB.out.size _)
        cases hm : Ch.may 8 ⟨t, ky, g, v⟩ with
        | true =>
          have HM := Lib.hid hm
          go_wp2_with fail
          refine (maychange_any t ky g v 8 _).mono ?_
          rintro e w1 ⟨rfl, hb1⟩
          rw [HM.out]
          have HB1 := Lib.hid (held_two HBl.out hb1)
          clear hb1 hm
          go_wp2
          go_roundw
          case rel => exact ⟨k + 1, by omega, by go_num, take_all HA.out HT.out HM.out, HB1.out⟩
          case measure => simp [intOf]; omega
        | false =>
          have HM := Lib.hid hm
          go_wp2_with fail
          refine (maychange_any t ky g v 8 _).mono ?_
          rintro e w1 ⟨rfl, hb1⟩
          rw [HM.out]
          have HB1 := Lib.hid (held_two HBl.out hb1)
          clear hb1 hm
          go_wp2
          go_ret
          exact ⟨ret_bool (a := false) (by rw [HE.out, all_not HG.out HM.out]), HB1.out⟩
      · go_wp2
        go_ret
        exact ⟨ret_bool (a := true) (by rw [HE.out, all_take (n := k) (by rw [HL.out]; omega) HA.out]), HB.out⟩
def SigRel (m : List ByteArray) (n : Nat) (i : Value) : Prop := ∃ k : Nat, k ≤ n ∧ i = .int .i64 k ∧ ∀ f ∈ m.take k, decide (f.size ≤ 40) = true
set_option maxHeartbeats 800000 in
theorem maySignals_any (B : Nat) (A : Option Addr) (n c : Nat) (l : List ByteArray) (w : World) (h : Sigs w B A n c l) : Calls Try.prog 44 #[.slice A n c] w fun e w' => e = .returned (.bool (maySigs l)) ∧ w = w' := by
  have hlen := h.len
  have HL := Lib.hid hlen
  have HR := Lib.hid h
  clear h
  by_cases h2 : 2 < n
  · have HE := Lib.hid (show maySigs l = false by unfold maySigs; rw [hlen]; simp; omega)
    clear hlen
    go_enter Try.func44, Try.ntmps44
    go_wp2
    go_ret
    exact ⟨ret_bool (a := false) HE.out.symm, rfl⟩
  · have HE := Lib.hid (show maySigs l = l.all (fun s => decide (s.size ≤ 40)) by unfold maySigs; rw [hlen, decide_eq_true (by omega), Bool.true_and])
    clear hlen
    go_enter Try.func44, Try.ntmps44
    go_wp2
    go_loop [10] (fun i => SigRel l n i) (fun i => n - (intOf i).toNat)
    case atStart => exact ⟨0, Nat.zero_le _, rfl, fun f hf => by simp at hf⟩
    case round =>
      obtain ⟨k, hk, rfl, hall⟩ := hrel
      have HA := Lib.hid hall
      clear hall
      by_cases hlt : k < n
      · obtain ⟨b, off, s, rfl, hb, c0, hget, htake⟩ := HR.out.at_ hlt
        have HG := Lib.hid hget
        have HT := Lib.hid htake
        clear hget htake
        by_cases hs : s.size ≤ 40
        · have HM := Lib.hid (decide_eq_true hs)
          go_wp2
          go_round
          case rel => exact ⟨k + 1, by omega, by go_num, take_all HA.out HT.out HM.out⟩
          case measure => simp [intOf]; omega
        · have HM := Lib.hid (decide_eq_false hs)
          go_wp2
          go_ret
          exact ⟨ret_bool (a := false) (by rw [HE.out, all_not HG.out HM.out]), rfl⟩
      · go_wp2
        go_ret
        exact ⟨ret_bool (a := true) (by rw [HE.out, all_take (n := k) (by rw [HL.out]; omega) HA.out]), rfl⟩
end Go.Proofs.Ytjicdnknlfpajaa.Txn
