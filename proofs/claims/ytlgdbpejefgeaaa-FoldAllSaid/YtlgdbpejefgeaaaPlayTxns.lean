/-
  Contracts of how the statements make signals, and transactions, that may be, of any ones, for any number of tables, at most so many.
-/
import Derived.Test.YtlgdbpejefgeaaaPlaySig
import Derived.Test.YtlgdbpejefgeaaaPlayBig
namespace Go.Proofs.Ytlgdbpejefgeaaa.PTx
set_option linter.unusedVariables false
set_option maxRecDepth 100000
open Go.RowKit Base TxnMath
open PChg (Cs gv gcells pchanges_any all_snoc)
open Go.Proofs.Ytlgdbpejefgeaaa.Field (modZ modZ_lt mod_any bigZ bigZ_lt playbig_any cut_any)
set_option linter.ambiguousOpen false
set_option linter.unusedSimpArgs false

def sv (l : List ByteArray) : List Value := l.map .string
theorem sv_one (l : List ByteArray) : ∀ u ∈ sv l, u.oneCell' = true := by
  intro u hu
  obtain ⟨f, _, rfl⟩ := List.mem_map.1 hu
  rfl
theorem estr : Elem Try.prog 34 9 1 16 (.string ⟨#[]⟩) := Elem.of Try.underlying34 (by kernel_rfl) rfl (by omega)
theorem one_str (w : World) (f : ByteArray) {s : Nat} (hs : s = w.heap.size) : Row (w.alloc (.cells #[.string f] 9)) (w.heap.size + 1) 1 (some ⟨s, 0, none⟩) 1 1 (sv [f]) :=
  Row.lit w #[.string f] _ (0, 0) hs rfl (by omega)
def SomeSig (M : Nat) (w : World) (e : Ending) (w' : World) : Prop := ∃ (l : List ByteArray) (A : Option Addr) (n c : Nat), e = .returned (.slice A n c) ∧ n ≤ M ∧ w'.ownsRow w.heap.size 9 1 (.slice A n c) n (sv l) ∧ (∀ f ∈ l, f.size ≤ 40) ∧ Below w.heap.size w w'
def SigRel (M : Nat) (w : World) (n : Nat) (v i : Value) (wr : World) : Prop := ∃ (k : Nat) (l : List ByteArray) (A : Option Addr) (c : Nat), k ≤ n ∧ k ≤ M ∧ i = .int .i64 k ∧ v = .slice A k c ∧ wr.ownsRow w.heap.size 9 1 (.slice A k c) k (sv l) ∧ (∀ f ∈ l, f.size ≤ 40) ∧ Below w.heap.size w wr
set_option maxHeartbeats 1600000 in
theorem psignals_any (N M : Nat) (hN : 1 ≤ N) (hN8 : N ≤ 1000) (hM : M ≤ 1000) (B : Nat) (A : Option Addr) (n c : Nat) (l : List ByteArray) (w : World) (h : Ss w B A n c l) (hB : B ≤ w.heap.size) (hok : ∀ f ∈ l, f.size ≤ 9223372036854775807) :
    Calls Try.prog 23 #[.slice A n c, .int .i64 N, .int .i64 M] w (SomeSig M w) := by
  have hle : n ≤ c ∧ c ≤ 9223372036854775807 := Row.le h
  have HR := Lib.hid h
  have HOK := Lib.hid hok
  clear h hok
  go_enter Try.func23, Try.ntmps23
  go_wp2
  go_loopw [7, 8] (fun v i wr => SigRel M w n v i wr) (fun _ i _ => n - (Go.RowKit.intOf i).toNat)
  case atStart => exact ⟨0, [], none, 0, by omega, by omega, rfl, rfl, World.ownsRow_nil _ _ _ _, (fun f hf => by cases hf), Below.refl _ _⟩
  case round =>
    obtain ⟨k, pre, A1, c1, hk, hk5, rfl, rfl, hown, hall, hbel⟩ := hrel
    have HO := Lib.hid hown
    have HA := Lib.hid hall
    have HB := Lib.hid hbel
    have hz := hbel.size
    clear hown hall hbel
    by_cases hgo : k < n ∧ k < M
    · obtain ⟨hlt, hlt5⟩ := hgo
      obtain ⟨b, off, f, rfl, hb, q0, hget, _⟩ := (Ss.at_ (Row.below HR.out (HB.out.mono hB)) hlt)
      have HG := Lib.hid (HOK.out f (List.mem_of_getElem? hget))
      clear hget
      have l1 : (k : Int) < (n : Int) := by omega
      have l2 : (k : Int) < (M : Int) := by omega
      go_wp2_with fail
      refine (psignal_any N hN hN8 f _ HG.out).mono ?_
      rintro e w2 ⟨f2, rfl, hm2, hb2⟩
      have HM2 := Lib.hid hm2
      have HB2 := Lib.hid (held_call HB.out hb2 : Below w.heap.size w w2)
      have HO2 := Lib.hid (own_keep HO.out hb2)
      have hz2 : w.heap.size ≤ w2.heap.size := HB2.out.size
      clear hm2 hb2
      go_wp2_with (first
        | (at_builtin
           refine wpList_append_row rfl (.tmp 20) (.tmp 27) rfl estr w.heap.size _ k (sv pre) rfl (own_keep HO2.out ((Below.refl _ _).alloc (Nat.le_refl _) _)) _ _ 1 1 (sv [f2]) rfl (one_str w2 f2 rfl) (sv_one _) (by omega) (by omega) (by simp; omega) ?_
           intro A3 c3 w3 hown3 _ hb3
           rw [show sv pre ++ sv [f2] = sv (pre ++ [f2]) from List.map_append.symm] at hown3
           have HO3 := Lib.hid hown3
           have HB3 := Lib.hid ((HB2.out.alloc hz2 _).trans hb3)
           clear hown3 hb3)
        | fail)
      go_roundw
      case rel => exact ⟨k + 1, pre ++ [f2], A3, c3, by omega, by omega, by go_num, rfl, HO3.out, all_snoc HA.out HM2.out, HB3.out⟩
      case measure => simp [Go.RowKit.intOf]; omega
    · by_cases hkn : k < n
      all_goals
        have h5 : k < n → ¬ k < M := fun h h5 => hgo ⟨h, h5⟩
        clear hgo
      · have l1 : (k : Int) < (n : Int) := by omega
        have l2 : ¬ (k : Int) < (M : Int) := by omega
        go_wp2
        go_ret
        exact ⟨pre, A1, k, c1, rfl, hk5, HO.out, HA.out, HB.out⟩
      · have l1 : ¬ (k : Int) < (n : Int) := by omega
        go_wp2
        go_ret
        exact ⟨pre, A1, k, c1, rfl, hk5, HO.out, HA.out, HB.out⟩

/-! ### transactions -/
theorem etx : Elem Try.prog 22 42 5 72 (.agg #[.int .i64 0, .int .i64 0, .slice none 0 0, .slice none 0 0, .int .i64 0]) := Elem.of Try.underlying22 (by kernel_rfl) rfl (by omega)
/-- a transaction that the statements make, the i-th, of N tables -/
structure Good (N i : Nat) (x : Tx) : Prop where
  lsn : x.lsn = (i : Int) + 1
  few : x.chs.length ≤ 5
  chs : ∀ f ∈ x.chs, f.may N = true
  nsig : x.sigs.length ≤ 2
  sig : ∀ s ∈ x.sigs, s.size ≤ 40
  kind : (x.kind = 1 ∧ x.mark = 0) ∨ ((x.kind = 2 ∨ x.kind = 3) ∧ 1 ≤ x.mark ∧ x.mark ≤ 20 ∧ x.chs = [] ∧ x.sigs = [])
def tcells (lsn kind mark : Int) (A : Option Addr) (n c : Nat) (A' : Option Addr) (n' c' : Nat) : List Value := [.int .i64 lsn, .int .i64 kind, .slice A n c, .slice A' n' c', .int .i64 mark]
theorem tcells_one (lsn kind mark : Int) (A : Option Addr) (n c : Nat) (A' : Option Addr) (n' c' : Nat) : ∀ u ∈ tcells lsn kind mark A n c A' n' c', u.oneCell' = true := by
  intro u hu
  simp only [tcells, List.mem_cons, List.not_mem_nil, or_false] at hu
  rcases hu with rfl | rfl | rfl | rfl | rfl <;> rfl
theorem one_tx (w : World) (lsn kind mark : Int) (A : Option Addr) (n c : Nat) (A' : Option Addr) (n' c' : Nat) {s : Nat} (hs : s = w.heap.size) : Row (w.alloc (.cells #[.int .i64 lsn, .int .i64 kind, .slice A n c, .slice A' n' c', .int .i64 mark] 42)) (w.heap.size + 1) 5 (some ⟨s, 0, none⟩) 1 1 (tcells lsn kind mark A n c A' n' c') :=
  Row.lit w #[.int .i64 lsn, .int .i64 kind, .slice A n c, .slice A' n' c', .int .i64 mark] _ (0, 0) hs rfl (by omega)
/-- the i-th of a row of transactions in the making -/
def InTx (w : World) (base : Nat) (vs : List Value) (i : Nat) (x : Tx) : Prop := ∃ A n c A' n' c', (∀ j, j < 5 → vs[i * 5 + j]? = (tcells x.lsn x.kind x.mark A n c A' n' c')[j]?) ∧
  w.ownsRow base 44 4 (.slice A n c) n (gv x.chs) ∧ w.ownsRow base 9 1 (.slice A' n' c') n' (sv x.sigs)
def TxRow (w : World) (base : Nat) (A : Option Addr) (k c : Nat) (l : List Tx) : Prop := ∃ vs, w.ownsRow base 42 5 (.slice A k c) k vs ∧ l.length = k ∧ ∀ i x, l[i]? = some x → InTx w base vs i x
def AllGood (N : Nat) (l : List Tx) : Prop := ∀ i x, l[i]? = some x → Good N i x
section
variable {w w' : World} {base k c : Nat} {A : Option Addr} {l : List Tx}
theorem TxRow.new (h : TxRow w base A k c l) (hb : Below w.heap.size w w') : TxRow w' base A k c l := by
  obtain ⟨vs, h1, h2, h3⟩ := h
  refine ⟨vs, own_keep h1 hb, h2, fun i x hx => ?_⟩
  obtain ⟨A1, n1, c1, A2, n2, c2, hv, h4, h5⟩ := h3 i x hx
  exact ⟨A1, n1, c1, A2, n2, c2, hv, own_keep h4 hb, own_keep h5 hb⟩
theorem own_other {base' n n' : Nat} {e e' : TypeId} {size size' : Nat} {v v' : Value} {xs xs' : List Value} (h : w.ownsRow base e size v n xs) (h' : w.ownsRow base' e' size' v' n' xs') (hne : e ≠ e') (hg : w.grownBy w' v'.ownBlock) : w'.ownsRow base e size v n xs :=
  h.kept hg (by
    rcases own_types h h' hne with h0 | h0
    · exact .inl h0
    · exact .inr h0)
theorem chg_ne : (44 : TypeId) ≠ 42 := by decide
theorem str_ne : (9 : TypeId) ≠ 42 := by decide
end
end Go.Proofs.Ytlgdbpejefgeaaa.PTx
