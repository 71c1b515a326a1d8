/-
  Transactions in memory: a slice of transactions that reads as a list of them (changes as PlayChg has them, signals as texts).
-/
import Derived.Test.YtlgdbpejefgeaaaPlayChg
namespace Go.Proofs.Ytlgdbpejefgeaaa.PTx
set_option linter.unusedVariables false
open Go.RowKit Base TxnMath
open PChg (Cs)

/-- a slice of texts -/
def Ss (w : World) (B : Nat) (A : Option Addr) (n c : Nat) (l : List ByteArray) : Prop := Row w B 1 A n c (l.map .string)
theorem Ss.len {w : World} {B : Nat} {A : Option Addr} {n c : Nat} {l : List ByteArray} (h : Ss w B A n c l) : l.length = n := by have := h.1; rw [List.length_map] at this; omega
theorem Ss.at_ {w : World} {B : Nat} {A : Option Addr} {n c : Nat} {m : List ByteArray} (h : Ss w B A n c m) {k : Nat} (hk : k < n) :
    ∃ b off s, A = some ⟨b, off, none⟩ ∧ b < B ∧ w.cell? ⟨b, off + k, none⟩ = some (.string s) ∧ m[k]? = some s ∧ m.take (k + 1) = m.take k ++ [s] := by
  obtain ⟨b, off, e, hb, hc⟩ := h.2.2.2 (by omega)
  have hl : k < m.length := by rw [h.len]; exact hk
  have hg : m[k]? = some m[k] := List.getElem?_eq_getElem hl
  exact ⟨b, off, m[k], e, hb, hc k _ (by rw [List.getElem?_map, hg]; rfl), hg, List.take_succ_eq_append_getElem hl⟩
def txval (lsn kind mark : Int) (A : Option Addr) (n c : Nat) (A' : Option Addr) (n' c' : Nat) : Value := .agg #[.int .i64 lsn, .int .i64 kind, .slice A n c, .slice A' n' c', .int .i64 mark]
/-- the five cells from place o of block b read as the transaction x; all that they name lies below block B -/
def TxAt (w : World) (B b o : Nat) (x : Tx) : Prop := ∃ A n c A' n' c', w.cell? ⟨b, o, none⟩ = some (.int .i64 x.lsn) ∧ w.cell? ⟨b, o + 1, none⟩ = some (.int .i64 x.kind) ∧ w.cell? ⟨b, o + 2, none⟩ = some (.slice A n c) ∧
  w.cell? ⟨b, o + 3, none⟩ = some (.slice A' n' c') ∧ w.cell? ⟨b, o + 4, none⟩ = some (.int .i64 x.mark) ∧ Cs w B A n c x.chs ∧ Ss w B A' n' c' x.sigs
/-- a slice of transactions that reads as the list l, below block B -/
def Txs (w : World) (B : Nat) (A : Option Addr) (n c : Nat) (l : List Tx) : Prop := l.length = n ∧ n ≤ c ∧ c ≤ 9223372036854775807 ∧
  ∀ i x, l[i]? = some x → ∃ b off, A = some ⟨b, off, none⟩ ∧ b < B ∧ TxAt w B b (off + i * 5) x
section
variable {w w' : World} {B B' b o n c : Nat} {A : Option Addr} {l : List Tx} {x : Tx}
theorem TxAt.keep (h : TxAt w B b o x) (hb : b < B) (hk : ∀ p : Addr, p.block < B → w'.cell? p = w.cell? p) : TxAt w' B b o x := by
  obtain ⟨A, n, c, A', n', c', h0, h1, h2, h3, h4, h5, h6⟩ := h
  exact ⟨A, n, c, A', n', c', (hk _ hb).trans h0, (hk _ hb).trans h1, (hk _ hb).trans h2, (hk _ hb).trans h3, (hk _ hb).trans h4, Row.keep h5 hk, Row.keep h6 hk⟩
theorem TxAt.more (h : TxAt w B b o x) (hB : B ≤ B') : TxAt w B' b o x := by
  obtain ⟨A, n, c, A', n', c', h0, h1, h2, h3, h4, h5, h6⟩ := h
  exact ⟨A, n, c, A', n', c', h0, h1, h2, h3, h4, Row.more h5 hB, Row.more h6 hB⟩
theorem Txs.len (h : Txs w B A n c l) : l.length = n := h.1
theorem Txs.le (h : Txs w B A n c l) : n ≤ c ∧ c ≤ 9223372036854775807 := ⟨h.2.1, h.2.2.1⟩
theorem Txs.keep (h : Txs w B A n c l) (hk : ∀ p : Addr, p.block < B → w'.cell? p = w.cell? p) : Txs w' B A n c l :=
  ⟨h.1, h.2.1, h.2.2.1, fun i x hx => by
    obtain ⟨b, off, e, hb, ht⟩ := h.2.2.2 i x hx
    exact ⟨b, off, e, hb, ht.keep hb hk⟩⟩
theorem Txs.below (h : Txs w B A n c l) (hb : Below B w w') : Txs w' B A n c l := h.keep fun _ hp => hb.cell hp
theorem Txs.more (h : Txs w B A n c l) (hB : B ≤ B') : Txs w B' A n c l :=
  ⟨h.1, h.2.1, h.2.2.1, fun i x hx => by
    obtain ⟨b, off, e, hb, ht⟩ := h.2.2.2 i x hx
    exact ⟨b, off, e, by omega, ht.more hB⟩⟩
theorem Txs.nil_ (w : World) (B : Nat) : Txs w B none 0 0 [] := ⟨rfl, by omega, by omega, fun i x hx => by simp at hx⟩
theorem Txs.at_ (h : Txs w B A n c l) {k : Nat} (hk : k < n) : ∃ b off x, A = some ⟨b, off, none⟩ ∧ b < B ∧ l[k]? = some x ∧ TxAt w B b (off + k * 5) x := by
  have hg : l[k]? = some (l[k]'(by rw [h.1]; exact hk)) := List.getElem?_eq_getElem _
  obtain ⟨b, off, e, hb, ht⟩ := h.2.2.2 k _ hg
  exact ⟨b, off, _, e, hb, hg, ht⟩
end
theorem lit_one {w : World} {b : Nat} {T : TypeId} {x : Ch} (h : Blk w b T #[.int .i64 x.tbl, .int .i64 x.key, .bool x.gone, .string x.val]) : Cs w w.heap.size (some ⟨b, 0, none⟩) 1 1 [x] := by
  refine ⟨rfl, by omega, by omega, fun _ => ⟨b, 0, rfl, h.lt, fun j u hu => ?_⟩⟩
  rw [h.cell, Nat.zero_add]
  have : (PChg.gv [x])[j]? = #[Value.int .i64 x.tbl, .int .i64 x.key, .bool x.gone, .string x.val][j]? := by simp [PChg.gv, PChg.gcells]
  rw [← this]
  exact hu
end Go.Proofs.Ytlgdbpejefgeaaa.PTx
