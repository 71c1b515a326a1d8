/-
  What the second form's bound gives: how many places a slice has that came in.
-/
import Derived.Test.YtedfddnbgljcjaaGreatRows
import Derived.Test.YtedfddnbgljcjaaGreatOpenBytes
namespace Go.Proofs.YtedfddnbgljcjaaGreat.Bulk
set_option maxRecDepth 100000
open Go.RowKit Base
open Go.ChangeShapes Go.WideShapes Go.Deep

theorem pos {H : Type} : ∀ d : DataW H, 0 < Rows.uptoBulk d
  | .lit l => by cases l <;> simp [Rows.uptoBulk]
  | .nil => by simp [Rows.uptoBulk]
  | .ptr _ => by simp [Rows.uptoBulk]
  | .slice _ _ => by simp [Rows.uptoBulk]
  | .agg _ => by simp [Rows.uptoBulk]
  | .iface _ _ => by simp [Rows.uptoBulk]
  | .map _ => by simp [Rows.uptoBulk]
  | .held _ => by simp [Rows.uptoBulk]
theorem len {H : Type} (l : List (DataW H)) : l.length ≤ Rows.uptoBulkAll l := by
  induction l with
  | nil => exact Nat.zero_le _
  | cons d l ih =>
    have := pos d
    show l.length + 1 ≤ Rows.uptoBulk d + Rows.uptoBulkAll l
    omega
theorem mem {H : Type} {d : DataW H} {l : List (DataW H)} (h : d ∈ l) : Rows.uptoBulk d ≤ Rows.uptoBulkAll l := by
  induction l with
  | nil => cases h
  | cons x l ih =>
    show _ ≤ Rows.uptoBulk x + Rows.uptoBulkAll l
    rcases List.mem_cons.1 h with rfl | h
    · omega
    · have := ih h
      omega
/-- a slice among the arguments has at most so many places -/
theorem places {H : Type} {l e s : List (DataW H)} (hk : Rows.uptoSmall H l = true) (hm : DataW.slice e s ∈ l) : e.length + s.length ≤ 1048576 := by
  have h0 : Rows.uptoBulkAll l ≤ 1048576 := of_decide_eq_true hk
  have h1 := mem hm
  have h2 := len e
  have h3 := len s
  have h4 : Rows.uptoBulk (DataW.slice e s) = Rows.uptoBulkAll e + Rows.uptoBulkAll s + 1 := by simp only [Rows.uptoBulk]
  omega

section
variable {H : Type} {enc : TypeId × Value → H} {W : World} {a : Option Addr} {len cap : Nat} {d : DataW H} {p : List MemPlace}
/-- a slice of bytes that came in, with the bound on its places -/
theorem open_bytes_upto (h : DataW.Trod enc Tryz.prog W 0 (fun _ => true) true 31 (.slice a len cap) d p) (hs : ∀ e s, d = .slice e s → e.length + s.length ≤ 1048576) : ∃ l, Bytes W W.heap.size a len cap l ∧ len ≤ 1048576 := by
  obtain ⟨fuel, hf⟩ := h
  rcases open_ints Tryz.underlying31 Tryz.underlying5 (by kernel_rfl) hf with ⟨hcs, _⟩ | ⟨x, l, c, zs, hcs, _, hl, hm, hz, hx, hcell, hwz⟩
  · simp [Value.cells] at hcs
    obtain ⟨rfl, rfl, rfl⟩ := hcs
    exact ⟨[], Bytes.nil_ _ _, by omega⟩
  · simp [Value.cells] at hcs
    obtain ⟨rfl, rfl, rfl⟩ := hcs
    refine ⟨_, Field.bytes_of hl hm (by simpa using hz) hcell hwz, ?_⟩
    simp only [Prod.mk.injEq] at hx
    have := hs _ _ hx.1
    have hz' : zs.length = cap := by simpa using hz
    simp only [lits, List.length_map, List.length_take, List.length_drop] at this
    omega
end
end Go.Proofs.YtedfddnbgljcjaaGreat.Bulk
