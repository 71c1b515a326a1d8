/-
  A replica of the code's and one of the document's in one memory, apart: contracts of both once more in that form. No condition but the sizes said.
-/
import Derived.Test.YtlbgpfiiiggofaaGdPuts
import Derived.Test.YtlbgpfiiiggofaaRpPut
import Derived.Test.YtlbgpfiiiggofaaRpRows
namespace Go.Proofs.Ytlbgpfiiiggofaa.Gd
set_option linter.unusedVariables false
set_option linter.unusedSimpArgs false
set_option maxRecDepth 100000
open Go.RowKit Base GuardMath Foot
set_option linter.ambiguousOpen false

/-- both; all that is the document's own lies behind the code's replica, and below s -/
structure Two (B0 : Nat) (w : World) (g n M : Nat) (T : List (List Ce)) (p M' : Nat) (T' : List (List Ce)) (s : Nat) : Prop where
  code : GAt w g n M T
  doc : ∃ R, RAt w R p T' ∧ ∀ i, R i → g + 2 + n ≤ i ∧ i < s
  most : Most T' M'
  base : B0 ≤ g
  size : s ≤ w.heap.size
section
variable {B0 : Nat} {w w' : World} {g n M : Nat} {T : List (List Ce)} {p M' : Nat} {T' : List (List Ce)} {s : Nat}
theorem Two.new (h : Two B0 w g n M T p M' T' s) (hb : Below w.heap.size w w') : Two B0 w' g n M T p M' T' s := by
  obtain ⟨h1, ⟨R, h2, h3⟩, h4, h5, h6⟩ := h
  exact ⟨h1.new hb, ⟨R, h2.new hb, h3⟩, h4, h5, Nat.le_trans h6 hb.size⟩
theorem Two.up (h : Two B0 w g n M T p M' T' s) : Two B0 w g n M T p M' T' w.heap.size := by
  obtain ⟨h1, ⟨R, h2, h3⟩, h4, h5, h6⟩ := h
  exact ⟨h1, ⟨R, h2, fun i hi => ⟨(h3 i hi).1, by have := (h3 i hi).2; omega⟩⟩, h4, h5, Nat.le_refl _⟩
/-- both are made -/
theorem Two.made {w0 w1 w2 : World} (hm : GAt w1 w0.heap.size n 0 (E n)) (hz : w1.heap.size = w0.heap.size + 2 + n) (hb : Below w0.heap.size w0 w1) (hr : RAt w2 (fun i => w1.heap.size ≤ i ∧ i < w2.heap.size) p (List.replicate n [])) (hb2 : Below w1.heap.size w1 w2) :
    Two w0.heap.size w2 w0.heap.size n 0 (E n) p 0 (E n) w2.heap.size :=
  ⟨hm.new hb2, ⟨_, hr, fun i hi => ⟨by have := hi.1; omega, hi.2⟩⟩, most_E n, Nat.le_refl _, Nat.le_refl _⟩
end
/-- what a call on either leaves -/
def TwoPut (B0 : Nat) (w : World) (g n M : Nat) (T : List (List Ce)) (p M' : Nat) (T' : List (List Ce)) (s : Nat) (x : Nat) (e : Ending) (w' : World) : Prop := e = .returned (.int .i64 x) ∧ Two B0 w' g n M T p M' T' s ∧ Below B0 w w'
theorem two_put {B0 : Nat} {w : World} {g n M : Nat} {T : List (List Ce)} {p M' : Nat} {T' : List (List Ce)} {s : Nat} (h : Two B0 w g n M T p M' T' s) (B : Nat) (A : Option Addr) (m c : Nat) (l : List Gp) (hl : Gps w B A m c l) (hB : B ≤ w.heap.size) (hoff : ∀ b off, A = some ⟨b, off, none⟩ → ¬ Own g n b) (hk : ∀ o ∈ l, In64 o.key) (hM : M + l.length ≤ 1099511627774) (hn : n ≤ 8) (hB0 : B0 ≤ w.heap.size) :
    Calls Try.prog 11 #[.pointer (some ⟨g + 1, 0, none⟩), .slice A m c] w fun e w' => TwoPut B0 w g n (M + l.length) (doAll T l) p M' T' s (cnt T l) e w' ∧ Turn (Own g n) w w' := by
  obtain ⟨h1, ⟨R, h2, h3⟩, h4, h5, h6⟩ := h
  refine (put_any g n M T B A m c l w h1 hl hB hoff hk hM hn).mono ?_
  rintro e w' ⟨rfl, hg, ht⟩
  refine ⟨⟨rfl, ⟨hg, ⟨R, h2.keep fun i hi hr => ht.block i hi fun ho => ?_, h3⟩, h4, h5, Nat.le_trans h6 ht.size⟩, ht.below (fun i hi => Nat.le_trans h5 hi.1) hB0⟩, ht⟩
  have := (h3 i hr).1
  have := ho.2
  omega
theorem two_rput {B0 : Nat} {w : World} {g n M : Nat} {T : List (List Ce)} {p M' : Nat} {T' : List (List Ce)} {s : Nat} (h : Two B0 w g n M T p M' T' s) (B : Nat) (A : Option Addr) (m c : Nat) (l : List Gp) (hl : Gps w B A m c l) (hB : B ≤ w.heap.size) (hoff : ∀ b off, A = some ⟨b, off, none⟩ → b < g + 2 + n ∨ s ≤ b) (hM : M' + m ≤ 1099511627774) (hB0 : B0 ≤ w.heap.size) :
    Calls Try.prog 12 #[.pointer (some ⟨p, 0, none⟩), .slice A m c] w fun e w' => TwoPut B0 w g n M T p (M' + m) (doAll T' l) w'.heap.size (cnt T' l) e w' := by
  obtain ⟨h1, ⟨R, h2, h3⟩, h4, h5, h6⟩ := h
  have hlen := hl.len
  refine (rput_any R p T' M' A m c l w h2 (fun wr ht => ((hl.apart hB (fun b off e hr => ?_) ht).more (Nat.le_trans hB ht.size))) h4 hM).mono ?_
  · have := h3 b hr
    rcases hoff b off e with h | h <;> omega
  rintro e w' ⟨rfl, hr, ht⟩
  refine ⟨rfl, ⟨h1.apart ht (fun i hi ho => by have := (h3 i hi).1; have := ho.2; omega), ⟨_, hr, fun i hi => ?_⟩, by have := most_doAll h4 l; rwa [hlen] at this, h5, Nat.le_refl _⟩, ht.below (fun i hi => by have := (h3 i hi).1; omega) hB0⟩
  rcases hi with hi | hi
  · have := h3 i hi
    have := ht.size
    omega
  · have h7 : g + 2 + n ≤ w.heap.size := by
      rcases Nat.eq_zero_or_pos n with h0 | h0
      · have := h1.box.lt
        omega
      · exact h1.lt h0
    omega
theorem two_rcells {B0 : Nat} {w : World} {g n M : Nat} {T : List (List Ce)} {p M' : Nat} {T' : List (List Ce)} {s : Nat} (h : Two B0 w g n M T p M' T' s) (t : Int) (hM : M' ≤ 1099511627774) :
    Calls Try.prog 15 #[.pointer (some ⟨p, 0, none⟩), .int .i64 t] w (CesNew w (tab T' t)) := by
  obtain ⟨h1, ⟨R, h2, h3⟩, h4, h5, h6⟩ := h
  exact rcells_any R p T' M' t w h2 h4 hM
theorem two_rrows {B0 : Nat} {w : World} {g n M : Nat} {T : List (List Ce)} {p M' : Nat} {T' : List (List Ce)} {s : Nat} (h : Two B0 w g n M T p M' T' s) (t : Int) (hM : M' ≤ 1099511627774) :
    Calls Try.prog 18 #[.pointer (some ⟨p, 0, none⟩), .int .i64 t] w (RwsNew w (rows (tab T' t))) := by
  obtain ⟨h1, ⟨R, h2, h3⟩, h4, h5, h6⟩ := h
  exact rrows_any R p T' M' t w h2 h4 hM
end Go.Proofs.Ytlbgpfiiiggofaa.Gd
