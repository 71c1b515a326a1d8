/-
  The code's set of tables and the document's in one memory; changes that are neither's own; how a slice of slices of changes is opened.
-/
import Derived.Test.YtngncalbglbjdaaTblRefSet
import Derived.Test.YtngncalbglbjdaaTableApart
import Derived.Test.YtngncalbglbjdaaTblSeen
import Derived.Test.YtngncalbglbjdaaLsts
import Derived.Test.YtngncalbglbjdaaChgOpen
import Derived.Test.YtngncalbglbjdaaIdxOpen
namespace Go.Proofs.Ytngncalbglbjdaa.Tbl
set_option linter.unusedVariables false
set_option maxRecDepth 100000
open Go.RowKit Base IdxMath Foot Idx
open PChg (Cs gcells gv)
open Lsts (Lsts)
set_option linter.ambiguousOpen false
set_option linter.unusedSimpArgs false

/-- both sets, apart -/
structure Both (w0 w : World) (F R : Nat → Prop) (p q : Nat) (T1 T2 : List (List Rw)) : Prop where
  set : SetAt w F p T1
  ref : RAt w R q T2
  inF : ∀ i, F i → w0.heap.size ≤ i ∧ i < w.heap.size
  inR : ∀ i, R i → w0.heap.size ≤ i ∧ i < w.heap.size
  apart : ∀ i, F i → ¬ R i
  bel : Below w0.heap.size w0 w
section
variable {w0 w w' : World} {F R : Nat → Prop} {p q : Nat} {T1 T2 T : List (List Rw)}
theorem Both.new (h : Both w0 w F R p q T1 T2) (hb : Below w.heap.size w w') : Both w0 w' F R p q T1 T2 where
  set := h.set.new hb
  ref := h.ref.new hb
  inF := fun i hi => ⟨(h.inF i hi).1, Nat.lt_of_lt_of_le (h.inF i hi).2 hb.size⟩
  inR := fun i hi => ⟨(h.inR i hi).1, Nat.lt_of_lt_of_le (h.inR i hi).2 hb.size⟩
  apart := h.apart
  bel := held_two h.bel hb
theorem Both.code (h : Both w0 w F R p q T1 T2) (hs : SetAt w' (Out F w w') p T) (ht : Turn F w w') : Both w0 w' (Out F w w') R p q T T2 where
  set := hs
  ref := h.ref.keep fun i hi hr => ht.block i hi fun hf => h.apart i hf hr
  inF := fun i hi => by
    have hz := ht.size
    have h0 := h.bel.size
    rcases hi with hi | hi
    · have := h.inF i hi; omega
    · omega
  inR := fun i hi => ⟨(h.inR i hi).1, Nat.lt_of_lt_of_le (h.inR i hi).2 ht.size⟩
  apart := fun i hi hr => by
    rcases hi with hi | hi
    · exact h.apart i hi hr
    · have := (h.inR i hr).2; omega
  bel := h.bel.trans (ht.below (fun i hi => (h.inF i hi).1) h.bel.size)
theorem Both.doc (h : Both w0 w F R p q T1 T2) (hr : RAt w' (Out R w w') q T) (ht : Turn R w w') : Both w0 w' F (Out R w w') p q T1 T where
  set := h.set.keep ht.size fun i hi hf => ht.block i hi fun hr => h.apart i hf hr
  ref := hr
  inR := fun i hi => by
    have hz := ht.size
    have h0 := h.bel.size
    rcases hi with hi | hi
    · have := h.inR i hi; omega
    · omega
  inF := fun i hi => ⟨(h.inF i hi).1, Nat.lt_of_lt_of_le (h.inF i hi).2 ht.size⟩
  apart := fun i hf hi => by
    rcases hi with hi | hi
    · exact h.apart i hf hi
    · have := (h.inF i hf).2; omega
  bel := h.bel.trans (ht.below (fun i hi => (h.inR i hi).1) h.bel.size)
end
theorem cs_same {w w' : World} {B n c : Nat} {A : Option Addr} {l : List Cg} (h : Cs w B A n c l) (hk : 0 < n → ∀ b off, A = some ⟨b, off, none⟩ → w'.heap[b]? = w.heap[b]?) : Cs w' B A n c l := by
  obtain ⟨h1, h2, h3, h4⟩ := h
  refine ⟨h1, h2, h3, fun hn => ?_⟩
  obtain ⟨b, off, e, hb, hc⟩ := h4 hn
  exact ⟨b, off, e, hb, fun j u hu => (World.cell?_of_block (hk hn b off e)).trans (hc j u hu)⟩
/-- changes that are no set's own -/
def CsIn (w : World) (F R : Nat → Prop) (A : Option Addr) (n c : Nat) (l : List Cg) : Prop := Cs w w.heap.size A n c l ∧ (0 < n → ∀ b off, A = some ⟨b, off, none⟩ → b < w.heap.size ∧ ¬ F b ∧ ¬ R b)
section
variable {w w' : World} {F R : Nat → Prop} {A : Option Addr} {n c : Nat} {l : List Cg}
theorem CsIn.new (h : CsIn w F R A n c l) (hb : Below w.heap.size w w') : CsIn w' F R A n c l := ⟨(h.1.below hb).more hb.size, fun hn b off e => ⟨Nat.lt_of_lt_of_le (h.2 hn b off e).1 hb.size, (h.2 hn b off e).2⟩⟩
theorem CsIn.code (h : CsIn w F R A n c l) (ht : Turn F w w') : CsIn w' (Out F w w') R A n c l := by
  refine ⟨(cs_same h.1 fun hn b off e => ht.block b (h.2 hn b off e).1 (h.2 hn b off e).2.1).more ht.size, fun hn b off e => ?_⟩
  obtain ⟨h1, h2, h3⟩ := h.2 hn b off e
  refine ⟨Nat.lt_of_lt_of_le h1 ht.size, fun ho => ?_, h3⟩
  rcases ho with ho | ho
  · exact h2 ho
  · omega
theorem CsIn.atF (h : CsIn w F R A n c l) (ht : Turn F w w') : Cs w' w'.heap.size A n c l := (h.code ht).1
theorem CsIn.atR (h : CsIn w F R A n c l) (ht : Turn R w w') : Cs w' w'.heap.size A n c l := (cs_same h.1 fun hn b off e => ht.block b (h.2 hn b off e).1 (h.2 hn b off e).2.2).more ht.size
theorem CsIn.raw {w0 : World} (h : Cs w w0.heap.size A n c l) (hz : w0.heap.size ≤ w.heap.size) (hF : ∀ i, F i → w0.heap.size ≤ i) (hR : ∀ i, R i → w0.heap.size ≤ i) : CsIn w F R A n c l := by
  refine ⟨h.more hz, fun hn b off e => ?_⟩
  obtain ⟨b', off', e', hb, _⟩ := h.2.2.2 hn
  rw [e] at e'
  simp only [Option.some.injEq, Addr.mk.injEq, and_true] at e'
  obtain ⟨rfl, rfl⟩ := e'
  exact ⟨by omega, fun hf => by have := hF _ hf; omega, fun hf => by have := hR _ hf; omega⟩
theorem CsIn.made {w1 : World} (h : w.ownsRow w1.heap.size 45 4 (.slice A n c) n (gv l)) (hF : ∀ i, F i → i < w1.heap.size) (hR : ∀ i, R i → i < w1.heap.size) : CsIn w F R A n c l := by
  refine ⟨Row.of_own h, fun hn b off e => ?_⟩
  subst e
  have hl := h.lt b rfl
  exact ⟨hl.2, fun hf => by have := hF _ hf; omega, fun hf => by have := hR _ hf; omega⟩
end
theorem most_appl {T : List (List Rw)} {M n : Nat} {l : List Cg} (h : Most T M) (hn : l.length ≤ n) : Most (appl T l) (M + n) := by
  unfold appl
  split
  · next ht => exact (most_doAll h l ht).mono (by omega)
  · exact h.mono (by omega)
theorem appl_length (T : List (List Rw)) (l : List Cg) : (appl T l).length = T.length := by
  unfold appl
  split
  · exact doAll_length T l
  · rfl
/-- changes as they come in -/
def In1 (l : List Cg) : Prop := ∀ f ∈ l, In64 f.key ∧ f.val.size ≤ 9223372036854775807
theorem in_may {N : Nat} {l : List Cg} (h : ∀ f ∈ l, f.may N = true) : ∀ f ∈ l, In64 f.key := fun f hf => by
  have := h f hf
  unfold TxnMath.Ch.may at this
  simp only [Bool.and_eq_true, decide_eq_true_eq] at this
  unfold In64
  omega
section
open Go.ChangeShapes Go.WideShapes Go.Deep
variable {H : Type} {enc : TypeId × Value → H} {W : World} {a : Option Addr} {len cap : Nat} {d : DataW H} {p : List MemPlace}
theorem open_list (n : Nat) (cs : List Value) (y : DataW H × List MemPlace) (hf : DataW.trod enc Try.prog W 0 (fun _ => true) true n 30 cs = some y) : ∃ A n' c' l, cs = [.slice A n' c'] ∧ Cs W W.heap.size A n' c' l ∧ In1 l := by
  rcases Flat.open_slice_fields Try.underlying30 Try.underlying45 (by kernel_rfl) (by kernel_rfl) hf with hcs | ⟨x, l, c, m, hcs, hl, hm, hmm, hall⟩
  · exact ⟨none, 0, 0, [], hcs, Row.nil_ _ _ _, fun x hx => by cases hx⟩
  · obtain ⟨ls, h1, _, h3⟩ := Flat.open_flat (ec := gcells) (k := 4) (fun _ => rfl) (by omega) TxnMath.noCh (fun x => In64 x.key ∧ x.val.size ≤ 9223372036854775807) (y := x) hl hm (fun i hi => by
      obtain ⟨n, hn⟩ := hall i (by rw [hmm]; simp; omega)
      obtain ⟨v0, y0, c0, t0⟩ := hn 0 _ rfl
      obtain ⟨v1, y1, c1, t1⟩ := hn 1 _ rfl
      obtain ⟨v2, y2, c2, t2⟩ := hn 2 _ rfl
      obtain ⟨v3, y3, c3, t3⟩ := hn 3 _ rfl
      obtain ⟨k0, e0, _, _⟩ := DataW.trod_int Try.underlying3 t0
      obtain ⟨k1, e1, _, wk⟩ := DataW.trod_int Try.underlying2 t1
      obtain ⟨k2, e2, _⟩ := DataW.trod_bool Try.underlying4 t2
      obtain ⟨s, e3, _, ws⟩ := DataW.trod_string Try.underlying9 t3
      simp only [List.cons.injEq, and_true] at e0 e1 e2 e3
      subst e0 e1 e2 e3
      refine ⟨⟨k0, k1, k2, s⟩, ⟨Idx.wf_i64 wk, ws⟩, fun j hj => ?_⟩
      match j, hj with
      | 0, _ => exact ⟨_, rfl, c0⟩
      | 1, _ => exact ⟨_, rfl, c1⟩
      | 2, _ => exact ⟨_, rfl, c2⟩
      | 3, _ => exact ⟨_, rfl, c3⟩)
    exact ⟨_, _, _, ls, hcs, h1, h3⟩
theorem open_lists (h : DataW.Trod enc Try.prog W 0 (fun _ => true) true 22 (.slice a len cap) d p) : ∃ L, Lsts Cs W W.heap.size a len cap L ∧ ∀ l ∈ L, In1 l :=
  Lsts.open_lsts ([] : List Cg) Try.underlying22 (by kernel_rfl) (fun n cs y hy => open_list n cs y hy) h
end
end Go.Proofs.Ytngncalbglbjdaa.Tbl
