/-
  A disk in memory: its own block, the map of its files, each file's block and row of bytes, and what one step turns of them.
-/
import Derived.Test.YtedfddnbgljcjaaGreatRows
import Derived.Test.YtedfddnbgljcjaaGreatBase
import Derived.Test.YtedfddnbgljcjaaGreatEb
import Derived.Test.YtedfddnbgljcjaaGreatMaths
import Derived.Maps.Own
import Derived.Maps.OwnSet
import Derived.Lib.SlKeysI
namespace Go.Proofs.YtedfddnbgljcjaaGreat.Disk
set_option maxRecDepth 100000
open Go.RowKit Base DiskMath
open Go.Maps (Keyed)

theorem eb : Elem Tryz.prog 31 5 1 1 (.int .u8 0) := Field.eb

/-! ### what has turned -/
/-- what has turned lies in F, or is new -/
structure Turn (F : Nat → Prop) (w w' : World) : Prop where
  os : w'.os = w.os
  tape : w'.tape = w.tape
  output : w'.output = w.output
  size : w.heap.size ≤ w'.heap.size
  block : ∀ i, i < w.heap.size → ¬ F i → w'.heap[i]? = w.heap[i]?
/-- F, and what is new -/
def Out (F : Nat → Prop) (w w' : World) (i : Nat) : Prop := F i ∨ (w.heap.size ≤ i ∧ i < w'.heap.size)

section
variable {F F' : Nat → Prop} {w w1 w2 : World}
theorem Turn.refl (F : Nat → Prop) (w : World) : Turn F w w := ⟨rfl, rfl, rfl, Nat.le_refl _, fun _ _ _ => rfl⟩
theorem Turn.trans (h : Turn F w w1) (k : Turn F' w1 w2) (hF : ∀ i, F' i → F i ∨ w.heap.size ≤ i) : Turn F w w2 :=
  ⟨k.os.trans h.os, k.tape.trans h.tape, k.output.trans h.output, Nat.le_trans h.size k.size, fun i hi hn => (k.block i (Nat.lt_of_lt_of_le hi h.size) (fun hf => by
    rcases hF i hf with h1 | h1
    · exact hn h1
    · omega)).trans (h.block i hi hn)⟩
theorem Turn.mono (h : Turn F w w1) (hF : ∀ i, F i → F' i) : Turn F' w w1 := ⟨h.os, h.tape, h.output, h.size, fun i hi hn => h.block i hi fun hf => hn (hF i hf)⟩
theorem Turn.grown {row : Option Nat} (h : w.grownBy w1 row) (hr : ∀ g, row = some g → F g) : Turn F w w1 :=
  ⟨h.os, h.tape, h.output, h.size, fun i hi hn => h.block i hi fun e => hn (hr i e.symm)⟩
theorem Turn.new (h : Below w.heap.size w w1) : Turn F w w1 := ⟨h.os, h.tape, h.output, h.size, fun i hi _ => h.block i hi⟩
theorem Turn.below {B : Nat} (h : Turn F w w1) (hF : ∀ i, F i → B ≤ i) (hB : B ≤ w.heap.size) : Below B w w1 :=
  ⟨h.os, h.tape, h.output, h.size, fun i hi => h.block i (by omega) fun hf => by have := hF i hf; omega⟩
theorem Turn.alloc (h : Turn F w w1) (o : Obj) : Turn F w (w1.alloc o) :=
  h.trans (F' := fun _ => False) (.new ((Below.refl _ _).alloc (Nat.le_refl _) o)) (fun _ h => h.elim)
theorem Turn.setCell (h : Turn F w w1) {p : Addr} (hp : F p.block ∨ w.heap.size ≤ p.block) (u : Value) : Turn F w (w1.setCell p u) :=
  ⟨h.os, h.tape, h.output, by simpa [World.setCell] using h.size, fun i hi hn => (Below.heap_setCell w1 p u i (by
    rintro rfl
    rcases hp with hp | hp
    · exact hn hp
    · omega)).trans (h.block i hi hn)⟩
theorem Turn.drewN (h : Turn F w w1) (n : Nat) : Turn F w (w1.drewN n) := ⟨h.os, h.tape, h.output, h.size, h.block⟩
theorem Turn.cell {F : Nat → Prop} {w w' : World} (h : Turn F w w') {p : Addr} (hp : p.block < w.heap.size) (hn : ¬ F p.block) : w'.cell? p = w.cell? p := World.cell?_of_block (h.block _ hp hn)
theorem Out.mono (h1 : w1.heap.size ≤ w2.heap.size) {i : Nat} (h : Out F w w1 i) : Out F w w2 i := h.imp id fun h => ⟨h.1, by omega⟩
theorem Out.two (h : Turn F w w1) {i : Nat} (hi : Out (Out F w w1) w1 w2 i) (h2 : w1.heap.size ≤ w2.heap.size) : Out F w w2 i := by
  rcases hi with (h1 | h1) | h1
  · exact .inl h1
  · exact .inr ⟨h1.1, by omega⟩
  · exact .inr ⟨Nat.le_trans h.size h1.1, h1.2⟩
theorem Turn.two (h : Turn F w w1) (k : Turn (Out F w w1) w1 w2) : Turn F w w2 := h.trans k fun _ hi => hi.imp id fun h => h.1
end

/-! ### the map's datum -/
/-- how a file's address reads -/
def rd (v : Value) : Option (DataW Unit × List MemPlace) :=
  match v with
  | .pointer none => some (.nil, [])
  | .pointer (some ⟨p, 0, none⟩) => some (.lit (.int .i64 p), [])
  | _ => none
/-- a file's address, its row's address, its row's capacity -/
structure Pl where
  p : Nat
  A : Option Addr
  c : Nat
def Pl.row (q : Pl) : Option Nat := q.A.map (·.block)
theorem row_own (q : Pl) (n c : Nat) : (Value.slice q.A n c).ownBlock = q.row := by
  obtain ⟨p, A, c'⟩ := q
  cases A <;> rfl
def upd (pl : Int → Pl) (f : Int) (q : Pl) : Int → Pl := fun k => if k = f then q else pl k
theorem upd_same (pl : Int → Pl) (f : Int) (q : Pl) : upd pl f q f = q := if_pos rfl
theorem upd_other (pl : Int → Pl) {f k : Int} (q : Pl) (h : k ≠ f) : upd pl f q k = pl k := if_neg h
def ent (pl : Int → Pl) (x : Fl) : Lit × DataW Unit := (.int .i64 x.id, .lit (.int .i64 (pl x.id).p))
def ents (l : List Fl) (pl : Int → Pl) : List (Lit × DataW Unit) := l.map (ent pl)
theorem ents_cons (x : Fl) (r : List Fl) (pl : Int → Pl) : ents (x :: r) pl = ent pl x :: ents r pl := rfl
theorem ents_congr {l : List Fl} {pl pl' : Int → Pl} (h : ∀ x ∈ l, (pl x.id).p = (pl' x.id).p) : ents l pl = ents l pl' :=
  List.map_congr_left fun x hx => by unfold ent; rw [h x hx]
theorem ents_ids {l l' : List Fl} {pl : Int → Pl} (h : l.map (·.id) = l'.map (·.id)) : ents l pl = ents l' pl := by
  have e : ∀ l : List Fl, ents l pl = (l.map (·.id)).map fun k => (Lit.int .i64 k, DataW.lit (.int .i64 (pl k).p)) := fun l => by
    rw [List.map_map]
    rfl
  rw [e, e, h]
theorem ents_keys (l : List Fl) (pl : Int → Pl) : intKeys (DataW.map (ents l pl)) = l.map (·.id) := by
  show (ents l pl).map _ = _
  rw [ents, List.map_map]
  rfl
theorem ents_at (l : List Fl) (pl : Int → Pl) (f : Int) : (DataW.map (ents l pl)).atKey (.int .i64 f) .nil = match seek l f with | some _ => .lit (.int .i64 (pl f).p) | none => .nil := by
  unfold DataW.atKey seek
  dsimp only
  induction l with
  | nil => rfl
  | cons x r ih =>
    rw [ents_cons, List.find?_cons, List.find?_cons]
    by_cases e : x.id = f
    · simp [ent, Lit.sameKey, e]
    · have : (ent pl x).1.sameKey (.int .i64 f) = false := by simp [ent, Lit.sameKey, e]
      rw [this, decide_eq_false e]
      exact ih
theorem ents_filter (l : List Fl) (pl : Int → Pl) (f : Int) : (ents l pl).filter (fun p => !p.1.sameKey (.int .i64 f)) = ents (del l f) pl := by
  unfold ents del
  rw [List.filter_map]
  congr 1
  apply List.filter_congr
  intro x _
  simp [ent, Lit.sameKey]
theorem ents_del (l : List Fl) (pl : Int → Pl) (f : Int) : (DataW.map (ents l pl)).del (.int .i64 f) = .map (ents (del l f) pl) := by
  show DataW.map _ = _
  rw [ents_filter]
theorem del_none {l : List Fl} {f : Int} (h : ∀ x ∈ l, x.id ≠ f) : del l f = l := by
  unfold del
  rw [List.filter_eq_self]
  intro x hx
  simpa using h x hx
theorem ents_ins {f : Int} {q : Pl} (pl : Int → Pl) : ∀ {l : List Fl}, (∀ x ∈ l, x.id ≠ f) → DataW.insert (.int .i64 f, .lit (.int .i64 q.p)) (ents l pl) = ents (ins f l) (upd pl f q)
  | [], _ => by simp [ents, ent, ins, DataW.insert, upd]
  | x :: r, h => by
    have hx := h x List.mem_cons_self
    have hr : ∀ y ∈ r, y.id ≠ f := fun y hy => h y (List.mem_cons_of_mem _ hy)
    rw [ents_cons, DataW.insert, ins]
    have e : (Lit.int .i64 f).before (ent pl x).1 = decide (f < x.id) := rfl
    have e2 : ent (upd pl f q) x = ent pl x := by unfold ent; rw [upd_other _ _ hx]
    by_cases hlt : x.id < f
    · rw [if_neg (by rw [e]; simp; omega), if_pos hlt, ents_cons, ents_ins pl hr, e2]
    · rw [if_pos (by rw [e]; simp; omega), if_neg hlt, ents_cons, ents_cons, e2, ents_congr (pl := upd pl f q) (pl' := pl) (fun y hy => by rw [upd_other _ _ (hr y hy)])]
      simp [ent, upd]
theorem ents_put {l : List Fl} {f : Int} (q : Pl) (pl : Int → Pl) (h : ∀ x ∈ l, x.id ≠ f) : (DataW.map (ents l pl)).put (.int .i64 f) (.lit (.int .i64 q.p)) = .map (ents (ins f l) (upd pl f q)) := by
  show DataW.map (DataW.insert _ _) = _
  rw [ents_filter, del_none h, ents_ins pl h]

/-! ### one file -/
def FileAt (w : World) (F : Nat → Prop) (x : Fl) (q : Pl) : Prop :=
  Blk w q.p 73 #[.slice q.A x.b.length q.c, .int .i64 x.safe] ∧ F q.p ∧ w.ownsRow 0 5 1 (.slice q.A x.b.length q.c) x.b.length (bv x.b) ∧ ∀ g, q.row = some g → F g
theorem own_same {w w' : World} {base n : Nat} {e : TypeId} {size : Nat} {v : Value} {xs : List Value} (h : w.ownsRow base e size v n xs) (hk : ∀ g, v.ownBlock = some g → w'.heap[g]? = w.heap[g]?) : w'.ownsRow base e size v n xs := by
  rcases h with ⟨h1, h2 | ⟨g, cap, cur, hv, hg, h3, h4⟩⟩
  · exact ⟨h1, .inl h2⟩
  · exact ⟨h1, .inr ⟨g, cap, cur, hv, hg, (hk g (by rw [hv]; rfl)).trans h3, h4⟩⟩
theorem own_type {w : World} {base n : Nat} {e : TypeId} {size : Nat} {v : Value} {xs : List Value} (h : w.ownsRow base e size v n xs) {g : Nat} (hg : v.ownBlock = some g) : ∃ cur, w.heap[g]? = some (.cells cur e (0, 0)) := by
  rcases h with ⟨_, ⟨hv, _⟩ | ⟨g', cap, cur, hv, _, h3, _⟩⟩
  · rw [hv] at hg; cases hg
  · rw [hv] at hg
    injection hg with hg
    subst hg
    exact ⟨cur, h3⟩
theorem FileAt.mono {w : World} {F F' : Nat → Prop} {x : Fl} {q : Pl} (h : FileAt w F x q) (hF : ∀ i, F i → F' i) : FileAt w F' x q := ⟨h.1, hF _ h.2.1, h.2.2.1, fun g hg => hF g (h.2.2.2 g hg)⟩
theorem FileAt.keep {w w' : World} {F : Nat → Prop} {x : Fl} {q : Pl} (h : FileAt w F x q) (hp : w'.heap[q.p]? = w.heap[q.p]?) (hr : ∀ g, q.row = some g → w'.heap[g]? = w.heap[g]?) : FileAt w' F x q :=
  ⟨hp.trans h.1, h.2.1, own_same h.2.2.1 (by rw [row_own]; exact hr), h.2.2.2⟩
theorem FileAt.bytes {w : World} {F : Nat → Prop} {x : Fl} {q : Pl} (h : FileAt w F x q) : Bytes w w.heap.size q.A x.b.length q.c x.b := Bytes.of_own h.2.2.1

/-! ### all files -/
def FilesAt (w : World) (F : Nat → Prop) (l : List Fl) (pl : Int → Pl) : Prop :=
  (∀ x ∈ l, FileAt w F x (pl x.id)) ∧ ∀ x ∈ l, ∀ y ∈ l, x.id ≠ y.id → (pl x.id).p ≠ (pl y.id).p ∧ ((pl x.id).row = none ∨ (pl x.id).row ≠ (pl y.id).row)
def Body (w : World) (F : Nat → Prop) (l : List Fl) (m : Nat) (pl : Int → Pl) : Prop :=
  F m ∧ w.ownsMap Tryz.prog 3 rd m l.length (.map (ents l pl)) ∧ FilesAt w F l pl ∧ Up 0 l
def Head (w : World) (g : Nat) (d : Dk) (m : Nat) : Prop := Blk w g 53 #[.int .i64 d.ops, .int .i64 d.left, .bool d.off, .map (some m)]
/-- block g is the disk d, in F -/
def DiskAt (F : Nat → Prop) (w : World) (g : Nat) (d : Dk) : Prop := ∃ m pl, Head w g d m ∧ F g ∧ Body w F d.files m pl

theorem Body.finds {w : World} {F : Nat → Prop} {l : List Fl} {m : Nat} {pl : Int → Pl} (h : Body w F l m pl) {f : Int} (hf : (Lit.int .i64 f).wf = true) :
    (Instr.lookup 49 (.map (some m)) (.int .i64 f) false).run Tryz.prog w = .ok (.pointer ((seek l f).map fun _ => ⟨(pl f).p, 0, none⟩)) w := by
  obtain ⟨v, ps, hrun, hv⟩ := h.2.1.lookup (t := 49) (e := 69) (Maps.int_keyed Tryz.underlying3) Tryz.underlying49 (z := .pointer none) (by kernel_rfl) (zd := .nil) (zp := []) rfl (Maps.keyOf_int_mk Tryz.underlying3 hf)
  rw [hrun, ents_at] at *
  congr 1
  unfold rd at hv
  split at hv
  · cases hq : seek l f with
    | none => rfl
    | some x => rw [hq] at hv; simp at hv
  · rename_i p
    cases hq : seek l f with
    | none => rw [hq] at hv; simp at hv
    | some x =>
      rw [hq] at hv
      simp only [Option.some.injEq, Prod.mk.injEq, DataW.lit.injEq, Lit.int.injEq] at hv
      have := hv.1.2
      obtain rfl : p = (pl f).p := by omega
      rfl
  · cases hv

section
variable {F F' : Nat → Prop} {w w' : World} {l : List Fl} {m g : Nat} {pl : Int → Pl} {d : Dk}
theorem map_lt (h : Body w F l m pl) : m < w.heap.size := h.2.1.lt
theorem map_obj (h : Body w F l m pl) : ∃ es cl, w.heap[m]? = some (.map es cl) := by
  obtain ⟨es, cl, hb, _⟩ := h.2.1
  exact ⟨es, cl, hb⟩
/-- what is not a disk's own block stays: so does the body -/
theorem Body.keep (h : Body w F l m pl) (hk : ∀ i o, F i → w.heap[i]? = some o → (∀ cs, o ≠ .cells cs 53 (0, 0)) → w'.heap[i]? = some o) : Body w' F l m pl := by
  obtain ⟨h1, ⟨es, cl, hb, hm⟩, ⟨h3, h4⟩, h5⟩ := h
  refine ⟨h1, ⟨es, cl, hk m _ h1 hb (fun cs e => by cases e), hm⟩, ⟨fun x hx => ?_, h4⟩, h5⟩
  have hx := h3 x hx
  refine hx.keep ?_ fun g hg => ?_
  · exact (hk _ _ hx.2.1 hx.1 (fun cs e => by cases e)).trans hx.1.symm
  · obtain ⟨cur, hc⟩ := own_type hx.2.2.1 (g := g) (by rw [row_own]; exact hg)
    exact (hk _ _ (hx.2.2.2 g hg) hc (fun cs e => by cases e)).trans hc.symm
theorem Body.mono (h : Body w F l m pl) (hF : ∀ i, F i → F' i) : Body w F' l m pl := ⟨hF _ h.1, h.2.1, ⟨fun x hx => (h.2.2.1.1 x hx).mono hF, h.2.2.1.2⟩, h.2.2.2⟩
theorem DiskAt.mono (h : DiskAt F w g d) (hF : ∀ i, F i → F' i) : DiskAt F' w g d := by
  obtain ⟨m, pl, h1, h2, h3⟩ := h
  exact ⟨m, pl, h1, hF _ h2, h3.mono hF⟩
theorem DiskAt.lt (h : DiskAt F w g d) : g < w.heap.size := by
  obtain ⟨m, pl, h1, _⟩ := h
  exact Blk.lt h1
theorem DiskAt.up (h : DiskAt F w g d) : Up 0 d.files := by
  obtain ⟨m, pl, _, _, h3⟩ := h
  exact h3.2.2.2
/-- nothing of it has turned -/
theorem DiskAt.keep (h : DiskAt F w g d) (hk : ∀ i, i < w.heap.size → F i → w'.heap[i]? = w.heap[i]?) : DiskAt F w' g d := by
  obtain ⟨m, pl, h1, h2, h3⟩ := h
  refine ⟨m, pl, (hk g (Blk.lt h1) h2).trans h1, h2, h3.keep fun i o hi ho _ => (hk i ?_ hi).trans ho⟩
  rcases Nat.lt_or_ge i w.heap.size with h | h
  · exact h
  · rw [Array.getElem?_eq_none h] at ho; cases ho
theorem DiskAt.new (h : DiskAt F w g d) (hb : Below w.heap.size w w') : DiskAt F w' g d := h.keep fun i hi _ => hb.block i hi
theorem DiskAt.turn (h : DiskAt F w g d) (hb : Turn F' w w') (hn : ∀ i, F i → ¬ F' i) : DiskAt F w' g d := h.keep fun i hi hf => hb.block i hi (hn i hf)
theorem DiskAt.alloc (h : DiskAt F w g d) (o : Obj) : DiskAt F (w.alloc o) g d := h.new ((Below.refl _ _).alloc (Nat.le_refl _) o)
theorem DiskAt.drewN (h : DiskAt F w g d) (n : Nat) : DiskAt F (w.drewN n) g d := h
/-- the disk's own block turns -/
theorem Body.head (h : Body w F l m pl) {cs : Array Value} (hg : Blk w g 53 cs) (hw : w.grownBy w' (some g)) : Body w' F l m pl :=
  h.keep fun i o _ ho hn => by
    have hi : i < w.heap.size := by
      rcases Nat.lt_or_ge i w.heap.size with h | h
      · exact h
      · rw [Array.getElem?_eq_none h] at ho; cases ho
    refine (hw.block i hi fun e => ?_).trans ho
    injection e with e
    subst e
    unfold Blk at hg
    rw [hg] at ho
    injection ho with ho
    exact hn cs ho.symm
/-- one file turns -/
theorem Body.turn (h : Body w F l m pl) {f : Int} {x : Fl} (hx : seek l f = some x) {t : Fl → Fl} (ht : ∀ x, (t x).id = x.id) (hs : ∀ x, x.safe ≤ x.b.length → (t x).safe ≤ (t x).b.length)
    (hw : ∀ i, i < w.heap.size → i ≠ (pl f).p → some i ≠ (pl f).row → w'.heap[i]? = w.heap[i]?) {q : Pl} (hq : FileAt w' F' (t x) q) (hp : q.p = (pl f).p) (hr : q.row = (pl f).row ∨ ∀ g, q.row = some g → w.heap.size ≤ g) (hF : ∀ i, F i → F' i) :
    Body w' F' (put l f t) m (upd pl f q) := by
  obtain ⟨h1, ⟨es, cl, hb, hm⟩, ⟨h3, h4⟩, h5⟩ := h
  obtain ⟨hxl, hxf⟩ := seek_mem hx
  have hX := h3 x hxl
  rw [hxf] at hX
  have hmn : m ≠ (pl f).p := fun e => by
    have := hX.1
    unfold Blk at this
    rw [← e, hb] at this
    cases this
  have hmr : some m ≠ (pl f).row := fun e => by
    obtain ⟨cur, hc⟩ := own_type hX.2.2.1 (g := m) (by rw [row_own]; exact e.symm)
    rw [hb] at hc
    cases hc
  have hmlt : m < w.heap.size := (Array.getElem?_eq_some_iff.1 hb).1
  have hlen : (put l f t).length = l.length := put_length _ _ _
  have hent : ents (put l f t) (upd pl f q) = ents l pl := by
    rw [ents_ids (put_ids l f t ht)]
    refine ents_congr fun y _ => ?_
    by_cases e : y.id = f
    · rw [e, upd_same, hp]
    · rw [upd_other _ _ e]
  refine ⟨hF _ h1, ?_, ⟨fun y hy => ?_, fun y hy z hz hne => ?_⟩, put_up ht hs h5⟩
  · rw [hlen, hent]
    exact ⟨es, cl, (hw m hmlt hmn hmr).trans hb, hm⟩
  · obtain ⟨y0, hy0, ⟨e1, rfl⟩ | ⟨e1, rfl⟩⟩ := put_mem hy
    · rw [ht, e1, upd_same]
      rwa [h5.one y0 hy0 x hxl (by rw [e1, hxf])]
    · rw [upd_other _ _ e1]
      have hY := h3 y hy0
      have hap := h4 y hy0 x hxl (by rw [hxf]; exact e1)
      rw [hxf] at hap
      refine (hY.keep ?_ fun g hg => ?_).mono hF
      · refine hw _ (Blk.lt hY.1) hap.1 fun e => ?_
        obtain ⟨cur, hc⟩ := own_type hX.2.2.1 (g := (pl y.id).p) (by rw [row_own]; exact e.symm)
        have := hY.1
        unfold Blk at this
        rw [hc] at this
        cases this
      · obtain ⟨cur, hc⟩ := own_type hY.2.2.1 (g := g) (by rw [row_own]; exact hg)
        refine hw g (Array.getElem?_eq_some_iff.1 hc).1 (fun e => ?_) (fun e => ?_)
        · have := hX.1
          unfold Blk at this
          rw [← e, hc] at this
          cases this
        · rcases hap.2 with h0 | h0
          · rw [hg] at h0; cases h0
          · exact h0 (hg.trans e)
  · obtain ⟨y0, hy0, hyc⟩ := put_mem hy
    obtain ⟨z0, hz0, hzc⟩ := put_mem hz
    have ey : y.id = y0.id := by
      rcases hyc with ⟨_, rfl⟩ | ⟨_, rfl⟩
      · exact ht _
      · rfl
    have ez : z.id = z0.id := by
      rcases hzc with ⟨_, rfl⟩ | ⟨_, rfl⟩
      · exact ht _
      · rfl
    rw [ey, ez] at hne ⊢
    have hap := h4 y0 hy0 z0 hz0 hne
    have hrow : ∀ v : Fl, v ∈ l → ∀ g, (pl v.id).row = some g → g < w.heap.size := fun v hv g hg => by
      obtain ⟨cur, hc⟩ := own_type (h3 v hv).2.2.1 (g := g) (by rw [row_own]; exact hg)
      exact (Array.getElem?_eq_some_iff.1 hc).1
    by_cases e1 : y0.id = f
    · have e2 : z0.id ≠ f := fun e => hne (by rw [e1, e])
      rw [e1, upd_same, upd_other _ _ e2, hp]
      rw [e1] at hap
      refine ⟨hap.1, ?_⟩
      rcases hr with hr | hr
      · rw [hr]; exact hap.2
      · cases hqr : q.row with
        | none => exact .inl rfl
        | some g =>
          refine .inr fun e => ?_
          have a := hr g hqr
          have b := hrow z0 hz0 g e.symm
          omega
    · rw [upd_other _ _ e1]
      by_cases e2 : z0.id = f
      · rw [e2, upd_same, hp]
        rw [e2] at hap
        refine ⟨hap.1, ?_⟩
        rcases hr with hr | hr
        · rw [hr]; exact hap.2
        · cases hqr : (pl y0.id).row with
          | none => exact .inl rfl
          | some g =>
            refine .inr fun e => ?_
            have a := hr g e.symm
            have b := hrow y0 hy0 g hqr
            omega
      · rw [upd_other _ _ e2]
        exact hap
/-- a file begins: its block was laid, and put into the map -/
theorem Body.begin {w1 w2 : World} (h : Body w F l m pl) {f : Int} (hf0 : 0 ≤ f) (hf : f < 16384) (hx : seek l f = none) {p : Nat} (hp : p = w.heap.size) (h1 : w1 = w.alloc (.cells #[.slice none 0 0, .int .i64 0] 73)) {n : Nat}
    (h2 : w2.ownsMap Tryz.prog 3 rd m n ((DataW.map (ents l pl)).put (.int .i64 f) (.lit (.int .i64 p)))) (hg : w1.grownBy w2 (some m)) (hF : ∀ i, F i → F' i) (hFp : F' p) :
    Body w2 F' (ins f l) m (upd pl f ⟨p, none, 0⟩) := by
  subst hp h1
  have hmlt := map_lt h
  obtain ⟨h1, hown, ⟨h3, h4⟩, h5⟩ := h
  have hne : ∀ x ∈ l, x.id ≠ f := seek_none hx
  have hkeep : ∀ i, i < w.heap.size → i ≠ m → w2.heap[i]? = w.heap[i]? := fun i hi hn =>
    (hg.block i (by simp; omega) (fun e => hn (by injection e))).trans (Below.heap_alloc w _ i hi)
  obtain ⟨es, cl, hb, _⟩ := hown
  refine ⟨hF _ h1, ?_, ⟨fun y hy => ?_, fun y hy z hz hyz => ?_⟩, ins_up hf hf0 h5 hne⟩
  · have e : (DataW.map (ents l pl)).put (.int .i64 f) (.lit (.int .i64 w.heap.size)) = .map (ents (ins f l) (upd pl f ⟨w.heap.size, none, 0⟩)) := ents_put ⟨w.heap.size, none, 0⟩ pl hne
    rw [e] at h2
    obtain ⟨es', cl', hb', hfit, _, hD⟩ := h2
    refine ⟨es', cl', hb', hfit, ?_, hD⟩
    have := congrArg (fun D : DataW Unit => Maps.size D) hD
    simp only [Maps.size, length_sorted, ents, List.length_map, Array.length_toList] at this
    omega
  · rcases ins_mem hy with rfl | hy
    · show FileAt _ _ _ (upd pl f _ f)
      rw [upd_same]
      refine ⟨?_, hFp, World.ownsRow_nil _ _ _ _, fun g hg => by cases hg⟩
      exact (hg.block w.heap.size (by simp) (fun e => by injection e with e; omega)).trans (heap_alloc_new w _)
    · rw [upd_other _ _ (hne y hy)]
      have hY := h3 y hy
      refine (hY.keep (hkeep _ (Blk.lt hY.1) fun e => ?_) fun g hgr => ?_).mono hF
      · have := hY.1
        unfold Blk at this
        rw [e, hb] at this
        cases this
      · obtain ⟨cur, hc⟩ := own_type hY.2.2.1 (g := g) (by rw [row_own]; exact hgr)
        refine hkeep g (Array.getElem?_eq_some_iff.1 hc).1 fun e => ?_
        rw [e, hb] at hc
        cases hc
  · rcases ins_mem hy with rfl | hy
    · rcases ins_mem hz with rfl | hz
      · exact absurd rfl hyz
      · rw [upd_other _ _ (hne z hz)]
        show (upd pl f _ f).p ≠ _ ∧ ((upd pl f _ f).row = none ∨ _)
        rw [upd_same]
        exact ⟨fun e => by have := Blk.lt (h3 z hz).1; rw [← e] at this; exact absurd this (Nat.lt_irrefl _), .inl rfl⟩
    · rcases ins_mem hz with rfl | hz
      · rw [upd_other _ _ (hne y hy)]
        show _ ≠ (upd pl f _ f).p ∧ (_ ∨ _ ≠ (upd pl f _ f).row)
        rw [upd_same]
        refine ⟨fun e => by have := Blk.lt (h3 y hy).1; rw [e] at this; exact absurd this (Nat.lt_irrefl _), ?_⟩
        cases hqr : (pl y.id).row with
        | none => exact .inl rfl
        | some g => exact .inr fun e => by cases e
      · rw [upd_other _ _ (hne y hy), upd_other _ _ (hne z hz)]
        exact h4 y hy z hz hyz
/-- a file is taken out of the map -/
theorem Body.gone (h : Body w F l m pl) {f : Int} {n : Nat} (h2 : w'.ownsMap Tryz.prog 3 rd m n ((DataW.map (ents l pl)).del (.int .i64 f))) (hg : w.grownBy w' (some m)) : Body w' F (del l f) m pl := by
  obtain ⟨h1, hown, ⟨h3, h4⟩, h5⟩ := h
  have hmlt := hown.lt
  obtain ⟨es, cl, hb, _⟩ := hown
  refine ⟨h1, ?_, ⟨fun y hy => ?_, fun y hy z hz hyz => h4 y (del_mem hy).1 z (del_mem hz).1 hyz⟩, del_up h5⟩
  · rw [ents_del] at h2
    obtain ⟨es', cl', hb', hfit, _, hD⟩ := h2
    refine ⟨es', cl', hb', hfit, ?_, hD⟩
    have := congrArg (fun D : DataW Unit => Maps.size D) hD
    simp only [Maps.size, length_sorted, ents, List.length_map, Array.length_toList] at this
    omega
  · have hY := h3 y (del_mem hy).1
    refine hY.keep (hg.block _ (Blk.lt hY.1) fun e => ?_) fun g hgr => ?_
    · have := hY.1
      unfold Blk at this
      injection e with e
      rw [e, hb] at this
      cases this
    · obtain ⟨cur, hc⟩ := own_type hY.2.2.1 (g := g) (by rw [row_own]; exact hgr)
      refine hg.block g (Array.getElem?_eq_some_iff.1 hc).1 fun e => ?_
      injection e with e
      rw [e, hb] at hc
      cases hc
end
end Go.Proofs.YtedfddnbgljcjaaGreat.Disk
