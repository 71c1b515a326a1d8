/-
  Package fold: one key's place in one table: contracts of take and has.
-/
import Derived.Test.YtlgdbpejefgeaaaFoldCol
import Derived.Test.YtlgdbpejefgeaaaFoldTab
import Derived.BigQuiet
namespace Go.Proofs.Ytlgdbpejefgeaaa.Fold
set_option linter.unusedVariables false
set_option linter.unusedSimpArgs false
set_option maxRecDepth 100000
open Go.RowKit Base FoldMath Foot
open TxnMath (Ch Tx)
open PChg (gval Cs)
open PTx
set_option linter.ambiguousOpen false

/-- the place at block s: table t, key k; o is what it has -/
def SpotAt (w : World) (s : Nat) (t k : Int) (o : Option ByteArray) : Prop := Blk w s 70 #[.int .i64 t, .int .i64 k, .string (o.getD ⟨#[]⟩), .bool o.isSome]
def SpotR (w : World) (s : Nat) (t k : Int) (o : Option ByteArray) (e : Ending) (w' : World) : Prop := e = .returned (.tuple #[]) ∧ SpotAt w' s t k o ∧ Turn (fun i => i = s) w w'
set_option maxHeartbeats 3200000 in
theorem stake_any (s : Nat) (t k : Int) (o : Option ByteArray) (c : Ch) (w : World) (h : SpotAt w s t k o) : Calls Try.prog 34 #[.pointer (some ⟨s, 0, none⟩), gval c] w (SpotR w s t k (valStep t k o c)) := by
  obtain ⟨ct, ck, cg, cv⟩ := c
  have hsl : s < w.heap.size := h.lt
  have hb : Below w.heap.size w (w.alloc (.cells #[.int .i64 ct, .int .i64 ck, .bool cg, .string cv] 44)) := (Below.refl _ _).alloc (Nat.le_refl _) _
  have hx : Blk (w.alloc (.cells #[.int .i64 ct, .int .i64 ck, .bool cg, .string cv] 44)) w.heap.size 44 #[.int .i64 ct, .int .i64 ck, .bool cg, .string cv] := Blk.new _ _ _
  have hS : SpotAt (w.alloc (.cells #[.int .i64 ct, .int .i64 ck, .bool cg, .string cv] 44)) s t k o := Blk.below h hb hsl
  have HB := Lib.hid hb
  have HX := Lib.hid hx
  have HS := Lib.hid hS
  clear h hb hx hS
  unfold gval
  dsimp only
  by_cases h1 : ct = t
  · by_cases h2 : ck = k
    · subst h1 h2
      have b1 : (ct == ct) = true := by simp
      have b2 : (ck == ck) = true := by simp
      have b3 : (ct != ct) = false := by simp
      have b4 : (ck != ck) = false := by simp
      cases cg with
      | true =>
        have HV : Hid (valStep ct ck o ⟨ct, ck, true, cv⟩ = none) := by show _ = _; simp [valStep]
        go_enter Try.func34, Try.ntmps34
        go_upto_region 1 with fail
        generalize (w.alloc (.cells #[.int .i64 ct, .int .i64 ck, .bool true, .string cv] 44)) = W at HB HX HS ⊢
        have x0 : W.cell? ⟨w.heap.size, 0, none⟩ = some (.int .i64 ct) := HX.out.cell 0
        have x1 : W.cell? ⟨w.heap.size, 1, none⟩ = some (.int .i64 ck) := HX.out.cell 1
        have x2 : W.cell? ⟨w.heap.size, 2, none⟩ = some (.bool true) := HX.out.cell 2
        have x3 : W.cell? ⟨w.heap.size, 3, none⟩ = some (.string cv) := HX.out.cell 3
        have s0 : W.cell? ⟨s, 0, none⟩ = some (.int .i64 ct) := HS.out.cell 0
        have s1 : W.cell? ⟨s, 1, none⟩ = some (.int .i64 ck) := HS.out.cell 1
        have s2 : W.cell? ⟨s, 2, none⟩ = some (.string (o.getD ⟨#[]⟩)) := HS.out.cell 2
        have s3 : W.cell? ⟨s, 3, none⟩ = some (.bool o.isSome) := HS.out.cell 3
        have f2 := HS.out.frozen 2
        have f3 := HS.out.frozen 3
        have hsx : s ≠ w.heap.size := by omega
        have hxs : w.heap.size ≠ s := by omega
        go_quiet (fail)
        go_wp2
        go_end0
        exact ⟨rfl, by rw [HV.out]; exact ((((Blk.drewN HS.out nq).set_ 2 (.string cv)).set_ 3 (.bool true)).set_ 2 (.string ⟨#[]⟩)).set_ 3 (.bool false), (((((Turn.new (F := fun i => i = s) HB.out).drewN nq).setCell (p := ⟨s, 2, none⟩) (.inl rfl) _).setCell (p := ⟨s, 3, none⟩) (.inl rfl) _).setCell (p := ⟨s, 2, none⟩) (.inl rfl) _).setCell (p := ⟨s, 3, none⟩) (.inl rfl) _⟩
      | false =>
        have HV : Hid (valStep ct ck o ⟨ct, ck, false, cv⟩ = some cv) := by show _ = _; simp [valStep]
        go_enter Try.func34, Try.ntmps34
        go_upto_region 1 with fail
        generalize (w.alloc (.cells #[.int .i64 ct, .int .i64 ck, .bool false, .string cv] 44)) = W at HB HX HS ⊢
        have x0 : W.cell? ⟨w.heap.size, 0, none⟩ = some (.int .i64 ct) := HX.out.cell 0
        have x1 : W.cell? ⟨w.heap.size, 1, none⟩ = some (.int .i64 ck) := HX.out.cell 1
        have x2 : W.cell? ⟨w.heap.size, 2, none⟩ = some (.bool false) := HX.out.cell 2
        have x3 : W.cell? ⟨w.heap.size, 3, none⟩ = some (.string cv) := HX.out.cell 3
        have s0 : W.cell? ⟨s, 0, none⟩ = some (.int .i64 ct) := HS.out.cell 0
        have s1 : W.cell? ⟨s, 1, none⟩ = some (.int .i64 ck) := HS.out.cell 1
        have s2 : W.cell? ⟨s, 2, none⟩ = some (.string (o.getD ⟨#[]⟩)) := HS.out.cell 2
        have s3 : W.cell? ⟨s, 3, none⟩ = some (.bool o.isSome) := HS.out.cell 3
        have f2 := HS.out.frozen 2
        have f3 := HS.out.frozen 3
        have hsx : s ≠ w.heap.size := by omega
        have hxs : w.heap.size ≠ s := by omega
        go_quiet (fail)
        go_wp2
        go_end0
        exact ⟨rfl, by rw [HV.out]; exact ((Blk.drewN HS.out nq).set_ 2 (.string cv)).set_ 3 (.bool true), (((Turn.new (F := fun i => i = s) HB.out).drewN nq).setCell (p := ⟨s, 2, none⟩) (.inl rfl) _).setCell (p := ⟨s, 3, none⟩) (.inl rfl) _⟩
    · subst h1
      have HV : Hid (valStep ct k o ⟨ct, ck, cg, cv⟩ = o) := by show _ = _; simp [valStep, h2]
      have b1 : (ct == ct) = true := by simp
      have b3 : (ct != ct) = false := by simp
      have b2 : (ck == k) = false := by simpa using h2
      have b4 : (ck != k) = true := by simpa using h2
      go_enter Try.func34, Try.ntmps34
      go_upto_region 1 with fail
      generalize (w.alloc (.cells #[.int .i64 ct, .int .i64 ck, .bool cg, .string cv] 44)) = W at HB HX HS ⊢
      have x0 : W.cell? ⟨w.heap.size, 0, none⟩ = some (.int .i64 ct) := HX.out.cell 0
      have x1 : W.cell? ⟨w.heap.size, 1, none⟩ = some (.int .i64 ck) := HX.out.cell 1
      have x2 : W.cell? ⟨w.heap.size, 2, none⟩ = some (.bool cg) := HX.out.cell 2
      have x3 : W.cell? ⟨w.heap.size, 3, none⟩ = some (.string cv) := HX.out.cell 3
      have s0 : W.cell? ⟨s, 0, none⟩ = some (.int .i64 ct) := HS.out.cell 0
      have s1 : W.cell? ⟨s, 1, none⟩ = some (.int .i64 k) := HS.out.cell 1
      have s2 : W.cell? ⟨s, 2, none⟩ = some (.string (o.getD ⟨#[]⟩)) := HS.out.cell 2
      have s3 : W.cell? ⟨s, 3, none⟩ = some (.bool o.isSome) := HS.out.cell 3
      have f2 := HS.out.frozen 2
      have f3 := HS.out.frozen 3
      have hsx : s ≠ w.heap.size := by omega
      have hxs : w.heap.size ≠ s := by omega
      go_quiet (fail)
      go_wp2
      go_end0
      exact ⟨rfl, by rw [HV.out]; exact Blk.drewN HS.out nq, (Turn.new (F := fun i => i = s) HB.out).drewN nq⟩
  · have HV : Hid (valStep t k o ⟨ct, ck, cg, cv⟩ = o) := by show _ = _; simp [valStep, h1]
    have b1 : (ct == t) = false := by simpa using h1
    have b3 : (ct != t) = true := by simpa using h1
    go_enter Try.func34, Try.ntmps34
    go_upto_region 1 with fail
    generalize (w.alloc (.cells #[.int .i64 ct, .int .i64 ck, .bool cg, .string cv] 44)) = W at HB HX HS ⊢
    have x0 : W.cell? ⟨w.heap.size, 0, none⟩ = some (.int .i64 ct) := HX.out.cell 0
    have x1 : W.cell? ⟨w.heap.size, 1, none⟩ = some (.int .i64 ck) := HX.out.cell 1
    have x2 : W.cell? ⟨w.heap.size, 2, none⟩ = some (.bool cg) := HX.out.cell 2
    have x3 : W.cell? ⟨w.heap.size, 3, none⟩ = some (.string cv) := HX.out.cell 3
    have s0 : W.cell? ⟨s, 0, none⟩ = some (.int .i64 t) := HS.out.cell 0
    have s1 : W.cell? ⟨s, 1, none⟩ = some (.int .i64 k) := HS.out.cell 1
    have s2 : W.cell? ⟨s, 2, none⟩ = some (.string (o.getD ⟨#[]⟩)) := HS.out.cell 2
    have s3 : W.cell? ⟨s, 3, none⟩ = some (.bool o.isSome) := HS.out.cell 3
    have f2 := HS.out.frozen 2
    have f3 := HS.out.frozen 3
    have hsx : s ≠ w.heap.size := by omega
    have hxs : w.heap.size ≠ s := by omega
    go_quiet (fail)
    go_wp2
    go_end0
    exact ⟨rfl, by rw [HV.out]; exact Blk.drewN HS.out nq, (Turn.new (F := fun i => i = s) HB.out).drewN nq⟩
theorem text_eq (x v : ByteArray) : (x.toList == v.toList) = decide (some x = some v) := by
  by_cases h : x = v
  · subst h
    simp
  · rw [decide_eq_false (fun e => h (Option.some.inj e)), beq_eq_false_iff_ne]
    intro e
    refine h ?_
    rw [ByteArray.toList_eq, ByteArray.toList_eq] at e
    exact ByteArray.ext (Array.toList_inj.1 e)
/-- it is there, with this text? -/
theorem has_any (s : Nat) (t k : Int) (o : Option ByteArray) (v : ByteArray) (w : World) (h : SpotAt w s t k o) : Calls Try.prog 36 #[.pointer (some ⟨s, 0, none⟩), .string v] w fun e w' => e = .returned (.bool (decide (o = some v))) ∧ w = w' := by
  have s2 : w.cell? ⟨s, 2, none⟩ = some (.string (o.getD ⟨#[]⟩)) := h.cell 2
  have s3 : w.cell? ⟨s, 3, none⟩ = some (.bool o.isSome) := h.cell 3
  cases o with
  | none =>
    have s3' : w.cell? ⟨s, 3, none⟩ = some (.bool false) := s3
    clear s3
    go_enter Try.func36, Try.ntmps36
    go_wp2
    go_ret
    exact ⟨rfl, rfl⟩
  | some x =>
    have s3' : w.cell? ⟨s, 3, none⟩ = some (.bool true) := s3
    have s2' : w.cell? ⟨s, 2, none⟩ = some (.string x) := s2
    clear s2 s3
    go_enter Try.func36, Try.ntmps36
    go_wp2
    go_ret
    exact ⟨by rw [← text_eq]; rfl, rfl⟩
theorem spot_col (s M : Nat) (t k : Int) : Col (fun i => i = s) (fun cs w => SpotAt w s t k (value t k cs)) 34 (.pointer (some ⟨s, 0, none⟩)) M (fun _ => True) where
  keep := fun cs w w' h hk => (hk s h.lt rfl).trans h
  take := fun cs c w h _ _ => (stake_any s t k _ c w h).mono fun e w' hh => by
    obtain ⟨h1, h2, h3⟩ := hh
    exact ⟨h1, by rw [value_snoc]; exact h2, h3⟩
theorem tab_col (g s n M : Nat) (hn : n ≤ 8) (hM : M ≤ 1099511627774) : Col (Own g s n) (fun cs w => TabsAt w g s n cs) 27 (.slice (some ⟨g, 0, none⟩) n n) M (fun c => In64 c.key) where
  keep := fun cs w w' h hk => h.keep hk
  take := fun cs c w h hc hl => take_any g s n cs c w h hc hn (by omega)
end Go.Proofs.Ytlgdbpejefgeaaa.Fold
