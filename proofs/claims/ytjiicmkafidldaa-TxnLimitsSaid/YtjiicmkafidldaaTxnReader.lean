/-
  Contracts of package txn's reader of fields: next, number, upTo, text, change: what is read is what the plain mathematics says.
-/
import Derived.Test.YtjiicmkafidldaaTxnMay
import Derived.Test.YtjiicmkafidldaaFieldDecode
namespace Go.Proofs.Ytjiicmkafidldaa.Txn
set_option linter.unusedVariables false
set_option maxRecDepth 100000
open Go.RowKit Base FieldMath TxnMath
open Go.Proofs.Ytjiicmkafidldaa.Field (fv fv_append fv_one fv_length fv_get fv_take Flds ef ret_bool empty_iff)
set_option linter.ambiguousOpen false

/-- the next field, if it is of that kind -/
def nxt (k : Int) : Rs → Fld × Rs
  | some (f :: r) => if f.kind = k then (f, some r) else (⟨0, 0, ⟨#[]⟩⟩, none)
  | _ => (⟨0, 0, ⟨#[]⟩⟩, none)
theorem nxt_none (k : Int) : nxt k none = (⟨0, 0, ⟨#[]⟩⟩, none) := rfl
theorem nxt_nil (k : Int) : nxt k (some []) = (⟨0, 0, ⟨#[]⟩⟩, none) := rfl
theorem nxt_no {k : Int} {f : Fld} {r : List Fld} (h : f.kind ≠ k) : nxt k (some (f :: r)) = (⟨0, 0, ⟨#[]⟩⟩, none) := by unfold nxt; exact if_neg h
theorem nxt_yes {k : Int} {f : Fld} {r : List Fld} (h : f.kind = k) : nxt k (some (f :: r)) = (f, some r) := by unfold nxt; exact if_pos h
theorem nxt_num (s : Rs) : rdN none s = ((nxt 1 s).1.n, (nxt 1 s).2) := by
  unfold rdN nxt
  match s with
  | none => rfl
  | some [] => rfl
  | some (f :: r) =>
    dsimp only
    by_cases h : f.kind = 1
    · rw [if_pos ⟨h, rfl⟩, if_pos h]
    · rw [if_neg (fun e => h e.1), if_neg h]
theorem nxt_txt (s : Rs) : rdT s = ((nxt 2 s).1.s, (nxt 2 s).2) := by
  unfold rdT nxt
  match s with
  | none => rfl
  | some [] => rfl
  | some (f :: r) =>
    dsimp only
    by_cases h : f.kind = 2
    · rw [if_pos h, if_pos h]
    · rw [if_neg h, if_neg h]

/-- the reader at block g has these fields before it, below block B, or one was wrong -/
def Rd (w : World) (B g : Nat) (s : Rs) : Prop := ∃ A n c l x, Blk w g 89 #[.slice A n c, .bool x] ∧ Flds w B A n c l ∧ B ≤ g ∧ s = if x = true then none else some l
theorem Rd.lt {w : World} {B g : Nat} {s : Rs} (h : Rd w B g s) : g < w.heap.size := by
  obtain ⟨A, n, c, l, x, h1, _⟩ := h
  exact h1.lt
theorem Rd.new {w w' : World} {B g : Nat} {s : Rs} (h : Rd w B g s) (hb : Below w.heap.size w w') : Rd w' B g s := by
  obtain ⟨A, n, c, l, x, h1, h2, h3, h4⟩ := h
  have := h1.lt
  exact ⟨A, n, c, l, x, h1.below hb h1.lt, h2.below (hb.mono (by omega)), h3, h4⟩
theorem Rd.alloc {w : World} {B g : Nat} {s : Rs} (h : Rd w B g s) (o : Obj) : Rd (w.alloc o) B g s := h.new ((Below.refl _ _).alloc (Nat.le_refl _) o)
theorem Rd.far {w : World} {B g : Nat} {s : Rs} (h : Rd w B g s) {p : Addr} (hp : g < p.block) (u : Value) : Rd (w.setCell p u) B g s := by
  obtain ⟨A, n, c, l, x, h1, h2, h3, h4⟩ := h
  exact ⟨A, n, c, l, x, h1.far (by omega) u, h2.setCell (by omega) u, h3, h4⟩
/-- what next answers -/
def Nexted (w : World) (B g : Nat) (q : Fld × Rs) (e : Ending) (w' : World) : Prop := e = .returned (.agg #[.int .i64 q.1.kind, .int .i64 q.1.n, .string q.1.s]) ∧ Rd w' B g q.2 ∧ w.grownBy w' (some g)

theorem nexted_no {w : World} {B g : Nat} {s : Rs} {k : Int} {A : Option Addr} {n c : Nat} {l : List Fld} {x : Bool} (hb : Blk w g 89 #[.slice A n c, .bool x]) (hr : Flds w B A n c l) (hB : B ≤ g) (hq : nxt k s = (⟨0, 0, ⟨#[]⟩⟩, none)) (o : Obj) :
    Nexted w B g (nxt k s) (.returned (.agg #[.int .i64 0, .int .i64 0, .string ⟨#[]⟩])) ((w.setCell ⟨g, 1, none⟩ (.bool true)).alloc o) := by
  rw [hq]
  have hlt := hb.lt
  exact ⟨rfl, Rd.alloc ⟨A, n, c, l, true, hb.set_ 1 _, hr.setCell (by exact hB) _, hB, rfl⟩ o, only_alloc (only_setCell (World.grownBy.refl _ _) (.inl rfl) _) _⟩
theorem nexted_yes {w : World} {B g : Nat} {k fn : Int} {fs : ByteArray} {b off n c : Nat} {l : List Fld} {A' : Option Addr} {n' c' : Nat} (hb : Blk w g 89 #[.slice (some ⟨b, off, none⟩) n c, .bool false]) (hr : Flds w B (some ⟨b, off, none⟩) n c l) (hB : B ≤ g) (hn : 0 < n)
    (hget : l[0]? = some ⟨k, fn, fs⟩) (hA : A' = if c = 1 then some ⟨b, off, none⟩ else some ⟨b, off + 3, none⟩) (hn' : n' = n - 1) (hc' : c' = c - 1) (o o' : Obj) :
    Nexted w B g (nxt k (some l)) (.returned (.agg #[.int .i64 k, .int .i64 fn, .string fs])) (((w.setCell ⟨g, 0, none⟩ (.slice A' n' c')).alloc o).alloc o') := by
  subst hA hn' hc'
  have hlt := hb.lt
  obtain ⟨f, r, rfl⟩ : ∃ f r, l = f :: r := by
    cases l with
    | nil => simp at hget
    | cons f r => exact ⟨f, r, rfl⟩
  simp only [List.getElem?_cons_zero, Option.some.injEq] at hget
  subst hget
  rw [nxt_yes (show (⟨k, fn, fs⟩ : Fld).kind = k from rfl)]
  have hcut : Flds w B (if c = 1 then some ⟨b, off, none⟩ else some ⟨b, off + 3, none⟩) (n - 1) (c - 1) r := by
    have h := Row.cut hr (k := 1) (by omega)
    rw [Option.map_some, add_none] at h
    exact h
  refine ⟨rfl, Rd.alloc (Rd.alloc ⟨_, _, _, r, false, hb.set_ 0 _, hcut.setCell (by exact hB) _, hB, rfl⟩ o) o', only_alloc (only_alloc (only_setCell (World.grownBy.refl _ _) (.inl rfl) _) _) _⟩

set_option maxHeartbeats 1600000 in
theorem next_any (B g : Nat) (s : Rs) (k : Int) (w : World) (h : Rd w B g s) :
    Calls Try.prog 105 #[.pointer (some ⟨g, 0, none⟩), .int .i64 k] w (Nexted w B g (nxt k s)) := by
  obtain ⟨A, n, c, l, x, hb, hr, hB, rfl⟩ := h
  have hlt := hb.lt
  have hle := hr.le
  have k0 : w.cell? ⟨g, 0, none⟩ = some (.slice A n c) := hb.cell 0
  have k1 : w.cell? ⟨g, 1, none⟩ = some (.bool x) := hb.cell 1
  have f0 := hb.frozen 0
  have f1 := hb.frozen 1
  have HL := Lib.hid hr.len
  have HB := Lib.hid hb
  have HR := Lib.hid hr
  clear hb hr
  cases x with
  | true =>
    go_enter Try.func105, Try.ntmps105
    go_wp2
    refine bodyPost_ret (v := .agg #[.int .i64 0, .int .i64 0, .string ⟨#[]⟩]) (by simp [results, Try.results105, go_sem]) rfl ?_
    exact nexted_no HB.out HR.out hB (nxt_none k) _
  | false =>
    by_cases hn : n = 0
    · subst hn
      go_enter Try.func105, Try.ntmps105
      go_wp2
      refine bodyPost_ret (v := .agg #[.int .i64 0, .int .i64 0, .string ⟨#[]⟩]) (by simp [results, Try.results105, go_sem]) rfl ?_
      exact nexted_no HB.out HR.out hB (by rw [List.eq_nil_of_length_eq_zero HL.out]; rfl) _
    · obtain ⟨b, off, f, rfl, hb, q0, q1, q2, hget, _⟩ := HR.out.at_ (k := 0) (by omega)
      rw [Nat.zero_mul, Nat.add_zero] at q0 q1 q2
      obtain ⟨fk, fn, fs⟩ := f
      dsimp only at q0 q1 q2
      have HG := Lib.hid hget
      clear hget
      have hn1 : ((n : Int) == 0) = false := by simp; omega
      have hn0 : 0 < n := by omega
      have hbw : b < w.heap.size := by omega
      by_cases hk : fk = k
      · subst hk
        by_cases hc : c = 1
        · subst hc
          go_enter Try.func105, Try.ntmps105
          go_wp2
          refine bodyPost_ret (v := .agg #[.int .i64 fk, .int .i64 fn, .string fs]) (by simp [results, Try.results105, go_sem]) rfl ?_
          exact nexted_yes HB.out HR.out hB hn0 HG.out (by rw [if_pos rfl]) (by omega) (by omega) _ _
        · go_enter Try.func105, Try.ntmps105
          go_wp2
          refine bodyPost_ret (v := .agg #[.int .i64 fk, .int .i64 fn, .string fs]) (by simp [results, Try.results105, go_sem]) rfl ?_
          exact nexted_yes HB.out HR.out hB hn0 HG.out (by rw [if_neg hc]) rfl rfl _ _
      · have hk1 : (fk != k) = true := by simp [hk]
        have hk2 : (fk == k) = false := by simp [hk]
        go_enter Try.func105, Try.ntmps105
        go_wp2
        refine bodyPost_ret (v := .agg #[.int .i64 0, .int .i64 0, .string ⟨#[]⟩]) (by simp [results, Try.results105, go_sem]) rfl ?_
        exact nexted_no HB.out HR.out hB (by
          have h := HG.out
          cases l with
          | nil => simp at h
          | cons f r =>
            simp only [List.getElem?_cons_zero, Option.some.injEq] at h
            subst h
            exact nxt_no hk) _
/-- a part of a field that a call handed back -/
theorem run_field1 (a b c : Value) (w : World) : (Instr.field 77 (.agg #[a, b, c]) 1).run Try.prog w = .ok b w := by kernel_rfl
theorem run_field2 (a b c : Value) (w : World) : (Instr.field 77 (.agg #[a, b, c]) 2).run Try.prog w = .ok c w := by kernel_rfl
/-- what the small readers answer -/
theorem cnumber2_any (B g : Nat) (s : Rs) (w : World) (h : Rd w B g s) :
    Calls Try.prog 85 #[.pointer (some ⟨g, 0, none⟩)] w fun e w' => e = .returned (.int .i64 (rdN none s).1) ∧ Rd w' B g (rdN none s).2 ∧ w.grownBy w' (some g) := by
  rw [nxt_num]
  have HR := Lib.hid h
  clear h
  go_enter Try.func85, Try.ntmps85
  go_wp2_with fail
  refine (next_any B g s 1 _ HR.out).mono ?_
  rintro e w1 ⟨rfl, hr1, hg1⟩
  have H1 := Lib.hid hr1
  have HG1 := Lib.hid hg1
  clear hr1 hg1
  generalize hq : nxt 1 s = q at H1 ⊢
  have HQ := Lib.hid hq
  clear hq
  have hfd := run_field1
  go_wp2
  go_ret
  rw [HQ.out]
  exact ⟨rfl, H1.out, HG1.out⟩
theorem ctext2_any (B g : Nat) (s : Rs) (w : World) (h : Rd w B g s) :
    Calls Try.prog 88 #[.pointer (some ⟨g, 0, none⟩)] w fun e w' => e = .returned (.string (rdT s).1) ∧ Rd w' B g (rdT s).2 ∧ w.grownBy w' (some g) := by
  rw [nxt_txt]
  have HR := Lib.hid h
  clear h
  go_enter Try.func88, Try.ntmps88
  go_wp2_with fail
  refine (next_any B g s 2 _ HR.out).mono ?_
  rintro e w1 ⟨rfl, hr1, hg1⟩
  have H1 := Lib.hid hr1
  have HG1 := Lib.hid hg1
  clear hr1 hg1
  generalize hq : nxt 2 s = q at H1 ⊢
  have HQ := Lib.hid hq
  clear hq
  have hfd := run_field2
  go_wp2
  go_ret
  rw [HQ.out]
  exact ⟨rfl, H1.out, HG1.out⟩
theorem upto_fits {m : Int} {s : Rs} (hm : 0 ≤ m) (h : fits (some m) (rdN none s).1 = true) : rdN (some m) s = rdN none s := by
  unfold rdN at h ⊢
  match s with
  | none => rfl
  | some [] => rfl
  | some (f :: r) =>
    dsimp only at h ⊢
    by_cases hk : f.kind = 1
    · rw [if_pos ⟨hk, rfl⟩] at h
      rw [if_pos ⟨hk, h⟩, if_pos ⟨hk, rfl⟩]
    · rw [if_neg (fun e => hk e.1), if_neg (fun e => hk e.1)]
theorem upto_not {m : Int} {s : Rs} (hm : 0 ≤ m) (h : fits (some m) (rdN none s).1 = false) : rdN (some m) s = (0, none) := by
  unfold rdN at h ⊢
  match s with
  | none => rfl
  | some [] => rfl
  | some (f :: r) =>
    dsimp only at h ⊢
    by_cases hk : f.kind = 1
    · rw [if_pos ⟨hk, rfl⟩] at h
      rw [if_neg (fun e => by rw [h] at e; cases e.2)]
    · rw [if_neg (fun e => hk e.1)]
theorem Rd.wrong {w : World} {B g : Nat} {s : Rs} (h : Rd w B g s) : Rd (w.setCell ⟨g, 1, none⟩ (.bool true)) B g none := by
  obtain ⟨A, n, c, l, x, h1, h2, h3, h4⟩ := h
  exact ⟨A, n, c, l, true, h1.set_ 1 _, h2.setCell (by exact h3) _, h3, rfl⟩
set_option maxHeartbeats 800000 in
theorem upTo_any (B g : Nat) (s : Rs) (m : Nat) (w : World) (h : Rd w B g s) (hm : m ≤ 1099511627776) :
    Calls Try.prog 86 #[.pointer (some ⟨g, 0, none⟩), .int .i64 m] w fun e w' => e = .returned (.int .i64 (rdN (some m) s).1) ∧ Rd w' B g (rdN (some m) s).2 ∧ w.grownBy w' (some g) := by
  have HR := Lib.hid h
  clear h
  go_enter Try.func86, Try.ntmps86
  go_wp2_with fail
  refine (cnumber2_any B g s _ HR.out).mono ?_
  rintro e w1 ⟨rfl, hr1, hg1⟩
  have H1 := Lib.hid hr1
  have HG1 := Lib.hid hg1
  have HF := Lib.hid (fun h => upto_fits (m := (m : Int)) (s := s) (by omega) h)
  have HN := Lib.hid (fun h => upto_not (m := (m : Int)) (s := s) (by omega) h)
  obtain ⟨A, n, c, l, x, hb, _, _, _⟩ := hr1
  have k1 : w1.cell? ⟨g, 1, none⟩ = some (.bool x) := hb.cell 1
  have f1 := hb.frozen 1
  clear hg1 hb
  generalize hq : rdN none s = q at H1 HF HN ⊢
  clear hq
  by_cases h0 : q.1 < 0
  · have HE := Lib.hid (HN.out (by show (decide (0 ≤ q.1) && decide (q.1 ≤ (m : Int))) = false; rw [decide_eq_false (by omega), Bool.false_and]))
    go_wp2
    go_ret
    rw [HE.out]
    exact ⟨rfl, H1.out.wrong, only_setCell HG1.out (.inl rfl) _⟩
  · by_cases h1 : (m : Int) < q.1
    · have HE := Lib.hid (HN.out (by show (decide (0 ≤ q.1) && decide (q.1 ≤ (m : Int))) = false; rw [decide_eq_false (p := q.1 ≤ (m : Int)) (by omega), Bool.and_false]))
      go_wp2
      go_ret
      rw [HE.out]
      exact ⟨rfl, H1.out.wrong, only_setCell HG1.out (.inl rfl) _⟩
    · have HE := Lib.hid (HF.out (by show (decide (0 ≤ q.1) && decide (q.1 ≤ (m : Int))) = true; rw [decide_eq_true (by omega), decide_eq_true (by omega)]; rfl))
      go_wp2
      go_ret
      rw [HE.out]
      exact ⟨rfl, H1.out, HG1.out⟩
end Go.Proofs.Ytjiicmkafidldaa.Txn
