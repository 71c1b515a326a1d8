/-
  Contracts of package fieldlist's reader of fields: Open, Number, UpTo, Yes, Text, Done: what is read is what the plain mathematics says.
-/
import Derived.Test.YtlkjmdkmcaaihaaTxnMath
import Derived.Test.YtlkjmdkmcaaihaaFieldDecode
namespace Go.Proofs.Ytlkjmdkmcaaihaa.Txn
set_option linter.unusedVariables false
set_option maxRecDepth 100000
open Go.RowKit Base FieldMath TxnMath
open Go.Proofs.Ytlkjmdkmcaaihaa.Field (fv fv_append fv_one fv_length fv_get fv_take Flds ef ret_bool empty_iff)
set_option linter.ambiguousOpen false

/-- the next field, if it is of that kind -/
def nxt (k : Int) : Rs → Fld × Rs
  | some (f :: r) => if f.kind = k then (f, some r) else (⟨0, 0, ⟨#[]⟩⟩, none)
  | _ => (⟨0, 0, ⟨#[]⟩⟩, none)
theorem nxt_none (k : Int) : nxt k none = (⟨0, 0, ⟨#[]⟩⟩, none) := rfl
theorem nxt_nil (k : Int) : nxt k (some []) = (⟨0, 0, ⟨#[]⟩⟩, none) := rfl
theorem nxt_no {k : Int} {f : Fld} {r : List Fld} (h : f.kind ≠ k) : nxt k (some (f :: r)) = (⟨0, 0, ⟨#[]⟩⟩, none) := by unfold nxt; exact if_neg h
theorem nxt_yes {k : Int} {f : Fld} {r : List Fld} (h : f.kind = k) : nxt k (some (f :: r)) = (f, some r) := by unfold nxt; exact if_pos h
theorem nxt_num (s : Rs) : rdN none s = ((nxt 1 s).1.n, (nxt 1 s).2) := by
  unfold rdN nxt
  match s with
  | none => rfl
  | some [] => rfl
  | some (f :: r) =>
    dsimp only
    by_cases h : f.kind = 1
    · rw [if_pos ⟨h, rfl⟩, if_pos h]
    · rw [if_neg (fun e => h e.1), if_neg h]
theorem nxt_txt (s : Rs) : rdT s = ((nxt 2 s).1.s, (nxt 2 s).2) := by
  unfold rdT nxt
  match s with
  | none => rfl
  | some [] => rfl
  | some (f :: r) =>
    dsimp only
    by_cases h : f.kind = 2
    · rw [if_pos h, if_pos h]
    · rw [if_neg h, if_neg h]

/-- the reader at block g has these fields before it, below block B, or one was wrong -/
def Rd (w : World) (B g : Nat) (s : Rs) : Prop := ∃ A n c l x, Blk w g 96 #[.slice A n c, .bool x] ∧ Flds w B A n c l ∧ B ≤ g ∧ s = if x = true then none else some l
theorem Rd.lt {w : World} {B g : Nat} {s : Rs} (h : Rd w B g s) : g < w.heap.size := by
  obtain ⟨A, n, c, l, x, h1, _⟩ := h
  exact h1.lt
theorem Rd.new {w w' : World} {B g : Nat} {s : Rs} (h : Rd w B g s) (hb : Below w.heap.size w w') : Rd w' B g s := by
  obtain ⟨A, n, c, l, x, h1, h2, h3, h4⟩ := h
  have := h1.lt
  exact ⟨A, n, c, l, x, h1.below hb h1.lt, h2.below (hb.mono (by omega)), h3, h4⟩
theorem Rd.alloc {w : World} {B g : Nat} {s : Rs} (h : Rd w B g s) (o : Obj) : Rd (w.alloc o) B g s := h.new ((Below.refl _ _).alloc (Nat.le_refl _) o)
theorem Rd.far {w : World} {B g : Nat} {s : Rs} (h : Rd w B g s) {p : Addr} (hp : g < p.block) (u : Value) : Rd (w.setCell p u) B g s := by
  obtain ⟨A, n, c, l, x, h1, h2, h3, h4⟩ := h
  exact ⟨A, n, c, l, x, h1.far (by omega) u, h2.setCell (by omega) u, h3, h4⟩
/-- what next answers -/
def Nexted (w : World) (B g : Nat) (q : Fld × Rs) (e : Ending) (w' : World) : Prop := e = .returned (.agg #[.int .i64 q.1.kind, .int .i64 q.1.n, .string q.1.s]) ∧ Rd w' B g q.2 ∧ w.grownBy w' (some g)

theorem nexted_no {w : World} {B g : Nat} {s : Rs} {k : Int} {A : Option Addr} {n c : Nat} {l : List Fld} {x : Bool} (hb : Blk w g 96 #[.slice A n c, .bool x]) (hr : Flds w B A n c l) (hB : B ≤ g) (hq : nxt k s = (⟨0, 0, ⟨#[]⟩⟩, none)) (o : Obj) :
    Nexted w B g (nxt k s) (.returned (.agg #[.int .i64 0, .int .i64 0, .string ⟨#[]⟩])) ((w.setCell ⟨g, 1, none⟩ (.bool true)).alloc o) := by
  rw [hq]
  have hlt := hb.lt
  exact ⟨rfl, Rd.alloc ⟨A, n, c, l, true, hb.set_ 1 _, hr.setCell (by exact hB) _, hB, rfl⟩ o, only_alloc (only_setCell (World.grownBy.refl _ _) (.inl rfl) _) _⟩
theorem nexted_yes {w : World} {B g : Nat} {k fn : Int} {fs : ByteArray} {b off n c : Nat} {l : List Fld} {A' : Option Addr} {n' c' : Nat} (hb : Blk w g 96 #[.slice (some ⟨b, off, none⟩) n c, .bool false]) (hr : Flds w B (some ⟨b, off, none⟩) n c l) (hB : B ≤ g) (hn : 0 < n)
    (hget : l[0]? = some ⟨k, fn, fs⟩) (hA : A' = if c = 1 then some ⟨b, off, none⟩ else some ⟨b, off + 3, none⟩) (hn' : n' = n - 1) (hc' : c' = c - 1) (o o' : Obj) :
    Nexted w B g (nxt k (some l)) (.returned (.agg #[.int .i64 k, .int .i64 fn, .string fs])) (((w.setCell ⟨g, 0, none⟩ (.slice A' n' c')).alloc o).alloc o') := by
  subst hA hn' hc'
  have hlt := hb.lt
  obtain ⟨f, r, rfl⟩ : ∃ f r, l = f :: r := by
    cases l with
    | nil => simp at hget
    | cons f r => exact ⟨f, r, rfl⟩
  simp only [List.getElem?_cons_zero, Option.some.injEq] at hget
  subst hget
  rw [nxt_yes (show (⟨k, fn, fs⟩ : Fld).kind = k from rfl)]
  have hcut : Flds w B (if c = 1 then some ⟨b, off, none⟩ else some ⟨b, off + 3, none⟩) (n - 1) (c - 1) r := by
    have h := Row.cut hr (k := 1) (by omega)
    rw [Option.map_some, add_none] at h
    exact h
  refine ⟨rfl, Rd.alloc (Rd.alloc ⟨_, _, _, r, false, hb.set_ 0 _, hcut.setCell (by exact hB) _, hB, rfl⟩ o) o', only_alloc (only_alloc (only_setCell (World.grownBy.refl _ _) (.inl rfl) _) _) _⟩

set_option maxHeartbeats 1600000 in
theorem next_any (B g : Nat) (s : Rs) (k : Int) (w : World) (h : Rd w B g s) :
    Calls Try.prog 77 #[.pointer (some ⟨g, 0, none⟩), .int .i64 k] w (Nexted w B g (nxt k s)) := by
  obtain ⟨A, n, c, l, x, hb, hr, hB, rfl⟩ := h
  have hlt := hb.lt
  have hle := hr.le
  have k0 : w.cell? ⟨g, 0, none⟩ = some (.slice A n c) := hb.cell 0
  have k1 : w.cell? ⟨g, 1, none⟩ = some (.bool x) := hb.cell 1
  have f0 := hb.frozen 0
  have f1 := hb.frozen 1
  have HL := Lib.hid hr.len
  have HB := Lib.hid hb
  have HR := Lib.hid hr
  clear hb hr
  cases x with
  | true =>
    go_enter Try.func77, Try.ntmps77
    go_wp2
    refine bodyPost_ret (v := .agg #[.int .i64 0, .int .i64 0, .string ⟨#[]⟩]) (by simp [results, Try.results77, go_sem]) rfl ?_
    exact nexted_no HB.out HR.out hB (nxt_none k) _
  | false =>
    by_cases hn : n = 0
    · subst hn
      go_enter Try.func77, Try.ntmps77
      go_wp2
      refine bodyPost_ret (v := .agg #[.int .i64 0, .int .i64 0, .string ⟨#[]⟩]) (by simp [results, Try.results77, go_sem]) rfl ?_
      exact nexted_no HB.out HR.out hB (by rw [List.eq_nil_of_length_eq_zero HL.out]; rfl) _
    · obtain ⟨b, off, f, rfl, hb, q0, q1, q2, hget, _⟩ := HR.out.at_ (k := 0) (by omega)
      rw [Nat.zero_mul, Nat.add_zero] at q0 q1 q2
      obtain ⟨fk, fn, fs⟩ := f
      dsimp only at q0 q1 q2
      have HG := Lib.hid hget
      clear hget
      have hn1 : ((n : Int) == 0) = false := by simp; omega
      have hn0 : 0 < n := by omega
      have hbw : b < w.heap.size := by omega
      by_cases hk : fk = k
      · subst hk
        by_cases hc : c = 1
        · subst hc
          go_enter Try.func77, Try.ntmps77
          go_wp2
          refine bodyPost_ret (v := .agg #[.int .i64 fk, .int .i64 fn, .string fs]) (by simp [results, Try.results77, go_sem]) rfl ?_
          exact nexted_yes HB.out HR.out hB hn0 HG.out (by rw [if_pos rfl]) (by omega) (by omega) _ _
        · go_enter Try.func77, Try.ntmps77
          go_wp2
          refine bodyPost_ret (v := .agg #[.int .i64 fk, .int .i64 fn, .string fs]) (by simp [results, Try.results77, go_sem]) rfl ?_
          exact nexted_yes HB.out HR.out hB hn0 HG.out (by rw [if_neg hc]) rfl rfl _ _
      · have hk1 : (fk != k) = true := by simp [hk]
        have hk2 : (fk == k) = false := by simp [hk]
        go_enter Try.func77, Try.ntmps77
        go_wp2
        refine bodyPost_ret (v := .agg #[.int .i64 0, .int .i64 0, .string ⟨#[]⟩]) (by simp [results, Try.results77, go_sem]) rfl ?_
        exact nexted_no HB.out HR.out hB (by
          have h := HG.out
          cases l with
          | nil => simp at h
          | cons f r =>
            simp only [List.getElem?_cons_zero, Option.some.injEq] at h
            subst h
            exact nxt_no hk) _
/-- a part of a field that a call handed back -/
theorem run_field1 (a b c : Value) (w : World) : (Instr.field 59 (.agg #[a, b, c]) 1).run Try.prog w = .ok b w := by kernel_rfl
theorem run_field2 (a b c : Value) (w : World) : (Instr.field 59 (.agg #[a, b, c]) 2).run Try.prog w = .ok c w := by kernel_rfl
/-- what the small readers answer -/
theorem cnumber2_any (B g : Nat) (s : Rs) (w : World) (h : Rd w B g s) :
    Calls Try.prog 63 #[.pointer (some ⟨g, 0, none⟩)] w fun e w' => e = .returned (.int .i64 (rdN none s).1) ∧ Rd w' B g (rdN none s).2 ∧ w.grownBy w' (some g) := by
  rw [nxt_num]
  have HR := Lib.hid h
  clear h
  go_enter Try.func63, Try.ntmps63
  go_wp2_with fail
  refine (next_any B g s 1 _ HR.out).mono ?_
  rintro e w1 ⟨rfl, hr1, hg1⟩
  have H1 := Lib.hid hr1
  have HG1 := Lib.hid hg1
  clear hr1 hg1
  generalize hq : nxt 1 s = q at H1 ⊢
  have HQ := Lib.hid hq
  clear hq
  have hfd := run_field1
  go_wp2
  go_ret
  rw [HQ.out]
  exact ⟨rfl, H1.out, HG1.out⟩
theorem ctext2_any (B g : Nat) (s : Rs) (w : World) (h : Rd w B g s) :
    Calls Try.prog 79 #[.pointer (some ⟨g, 0, none⟩)] w fun e w' => e = .returned (.string (rdT s).1) ∧ Rd w' B g (rdT s).2 ∧ w.grownBy w' (some g) := by
  rw [nxt_txt]
  have HR := Lib.hid h
  clear h
  go_enter Try.func79, Try.ntmps79
  go_wp2_with fail
  refine (next_any B g s 2 _ HR.out).mono ?_
  rintro e w1 ⟨rfl, hr1, hg1⟩
  have H1 := Lib.hid hr1
  have HG1 := Lib.hid hg1
  clear hr1 hg1
  generalize hq : nxt 2 s = q at H1 ⊢
  have HQ := Lib.hid hq
  clear hq
  have hfd := run_field2
  go_wp2
  go_ret
  rw [HQ.out]
  exact ⟨rfl, H1.out, HG1.out⟩
theorem upto_fits {m : Int} {s : Rs} (hm : 0 ≤ m) (h : fits (some m) (rdN none s).1 = true) : rdN (some m) s = rdN none s := by
  unfold rdN at h ⊢
  match s with
  | none => rfl
  | some [] => rfl
  | some (f :: r) =>
    dsimp only at h ⊢
    by_cases hk : f.kind = 1
    · rw [if_pos ⟨hk, rfl⟩] at h
      rw [if_pos ⟨hk, h⟩, if_pos ⟨hk, rfl⟩]
    · rw [if_neg (fun e => hk e.1), if_neg (fun e => hk e.1)]
theorem upto_not {m : Int} {s : Rs} (hm : 0 ≤ m) (h : fits (some m) (rdN none s).1 = false) : rdN (some m) s = (0, none) := by
  unfold rdN at h ⊢
  match s with
  | none => rfl
  | some [] => rfl
  | some (f :: r) =>
    dsimp only at h ⊢
    by_cases hk : f.kind = 1
    · rw [if_pos ⟨hk, rfl⟩] at h
      rw [if_neg (fun e => by rw [h] at e; cases e.2)]
    · rw [if_neg (fun e => hk e.1)]
theorem Rd.wrong {w : World} {B g : Nat} {s : Rs} (h : Rd w B g s) : Rd (w.setCell ⟨g, 1, none⟩ (.bool true)) B g none := by
  obtain ⟨A, n, c, l, x, h1, h2, h3, h4⟩ := h
  exact ⟨A, n, c, l, true, h1.set_ 1 _, h2.setCell (by exact h3) _, h3, rfl⟩
set_option maxHeartbeats 800000 in
theorem upTo_any (B g : Nat) (s : Rs) (m : Nat) (w : World) (h : Rd w B g s) (hm : m ≤ 1099511627776) :
    Calls Try.prog 64 #[.pointer (some ⟨g, 0, none⟩), .int .i64 m] w fun e w' => e = .returned (.int .i64 (rdN (some m) s).1) ∧ Rd w' B g (rdN (some m) s).2 ∧ w.grownBy w' (some g) := by
  have HR := Lib.hid h
  clear h
  go_enter Try.func64, Try.ntmps64
  go_wp2_with fail
  refine (cnumber2_any B g s _ HR.out).mono ?_
  rintro e w1 ⟨rfl, hr1, hg1⟩
  have H1 := Lib.hid hr1
  have HG1 := Lib.hid hg1
  have HF := Lib.hid (fun h => upto_fits (m := (m : Int)) (s := s) (by omega) h)
  have HN := Lib.hid (fun h => upto_not (m := (m : Int)) (s := s) (by omega) h)
  obtain ⟨A, n, c, l, x, hb, _, _, _⟩ := hr1
  have k1 : w1.cell? ⟨g, 1, none⟩ = some (.bool x) := hb.cell 1
  have f1 := hb.frozen 1
  clear hg1 hb
  generalize hq : rdN none s = q at H1 HF HN ⊢
  clear hq
  by_cases h0 : q.1 < 0
  · have HE := Lib.hid (HN.out (by show (decide (0 ≤ q.1) && decide (q.1 ≤ (m : Int))) = false; rw [decide_eq_false (by omega), Bool.false_and]))
    go_wp2
    go_ret
    rw [HE.out]
    exact ⟨rfl, H1.out.wrong, only_setCell HG1.out (.inl rfl) _⟩
  · by_cases h1 : (m : Int) < q.1
    · have HE := Lib.hid (HN.out (by show (decide (0 ≤ q.1) && decide (q.1 ≤ (m : Int))) = false; rw [decide_eq_false (p := q.1 ≤ (m : Int)) (by omega), Bool.and_false]))
      go_wp2
      go_ret
      rw [HE.out]
      exact ⟨rfl, H1.out.wrong, only_setCell HG1.out (.inl rfl) _⟩
    · have HE := Lib.hid (HF.out (by show (decide (0 ≤ q.1) && decide (q.1 ≤ (m : Int))) = true; rw [decide_eq_true (by omega), decide_eq_true (by omega)]; rfl))
      go_wp2
      go_ret
      rw [HE.out]
      exact ⟨rfl, H1.out, HG1.out⟩
theorem yes2_any (B g : Nat) (s : Rs) (w : World) (h : Rd w B g s) :
    Calls Try.prog 78 #[.pointer (some ⟨g, 0, none⟩)] w fun e w' => e = .returned (.bool ((rdN (some 1) s).1 == 1)) ∧ Rd w' B g (rdN (some 1) s).2 ∧ w.grownBy w' (some g) := by
  have HR := Lib.hid h
  clear h
  go_enter Try.func78, Try.ntmps78
  go_wp2_with fail
  refine (upTo_any B g s 1 _ HR.out (by omega)).mono ?_
  rintro e w1 ⟨rfl, hr1, hg1⟩
  have H1 := Lib.hid hr1
  have HG1 := Lib.hid hg1
  clear hr1 hg1
  rw [show ((1 : Nat) : Int) = 1 from rfl] at H1 ⊢
  generalize hq : rdN (some 1) s = q at H1 ⊢
  have HQ := Lib.hid hq
  clear hq
  go_wp2
  go_ret
  rw [HQ.out]
  exact ⟨rfl, H1.out, HG1.out⟩
def isEnd : Rs → Bool
  | some [] => true
  | _ => false
theorem done_any (B g : Nat) (s : Rs) (w : World) (h : Rd w B g s) :
    Calls Try.prog 37 #[.pointer (some ⟨g, 0, none⟩)] w fun e w' => e = .returned (.bool (isEnd s)) ∧ w = w' := by
  obtain ⟨A, n, c, l, x, hb, hr, hB, rfl⟩ := h
  have k0 : w.cell? ⟨g, 0, none⟩ = some (.slice A n c) := hb.cell 0
  have k1 : w.cell? ⟨g, 1, none⟩ = some (.bool x) := hb.cell 1
  have HL := Lib.hid hr.len
  clear hb hr
  cases x with
  | true =>
    go_enter Try.func37, Try.ntmps37
    go_wp2
    go_ret
    exact ⟨rfl, rfl⟩
  | false =>
    cases l with
    | nil =>
      obtain rfl : n = 0 := by have := HL.out; simpa using this.symm
      go_enter Try.func37, Try.ntmps37
      go_wp2
      go_ret
      exact ⟨rfl, rfl⟩
    | cons f r =>
      have hn : ((n : Int) == 0) = false := by have := HL.out; simp at this; simp; omega
      go_enter Try.func37, Try.ntmps37
      go_wp2
      go_ret
      exact ⟨rfl, rfl⟩
/-- what Open answers: a reader in a new block, or none and why -/
def Opened (w : World) (q : Except Nat (List Fld)) (e : Ending) (w' : World) : Prop :=
  match q with
  | .ok fs => ∃ g, e = .returned (.tuple #[.pointer (some ⟨g, 0, none⟩), .int .i64 0]) ∧ w.heap.size ≤ g ∧ Rd w' g g (some fs) ∧ Below w.heap.size w w'
  | .error k => e = .returned (.tuple #[.pointer none, .int .i64 k]) ∧ Below w.heap.size w w'
theorem takeN_err {e : Nat} : ∀ {n : Nat} {b : List UInt8}, takeN n b = .error e → e = 2 ∨ e = 3
  | 0, b, h => by rw [takeN] at h; cases h
  | n + 1, b, h => by
    rw [takeN] at h
    split at h
    · rename_i h1
      injection h with h
      subst h
      exact takeF_err h1
    · split at h
      · rename_i h1
        injection h with h
        subst h
        exact takeN_err h1
      · cases h
theorem dec_why {l : List UInt8} {k : Nat} (h : dec l = .error k) : k = 2 ∨ k = 3 := by
  unfold dec at h
  split at h
  · injection h with h; omega
  · split at h
    · injection h with h; omega
    · split at h
      · rename_i h1
        injection h with h
        subst h
        exact takeN_err h1
      · split at h
        · injection h with h; omega
        · cases h
set_option maxHeartbeats 800000 in
theorem open_any (B : Nat) (A : Option Addr) (n c : Nat) (l : List UInt8) (w : World) (hr : Bytes w B A n c l) (hB : B ≤ w.heap.size) :
    Calls Try.prog 35 #[.slice A n c] w (Opened w (dec l)) := by
  have HR := Lib.hid hr
  clear hr
  go_enter Try.func35, Try.ntmps35
  go_wp2_with fail
  refine (Field.decode_any B A n c l _ HR.out hB).mono ?_
  rintro e w1 ⟨A1, n1, c1, rfl, hf1, hb1⟩
  have HB1 := Lib.hid hb1
  cases hd : dec l with
  | error k =>
    have hk0 : k ≠ 0 := by have := dec_why hd; omega
    have hk1 : ((k : Int) != 0) = true := by simp; omega
    have HDL := Lib.hid hd
    clear hf1 hb1 hd hk0
    rw [show ((err (Except.error k : Except Nat (List Fld)) : Nat) : Int) = (k : Int) from rfl]
    go_wp2
    go_ret2
    unfold Opened
    rw [HDL.out]
    exact ⟨rfl, HB1.out⟩
  | ok fs =>
    rw [hd] at hf1
    have HF2 : Hid (Flds w1 w1.heap.size A1 n1 c1 fs) := hf1
    have HDL := Lib.hid hd
    clear hf1 hb1 hd
    rw [show ((err (Except.ok fs : Except Nat (List Fld)) : Nat) : Int) = 0 from rfl]
    go_wp2
    go_ret2
    unfold Opened
    rw [HDL.out]
    exact ⟨w1.heap.size, rfl, HB1.out.size, ⟨A1, n1, c1, fs, false, Blk.new _ _ _, HF2.out.alloc (Nat.le_refl _) _, Nat.le_refl _, rfl⟩, HB1.out.alloc HB1.out.size _⟩

/-- a block of the call's own, kept where only block g and what is new turns -/
theorem Blk.kept {w w1 : World} {b g : Nat} {T : TypeId} {cs : Array Value} (h : Blk w b T cs) (hg : w.grownBy w1 (some g)) (hne : b ≠ g) : Blk w1 b T cs := h.grown hg (fun e => hne (by injection e))
/-- a method of a struct that embeds the reader, on its way: the reader; what is made, at block w.heap.size + 2; the result's block ahead of it; the receiver's box ahead of that; only the reader's block and what is new has turned -/
def St (R T : TypeId) (z : Array Value) (w : World) (B g : Nat) (s : Rs) (cs : Array Value) (wr : World) : Prop :=
  Rd wr B g s ∧ Blk wr (w.heap.size + 2) T cs ∧ Blk wr (w.heap.size + 1) T z ∧ w.grownBy wr (some g) ∧ Blk wr w.heap.size R #[.pointer (some ⟨g, 0, none⟩)]
section
variable {R T : TypeId} {z : Array Value} {w wr w1 : World} {B g : Nat} {s s' : Rs} {cs : Array Value}
theorem St.start (h : Rd w B g s) : St R T z w B g s z (((w.alloc (.cells #[.pointer (some ⟨g, 0, none⟩)] R)).alloc (.cells z T)).alloc (.cells z T)) := by
  refine ⟨((h.alloc _).alloc _).alloc _, ?_, ?_, only_alloc (only_alloc (only_alloc (World.grownBy.refl w (some g)) _) _) _, ((Blk.new w _ _).alloc _).alloc _⟩
  · have := Blk.new ((w.alloc (.cells #[.pointer (some ⟨g, 0, none⟩)] R)).alloc (.cells z T)) T z; simpa using this
  · have := Blk.new (w.alloc (.cells #[.pointer (some ⟨g, 0, none⟩)] R)) T z
    have h2 := this.alloc (.cells z T)
    simpa using h2
theorem St.call (h : St R T z w B g s cs wr) (hlt : g < w.heap.size) (hr : Rd w1 B g s') (hg : wr.grownBy w1 (some g)) : St R T z w B g s' cs w1 :=
  ⟨hr, Blk.kept h.2.1 hg (by omega), Blk.kept h.2.2.1 hg (by omega), only_trans h.2.2.2.1 hg (.inl rfl), Blk.kept h.2.2.2.2 hg (by omega)⟩
theorem St.store (h : St R T z w B g s cs wr) (hlt : g < w.heap.size) (i : Nat) (v : Value) : St R T z w B g s (cs.setIfInBounds i v) (wr.setCell ⟨w.heap.size + 2, i, none⟩ v) :=
  ⟨h.1.far (by exact Nat.lt_succ_of_lt (Nat.lt_succ_of_lt hlt)) v, h.2.1.set_ i v, h.2.2.1.far (by simp) v, only_setCell h.2.2.2.1 (.inr (by simp)) v, h.2.2.2.2.far (by simp) v⟩
theorem St.below (h : St R T z w B g s cs wr) (hlt : g < w.heap.size) (hb : Below (w.heap.size + 3) wr w1) : St R T z w B g s cs w1 := by
  obtain ⟨⟨A, n, c, l, x, h1, h2, h3, h4⟩, hx, hy, ho, hp⟩ := h
  exact ⟨⟨A, n, c, l, x, h1.below hb (by omega), h2.below (hb.mono (by omega)), h3, h4⟩, hx.below hb (by omega), hy.below hb (by omega),
    ⟨hb.os.trans ho.os, hb.tape.trans ho.tape, hb.output.trans ho.output, Nat.le_trans ho.size hb.size, fun i hi hne => (hb.block i (by omega)).trans (ho.block i hi hne)⟩, hp.below hb (by omega)⟩
theorem St.alloc (h : St R T z w B g s cs wr) (o : Obj) : St R T z w B g s cs (wr.alloc o) := ⟨h.1.alloc o, h.2.1.alloc o, h.2.2.1.alloc o, only_alloc h.2.2.2.1 o, h.2.2.2.2.alloc o⟩
theorem St.recv (h : St R T z w B g s cs wr) : wr.cell? ⟨w.heap.size, 0, none⟩ = some (.pointer (some ⟨g, 0, none⟩)) := h.2.2.2.2.cell 0
end
end Go.Proofs.Ytlkjmdkmcaaihaa.Txn
