/-
  The walk of GuardOlder. No condition.
-/
import Derived.Test.YtlbgpfiiiggofaaGdAwake
import Derived.Test.YtlbgpfiiiggofaaGdOp
import Derived.Test.YtlbgpfiiiggofaaGdTwo
import Derived.Test.YtlbgpfiiiggofaaCellHelp
import Derived.Test.YtlbgpfiiiggofaaOpOpen
import Derived.Deep.CutBlock
namespace Go.Proofs.Ytlbgpfiiiggofaa.Gd
set_option linter.unusedVariables false
set_option linter.unusedSimpArgs false
set_option maxRecDepth 100000
open Go.RowKit Base GuardMath Foot
open Go.Proofs.Ytlbgpfiiiggofaa.Field (modZ bigZ modZ_lt bigZ_lt mod_any playbig_any)
set_option linter.ambiguousOpen false

/-! ### the ops in their order, and in another -/
def mkO (k : Nat) (f : Gp) : Gp := ⟨(k : Int) + 1, 0, bigZ f.key 4, f.gone, f.val⟩
def ol (l : List Gp) : List Gp := l.foldl (fun r f => r ++ [mkO r.length f]) []
theorem ol_len (l : List Gp) : (ol l).length = l.length := by
  induction l using snoc_ind with
  | nil => rfl
  | append_singleton l f ih =>
    unfold ol at ih ⊢
    rw [List.foldl_append, List.length_append, ← ih]
    show (_ ++ [_]).length = _
    rw [List.length_append]
    rfl
theorem ol_snoc (l : List Gp) (f : Gp) : ol (l ++ [f]) = ol l ++ [mkO l.length f] := by
  have := ol_len l
  unfold ol at this ⊢
  rw [List.foldl_append]
  show _ ++ [mkO (List.foldl _ [] l).length f] = _
  rw [this]
theorem ol_get (l : List Gp) (j : Nat) : (ol l)[j]? = (l[j]?).map (mkO j) := by
  induction l using snoc_ind with
  | nil => rfl
  | append_singleton l f ih =>
    rw [ol_snoc]
    rcases Nat.lt_trichotomy j l.length with h | h | h
    · rw [List.getElem?_append_left (by rw [ol_len]; exact h), List.getElem?_append_left h, ih]
    · subst h
      rw [List.getElem?_append_right (by rw [ol_len]; exact Nat.le_refl _), List.getElem?_append_right (Nat.le_refl _), ol_len]
      simp
    · rw [List.getElem?_eq_none (by rw [List.length_append, ol_len]; show l.length + 1 ≤ j; omega), List.getElem?_eq_none (by rw [List.length_append]; show l.length + 1 ≤ j; omega)]
      rfl
theorem mem_ol {l : List Gp} {o : Gp} : o ∈ ol l ↔ ∃ j f, l[j]? = some f ∧ o = mkO j f := by
  rw [List.mem_iff_getElem?]
  constructor
  · rintro ⟨j, hj⟩
    rw [ol_get] at hj
    cases hf : l[j]? with
    | none => rw [hf] at hj; cases hj
    | some f =>
      rw [hf] at hj
      injection hj with hj
      exact ⟨j, f, hf, hj.symm⟩
  · rintro ⟨j, f, hf, rfl⟩
    exact ⟨j, by rw [ol_get, hf]; rfl⟩
def pAt (l : List Gp) (n x : Nat) : List Gp := if 1 ≤ x ∧ x ≤ n then (match l[x - 1]? with | some f => [mkO (x - 1) f] | none => []) else []
def pS (l : List Gp) (n d : Nat) : Nat → List Gp
  | 0 => []
  | i + 1 => pS l n d i ++ pAt l n (i * d % 13)
theorem pAt_le (l : List Gp) (n x : Nat) : (pAt l n x).length ≤ 1 := by
  unfold pAt
  split
  · split
    · exact Nat.le_refl _
    · exact Nat.zero_le _
  · exact Nat.zero_le _
theorem pS_le (l : List Gp) (n d i : Nat) : (pS l n d i).length ≤ i := by
  induction i with
  | zero => exact Nat.le_refl _
  | succ i ih =>
    have := pAt_le l n (i * d % 13)
    show (pS l n d i ++ pAt l n (i * d % 13)).length ≤ i + 1
    rw [List.length_append]
    omega
theorem mem_pAt {l : List Gp} {n x : Nat} {o : Gp} : o ∈ pAt l n x ↔ ∃ f, 1 ≤ x ∧ x ≤ n ∧ l[x - 1]? = some f ∧ o = mkO (x - 1) f := by
  unfold pAt
  by_cases h : 1 ≤ x ∧ x ≤ n
  · rw [if_pos h]
    cases hf : l[x - 1]? with
    | none => simp
    | some f => simp [h]
  · rw [if_neg h]
    constructor
    · intro ho; cases ho
    · rintro ⟨f, h1, h2, _⟩; exact absurd ⟨h1, h2⟩ h
theorem mem_pS {l : List Gp} {n d i : Nat} {o : Gp} : o ∈ pS l n d i ↔ ∃ j, j < i ∧ o ∈ pAt l n (j * d % 13) := by
  induction i with
  | zero =>
    constructor
    · intro h; cases h
    · rintro ⟨j, hj, _⟩; omega
  | succ i ih =>
    show o ∈ pS l n d i ++ pAt l n (i * d % 13) ↔ _
    rw [List.mem_append, ih]
    constructor
    · rintro (⟨j, hj, ho⟩ | ho)
      · exact ⟨j, by omega, ho⟩
      · exact ⟨i, by omega, ho⟩
    · rintro ⟨j, hj, ho⟩
      rcases Nat.lt_or_ge j i with h | h
      · exact .inl ⟨j, h, ho⟩
      · obtain rfl : j = i := by omega
        exact .inr ho
theorem round13 : ∀ d, d < 13 → 1 ≤ d → ∀ k, k < 12 → ∃ i, i < 13 ∧ i * d % 13 = k + 1 := by decide +kernel
theorem same_ops {l : List Gp} {n d : Nat} (hn : n ≤ 12) (hd : 1 ≤ d ∧ d ≤ 12) (o : Gp) : o ∈ pS l n d 13 ↔ o ∈ ol (l.take n) := by
  rw [mem_pS, mem_ol]
  constructor
  · rintro ⟨j, hj, ho⟩
    obtain ⟨f, h1, h2, h3, rfl⟩ := mem_pAt.1 ho
    exact ⟨j * d % 13 - 1, f, by rw [List.getElem?_take_of_lt (by omega)]; exact h3, rfl⟩
  · rintro ⟨j, f, hf, rfl⟩
    have hjn : j < n := by
      have := (List.getElem?_eq_some_iff.1 hf).1
      rw [List.length_take] at this
      omega
    rw [List.getElem?_take_of_lt hjn] at hf
    obtain ⟨i, hi, he⟩ := round13 d (by omega) hd.1 j (by omega)
    exact ⟨i, hi, mem_pAt.2 ⟨f, by omega, by omega, by rw [he]; exact hf, by rw [he]; rfl⟩⟩
theorem lsn_apart {l : List Gp} : ∀ a ∈ ol l, ∀ b ∈ ol l, a.lsn = b.lsn → a = b := by
  intro a ha b hb h
  obtain ⟨i, f, hf, rfl⟩ := mem_ol.1 ha
  obtain ⟨j, g, hg, rfl⟩ := mem_ol.1 hb
  have hij : i = j := by
    have : (i : Int) + 1 = (j : Int) + 1 := h
    omega
  subst hij
  rw [hf] at hg
  injection hg with hg
  rw [hg]
theorem same_tab {m m' : List Gp} (hlm : ∀ o, o ∈ m ↔ o ∈ m') (hu : ∀ a ∈ m, ∀ b ∈ m, a.lsn = b.lsn → a = b) : tab (doAll (E 1) m) 0 = tab (doAll (E 1) m') 0 := by
  refine rise_ext (rises_doAll (rises_E 1) m 0) (rises_doAll (rises_E 1) m' 0) fun k => ?_
  have h1 := top_doAll 1 m (t := 0) rfl k
  have h2 := top_doAll 1 m' (t := 0) rfl k
  exact top_same h1 h2 hlm hu
theorem older_tab {l : List Gp} {n d : Nat} (hn : n ≤ 12) (hd : 1 ≤ d ∧ d ≤ 12) : tab (doAll (E 1) (pS l n d 13)) 0 = tab (doAll (E 1) (ol (l.take n))) 0 :=
  same_tab (same_ops hn hd) (fun a ha b hb h => lsn_apart a ((same_ops hn hd a).1 ha) b ((same_ops hn hd b).1 hb) h)
theorem Two.monoM {B0 : Nat} {w : World} {g n M M2 : Nat} {T : List (List Ce)} {p M' : Nat} {T' : List (List Ce)} {s : Nat} (h : Two B0 w g n M T p M' T' s) (hM : M ≤ M2) : Two B0 w g n M2 T p M' T' s := ⟨h.code.mono hM, h.doc, h.most, h.base, h.size⟩
theorem pAt_no {l : List Gp} {n x : Nat} (h : x = 0 ∨ n < x) : pAt l n x = [] := by unfold pAt; rw [if_neg (by omega)]
theorem pAt_yes {l : List Gp} {n y : Nat} {f : Gp} (h : y < n) (hf : l[y]? = some f) : pAt l n (y + 1) = [mkO y f] := by
  unfold pAt
  rw [if_pos (by omega), show y + 1 - 1 = y by omega, hf]
theorem mkO_key (k : Nat) (f : Gp) : In64 (mkO k f).key := by
  have := bigZ_lt f.key (n := 4) (by omega)
  exact ⟨by show _ ≤ ((bigZ f.key 4 : Nat) : Int); omega, by show ((bigZ f.key 4 : Nat) : Int) ≤ _; omega⟩
set_option maxHeartbeats 12800000 in
theorem older_walk (A0 : Option Addr) (n c0 : Nat) (l : List Gp) (step : Int) (w : World) (h : Gps w w.heap.size A0 n c0 l) :
    Calls Try.prog 5 #[.slice A0 n c0, .int .i64 step] w fun e w' => e = .returned (.bool true) ∧ Below w.heap.size w w' := by
  have HL := Lib.hid h.len
  have HR := Lib.hid h
  have hle := h.le
  clear h
  go_enter Try.func5, Try.ntmps5
  go_wp2_with fail
  refine (new_any 1 (by omega) (by omega) _).mono ?_
  rintro e w1 ⟨rfl, hg, hz, hb⟩
  have HGA := Lib.hid hg
  have HZ1 := Lib.hid hz
  have HB1 := Lib.hid hb
  clear hg hz hb
  go_upto_region 4 with fail
  go_cut [7] (fun v wx => (∃ q : Nat, v = .int .i64 q ∧ q ≤ n ∧ q ≤ 12) ∧ wx = w1)
  case first =>
    rcases Nat.lt_or_ge 12 n with h12 | h12
    · have m1 : min (n : Int) 12 = 12 := by omega
      go_wp2_with fail
      go_meet
      exact ⟨⟨12, by first | rfl | (simp; omega) | (congr 1; omega), by omega, by omega⟩, rfl⟩
    · have m1 : min (n : Int) 12 = n := by omega
      go_wp2_with fail
      go_meet
      exact ⟨⟨n, by first | rfl | (simp; omega) | (congr 1; omega), by omega, by omega⟩, rfl⟩
  obtain ⟨⟨q, rfl, hqn, hq12⟩, hw1⟩ := hcut
  subst hw1
  go_upto_block 0 with (go_at_call 9; refine (rnew_any 1 (by omega) (by omega) _).mono ?_; rintro e w2 ⟨p, rfl, hr, hb2⟩; have HTW := Lib.hid (Two.made HGA.out HZ1.out HB1.out hr hb2); have HB2 := Lib.hid (HB1.out.trans (hb2.mono HB1.out.size)); clear hr hb2)
  go_cut [9] (fun v wx => Two w.heap.size wx w.heap.size 1 0 (E 1) p q (doAll (E 1) (ol (l.take q))) wx.heap.size ∧ Below w.heap.size w wx)
  case first =>
    go_wp2_with fail
    go_loopw [9] (fun vi wr => ∃ i : Nat, vi = .int .i64 i ∧ i ≤ q ∧ Two w.heap.size wr w.heap.size 1 0 (E 1) p i (doAll (E 1) (ol (l.take i))) wr.heap.size ∧ Below w.heap.size w wr) (fun vi _ => q - (Go.RowKit.intOf vi).toNat)
    case atStart => exact ⟨0, rfl, Nat.zero_le _, HTW.out, HB2.out⟩
    case round =>
      obtain ⟨i, rfl, hi, htw, hbl⟩ := hrel
      have HT := Lib.hid htw
      have HBL := Lib.hid hbl
      clear htw hbl
      by_cases hiq : i < q
      · obtain ⟨b, off, f, rfl, hbB, q0, q1, q2, q3, q4, hf, ht⟩ := (HR.out.below HBL.out).at_ (show i < n by omega)
        have HST : Hid (ol (l.take (i + 1)) = ol (l.take i) ++ [mkO i f]) := by show _ = _; rw [ht, ol_snoc, List.length_take, Nat.min_eq_left (by rw [HL.out]; omega)]
        obtain ⟨f0, f1, f2, f3, f4⟩ := f
        dsimp only at q0 q1 q2 q3 q4
        have l1 : (i : Int) < (q : Int) := by omega
        have l2 : (i : Int) < (n : Int) := by omega
        have HBG := Lib.hid (fun w => playbig_any f2 4 w (by omega) (by omega))
        have HSX : Hid (∀ wx, Below wr.heap.size wr wx → wx.cell? ⟨b, off + i * 5 + 2, none⟩ = some (.int .i64 f2) ∧ wx.cell? ⟨b, off + i * 5 + 3, none⟩ = some (.bool f3) ∧ wx.cell? ⟨b, off + i * 5 + 4, none⟩ = some (.string f4)) := fun wx hb => ⟨held_cell hb q2, held_cell hb q3, held_cell hb q4⟩
        have HSB : Hid (∀ wx, Below w.heap.size wr wx → wx.cell? ⟨b, off + i * 5 + 2, none⟩ = some (.int .i64 f2) ∧ wx.cell? ⟨b, off + i * 5 + 3, none⟩ = some (.bool f3) ∧ wx.cell? ⟨b, off + i * 5 + 4, none⟩ = some (.string f4)) := fun wx hb => ⟨(hb.cell (p := ⟨b, off + i * 5 + 2, none⟩) hbB).trans q2, (hb.cell (p := ⟨b, off + i * 5 + 3, none⟩) hbB).trans q3, (hb.cell (p := ⟨b, off + i * 5 + 4, none⟩) hbB).trans q4⟩
        have HWR := Lib.hid (show IntKind.i64.wrap ((i : Int) + 1) = (i : Int) + 1 from IntWalk.i64_in _ (by omega))
        clear q0 q1 hf ht
        go_upto_region 9 with fail
        refine Go.wp_region_held_drew (S := fun wx => wx.cell? ⟨b, off + i * 5 + 2, none⟩ = some (.int .i64 f2) ∧ wx.cell? ⟨b, off + i * 5 + 3, none⟩ = some (.bool f3) ∧ wx.cell? ⟨b, off + i * 5 + 4, none⟩ = some (.string f4)) (by kernel_rfl) (HSX.out _ (held_start wr)) (fun hHeld => ?_)
        refine wpAnyH_take (i := 0) (v := ?rav0) rfl (by kernel_rfl) (by kernel_rfl) (by kernel_rfl) (fun _ _ _ h => h) (Or.inl ⟨by rfl, ?ray0⟩) (by assumption) ?rar0
        case ray0 => (intro w hSw; (try dsimp only at hSw); go_simp; try with_reducible rfl)
        try simp only [Act.put, List.getElem_toArray, List.getElem_cons_succ, List.getElem_cons_zero, List.setIfInBounds_toArray, List.set_cons_zero, List.set_cons_succ]
        refine wpAnyH_take (i := 1) (v := ?rav1) rfl (by kernel_rfl) (by kernel_rfl) (by kernel_rfl) (fun _ _ _ h => h) (Or.inl ⟨by rfl, ?ray1⟩) (by assumption) ?rar1
        case ray1 => (intro w hSw; (try dsimp only at hSw); go_simp; try with_reducible rfl)
        try simp only [Act.put, List.getElem_toArray, List.getElem_cons_succ, List.getElem_cons_zero, List.setIfInBounds_toArray, List.set_cons_zero, List.set_cons_succ]
        refine wpAnyH_take (i := 2) (v := ?rav2) rfl (by kernel_rfl) (by kernel_rfl) (by kernel_rfl) (fun _ _ _ h => h) (Or.inl ⟨by rfl, ?ray2⟩) (by assumption) ?rar2
        case ray2 => (intro w hSw; (try dsimp only at hSw); go_simp; try with_reducible rfl)
        try simp only [Act.put, List.getElem_toArray, List.getElem_cons_succ, List.getElem_cons_zero, List.setIfInBounds_toArray, List.set_cons_zero, List.set_cons_succ]
        refine wpAnyH_take (i := 3) (v := ?rav3) rfl (by kernel_rfl) (by kernel_rfl) (by kernel_rfl) (fun _ _ _ h => h) (Or.inl ⟨by rfl, ?ray3⟩) (by assumption) ?rar3
        case ray3 => (intro w hSw; (try dsimp only at hSw); go_simp; try with_reducible rfl)
        try simp only [Act.put, List.getElem_toArray, List.getElem_cons_succ, List.getElem_cons_zero, List.setIfInBounds_toArray, List.set_cons_zero, List.set_cons_succ]
        refine wpAnyH_take (i := 4) (v := ?rav4) rfl (by kernel_rfl) (by kernel_rfl) (by kernel_rfl) (fun _ _ _ h => h) (Or.inl ⟨by rfl, ?ray4⟩) (by assumption) ?rar4
        case ray4 => (intro w hSw; (try dsimp only at hSw); go_simp; try with_reducible rfl)
        try simp only [Act.put, List.getElem_toArray, List.getElem_cons_succ, List.getElem_cons_zero, List.setIfInBounds_toArray, List.set_cons_zero, List.set_cons_succ]
        refine wpAnyH_take (i := 5) (v := ?rav5) rfl (by kernel_rfl) (by kernel_rfl) (by kernel_rfl) (fun _ _ _ h => h) (Or.inl ⟨by rfl, ?ray5⟩) (by assumption) ?rar5
        case ray5 => (intro w hSw; (try dsimp only at hSw); go_simp; try with_reducible rfl)
        try simp only [Act.put, List.getElem_toArray, List.getElem_cons_succ, List.getElem_cons_zero, List.setIfInBounds_toArray, List.set_cons_zero, List.set_cons_succ]
        refine wpAnyH_take (i := 6) (v := ?rav6) rfl (by kernel_rfl) (by kernel_rfl) (by kernel_rfl) (fun _ _ _ h => h) (Or.inl ⟨by rfl, ?ray6⟩) (by assumption) ?rar6
        case ray6 => (intro w hSw; (try dsimp only at hSw); go_simp; try with_reducible rfl)
        try simp only [Act.put, List.getElem_toArray, List.getElem_cons_succ, List.getElem_cons_zero, List.setIfInBounds_toArray, List.set_cons_zero, List.set_cons_succ]
        refine wpAnyH_take (i := 7) (v := ?rav7) rfl (by kernel_rfl) (by kernel_rfl) (by kernel_rfl) (fun _ _ _ h => h) (Or.inl ⟨by rfl, ?ray7⟩) (by assumption) ?rar7
        case ray7 => (intro w hSw; (try dsimp only at hSw); go_simp; try with_reducible rfl)
        try simp only [Act.put, List.getElem_toArray, List.getElem_cons_succ, List.getElem_cons_zero, List.setIfInBounds_toArray, List.set_cons_zero, List.set_cons_succ]
        refine wpAnyH_take (i := 9) (v := ?rav9) rfl (by kernel_rfl) (by kernel_rfl) (by kernel_rfl) (fun _ _ _ h => h) (Or.inl ⟨by rfl, ?ray9⟩) (by assumption) ?rar9
        case ray9 => (intro w hSw; (try dsimp only at hSw); go_simp; try with_reducible rfl)
        try simp only [Act.put, List.getElem_toArray, List.getElem_cons_succ, List.getElem_cons_zero, List.setIfInBounds_toArray, List.set_cons_zero, List.set_cons_succ]
        refine wpAnyH_take (i := 10) (v := ?rav10) rfl (by kernel_rfl) (by kernel_rfl) (by kernel_rfl) (fun _ _ _ h => h) (Or.inl ⟨by rfl, ?ray10⟩) (by assumption) ?rar10
        case ray10 => (intro w hSw; (try dsimp only at hSw); go_simp; try with_reducible rfl)
        try simp only [Act.put, List.getElem_toArray, List.getElem_cons_succ, List.getElem_cons_zero, List.setIfInBounds_toArray, List.set_cons_zero, List.set_cons_succ]
        refine wpAnyH_take (i := 11) (v := ?rav11) rfl (by kernel_rfl) (by kernel_rfl) (by kernel_rfl) (fun _ _ _ h => h) (Or.inl ⟨by rfl, ?ray11⟩) (by assumption) ?rar11
        case ray11 => (intro w hSw; (try dsimp only at hSw); go_simp; try with_reducible rfl)
        try simp only [Act.put, List.getElem_toArray, List.getElem_cons_succ, List.getElem_cons_zero, List.setIfInBounds_toArray, List.set_cons_zero, List.set_cons_succ]
        refine wpAnyH_take (i := 12) (v := ?rav12) rfl (by kernel_rfl) (by kernel_rfl) (by kernel_rfl) (fun _ _ _ h => h) (Or.inl ⟨by rfl, ?ray12⟩) (by assumption) ?rar12
        case ray12 => (intro w hSw; (try dsimp only at hSw); go_simp; try with_reducible rfl)
        try simp only [Act.put, List.getElem_toArray, List.getElem_cons_succ, List.getElem_cons_zero, List.setIfInBounds_toArray, List.set_cons_zero, List.set_cons_succ]
        refine wpAnyH_take (i := 13) (v := ?rav13) rfl (by kernel_rfl) (by kernel_rfl) (by kernel_rfl) (fun _ _ _ h => h) (Or.inl ⟨by rfl, ?ray13⟩) (by assumption) ?rar13
        case ray13 => (intro w hSw; (try dsimp only at hSw); go_simp; try with_reducible rfl)
        try simp only [Act.put, List.getElem_toArray, List.getElem_cons_succ, List.getElem_cons_zero, List.setIfInBounds_toArray, List.set_cons_zero, List.set_cons_succ]
        refine wpAnyH_take (i := 14) (v := ?rav14) rfl (by kernel_rfl) (by kernel_rfl) (by kernel_rfl) (fun _ _ _ h => h) (Or.inl ⟨by rfl, ?ray14⟩) (by assumption) ?rar14
        case ray14 => (intro w hSw; (try dsimp only at hSw); go_simp; try with_reducible rfl)
        try simp only [Act.put, List.getElem_toArray, List.getElem_cons_succ, List.getElem_cons_zero, List.setIfInBounds_toArray, List.set_cons_zero, List.set_cons_succ]
        refine wpAnyH_take (i := 15) (v := ?rav15) rfl (by kernel_rfl) (by kernel_rfl) (by kernel_rfl) (fun _ _ _ h => h) (Or.inl ⟨by rfl, ?ray15⟩) (by assumption) ?rar15
        case ray15 => (intro w hSw; (try dsimp only at hSw); go_simp; try with_reducible rfl)
        try simp only [Act.put, List.getElem_toArray, List.getElem_cons_succ, List.getElem_cons_zero, List.setIfInBounds_toArray, List.set_cons_zero, List.set_cons_succ]
        refine wpAnyH_take (i := 16) (v := ?rav16) rfl (by kernel_rfl) (by kernel_rfl) (by kernel_rfl) (fun _ _ _ h => h) (Or.inl ⟨by rfl, ?ray16⟩) (by assumption) ?rar16
        case ray16 => (intro w hSw; (try dsimp only at hSw); go_simp; try with_reducible rfl)
        try simp only [Act.put, List.getElem_toArray, List.getElem_cons_succ, List.getElem_cons_zero, List.setIfInBounds_toArray, List.set_cons_zero, List.set_cons_succ]
        refine wpAnyH_take (i := 17) (v := ?rav17) rfl (by kernel_rfl) (by kernel_rfl) (by kernel_rfl) (fun _ _ _ h => h) (Or.inl ⟨by rfl, ?ray17⟩) (by assumption) ?rar17
        case ray17 => (intro w hSw; (try dsimp only at hSw); go_simp; try with_reducible rfl)
        try simp only [Act.put, List.getElem_toArray, List.getElem_cons_succ, List.getElem_cons_zero, List.setIfInBounds_toArray, List.set_cons_zero, List.set_cons_succ]
        refine wpAnyH_take (i := 18) (v := ?rav18) rfl (by kernel_rfl) (by kernel_rfl) (by kernel_rfl) (fun _ _ _ h => h) (Or.inl ⟨by rfl, ?ray18⟩) (by assumption) ?rar18
        case ray18 => (intro w hSw; (try dsimp only at hSw); go_simp; try with_reducible rfl)
        try simp only [Act.put, List.getElem_toArray, List.getElem_cons_succ, List.getElem_cons_zero, List.setIfInBounds_toArray, List.set_cons_zero, List.set_cons_succ]
        refine wpAnyH_ready (rs := [8]) (by kernel_rfl) (by simp) ?_
        refine AllReadyH.cons rfl (fun K hK => ?_) AllReadyH.nil
        go_simp
        go_at_call 21
        refine (HBG.out _).mono ?_
        rintro e wx ⟨rfl, rfl⟩
        refine hK.out _ _ (HSX.out _ (held_start wr)) (fun hHeld => ?_)
        clear hK K
        try simp only [Act.put, List.getElem_toArray, List.getElem_cons_succ, List.getElem_cons_zero, List.setIfInBounds_toArray, List.set_cons_zero, List.set_cons_succ]
        refine wpAnyH_take (i := 19) (v := ?rbv19) rfl (by kernel_rfl) (by kernel_rfl) (by kernel_rfl) (fun _ _ _ h => h) (Or.inl ⟨by rfl, ?rby19⟩) (by assumption) ?rbr19
        case rby19 => (intro w hSw; (try dsimp only at hSw); go_simp; try with_reducible rfl)
        try simp only [Act.put, List.getElem_toArray, List.getElem_cons_succ, List.getElem_cons_zero, List.setIfInBounds_toArray, List.set_cons_zero, List.set_cons_succ]
        refine wpAnyH_ready (rs := [20]) (by kernel_rfl) (by simp) ?_
        refine AllReadyH.cons rfl (fun K hK => ?_) AllReadyH.nil
        go_simp
        refine hK.out _ _ (HSX.out _ (held_alloc_drew (held_start wr) _)) (fun hHeld => ?_)
        clear hK K
        try simp only [Act.put, List.getElem_toArray, List.getElem_cons_succ, List.getElem_cons_zero, List.setIfInBounds_toArray, List.set_cons_zero, List.set_cons_succ]
        refine wpAnyH_ready (rs := [21]) (by kernel_rfl) (by simp) ?_
        refine AllReadyH.cons rfl (fun K hK => ?_) AllReadyH.nil
        go_simp
        try simp only [HWR.out]
        go_at_call 12
        have hal : Below wr.heap.size wr (wr.alloc (.cells #[.int .i64 ((i : Int) + 1), .int .i64 0, .int .i64 (bigZ f2 4), .bool f3, .string f4] 32)).drew := held_alloc_drew (held_start wr) _
        have hwr : w.heap.size ≤ wr.heap.size := HBL.out.size
        refine (two_rput (HT.out.new hal) (wr.heap.size + 1) _ 1 1 [mkO i ⟨f0, f1, f2, f3, f4⟩] (oone wr (mkO i ⟨f0, f1, f2, f3, f4⟩) rfl) (by simp [World.drew]) (fun b off e => by injection e with e; injection e with e1 _; exact .inr (by omega)) (by omega) (Nat.le_trans hwr hal.size)).mono ?_
        rintro e w5 ⟨rfl, h5, hb5⟩
        rw [← doAll_append, ← HST.out] at h5
        have HT5 : Hid (Two w.heap.size w5 w.heap.size 1 0 (E 1) p (i + 1) (doAll (E 1) (ol (l.take (i + 1)))) w5.heap.size ∧ Below w.heap.size w w5) := ⟨h5, HBL.out.trans ((hal.mono hwr).trans hb5)⟩
        have HS5 := Lib.hid (HSB.out _ ((hal.mono hwr).trans hb5))
        clear h5 hb5 hal
        refine hK.out _ _ HS5.out (fun hHeld => ?_)
        clear hK K
        try simp only [Act.put, List.getElem_toArray, List.getElem_cons_succ, List.getElem_cons_zero, List.setIfInBounds_toArray, List.set_cons_zero, List.set_cons_succ]
        refine wpAnyH_done (by kernel_rfl) ?_ _
        clear hHeld
        go_wp2_with fail
        go_roundw
        case rel => exact ⟨i + 1, by go_num, by omega, HT5.out.1, HT5.out.2⟩
        case measure => simp [Go.RowKit.intOf]; omega
      · have l1 : ¬ ((i : Int) < (q : Int)) := by omega
        obtain rfl : i = q := by omega
        go_wp2_with fail
        go_meet
        exact ⟨HT.out, HBL.out⟩
  obtain ⟨htw, hbl⟩ := hcut
  have HT1 := Lib.hid htw
  have HB3 := Lib.hid hbl
  clear htw hbl HTW HB2
  have HMC := Lib.hid (fun w => mod_any step 12 w (by omega) (by omega))
  have hml := modZ_lt step (n := 12) (by omega)
  generalize modZ step 12 = m at *
  go_upto_block 2 with (go_at_call 7; refine (HMC.out _).mono ?_; rintro e wx ⟨rfl, rfl⟩)
  go_cut [11] (fun v wx => Two w.heap.size wx w.heap.size 1 13 (doAll (E 1) (pS l q (m + 1) 13)) p q (doAll (E 1) (ol (l.take q))) wx.heap.size ∧ Below w.heap.size w wx)
  case first =>
    go_wp2_with fail
    go_loopw [11] (fun vi wr => ∃ i : Nat, vi = .int .i64 i ∧ i ≤ 13 ∧ Two w.heap.size wr w.heap.size 1 i (doAll (E 1) (pS l q (m + 1) i)) p q (doAll (E 1) (ol (l.take q))) wr.heap.size ∧ Below w.heap.size w wr) (fun vi _ => 13 - (Go.RowKit.intOf vi).toNat)
    case atStart => exact ⟨0, rfl, Nat.zero_le _, HT1.out, HB3.out⟩
    case round =>
      obtain ⟨i, rfl, hi, htw, hbl⟩ := hrel
      have HT := Lib.hid htw
      have HBL := Lib.hid hbl
      clear htw hbl
      by_cases hiq : i < 13
      rotate_left
      · have l1 : ¬ ((i : Int) < 13) := by omega
        obtain rfl : i = 13 := by omega
        go_wp2_with fail
        go_meet
        exact ⟨HT.out, HBL.out⟩
      have l1 : (i : Int) < 13 := by omega
      have HX : Hid (pS l q (m + 1) (i + 1) = pS l q (m + 1) i ++ pAt l q (i * (m + 1) % 13)) := (rfl : _ = _)
      have hbd : i * (m + 1) ≤ 12 * 12 := Nat.mul_le_mul (by omega) (by omega)
      go_upto_region 14 with fail
      go_cut [12] (fun v wx => (∃ z : Int, v = .int .i64 z ∧ z = ((i * (m + 1) % 13 : Nat) : Int) - 1) ∧ wx = wr)
      case first =>
        have c2 : (i : Int) * (1 + (m : Int)) = ((i * (m + 1) : Nat) : Int) := by rw [Int.natCast_mul]; congr 1; omega
        have c3 : IntKind.i64.wrap ((i * (m + 1) : Nat) : Int) = ((i * (m + 1) : Nat) : Int) := IntWalk.i64_in _ (by omega)
        have c4 : Int.tmod ((i * (m + 1) : Nat) : Int) 13 = ((i * (m + 1) % 13 : Nat) : Int) := by rw [Int.tmod_eq_emod_of_nonneg (by omega)]; omega
        have c5 : IntKind.i64.wrap (((i * (m + 1) % 13 : Nat) : Int) - 1) = ((i * (m + 1) % 13 : Nat) : Int) - 1 := IntWalk.i64_in _ (by omega)
        have C2 := Lib.hid c2
        have C3 := Lib.hid c3
        have C4 := Lib.hid c4
        have C5 := Lib.hid c5
        clear c2 c3 c4 c5
        go_wp2_with fail
        go_meet
        refine ⟨⟨_, rfl, ?_⟩, rfl⟩
        rw [C2.out]
        rw [IntWalk.wrap64_in ((i * (m + 1) : Nat) : Int) (by omega), C4.out, IntWalk.wrap64_in _ (by omega)]
      obtain ⟨⟨z, rfl, hz⟩, hw⟩ := hcut
      subst hw
      generalize i * (m + 1) % 13 = x at *
      have hM13 := pS_le l q (m + 1) i
      by_cases hx : x = 0 ∨ q < x
      · have HP : Hid (pS l q (m + 1) (i + 1) = pS l q (m + 1) i) := by show _ = _; rw [HX.out, pAt_no hx, List.append_nil]
        rcases Int.lt_or_le z 0 with z0 | z0
        · have m1 : decide (0 ≤ z) = false := decide_eq_false (by omega)
          clear hz
          go_wp2_with fail
          go_roundw
          case rel => exact ⟨i + 1, by go_num, by omega, by rw [HP.out]; exact HT.out.monoM (Nat.le_succ _), HBL.out⟩
          case measure => simp [Go.RowKit.intOf]; omega
        · have m1 : decide (0 ≤ z) = true := decide_eq_true z0
          have m2 : decide (z < (q : Int)) = false := decide_eq_false (by omega)
          clear hz
          go_wp2_with fail
          go_roundw
          case rel => exact ⟨i + 1, by go_num, by omega, by rw [HP.out]; exact HT.out.monoM (Nat.le_succ _), HBL.out⟩
          case measure => simp [Go.RowKit.intOf]; omega
      · obtain ⟨y, rfl⟩ : ∃ y, x = y + 1 := ⟨x - 1, by omega⟩
        obtain rfl : z = (y : Int) := by omega
        have hyq : y < q := by omega
        obtain ⟨b, off, f, rfl, hbB, q0, q1, q2, q3, q4, hf, ht⟩ := (HR.out.below HBL.out).at_ (show y < n by omega)
        have HP : Hid (pS l q (m + 1) (i + 1) = pS l q (m + 1) i ++ [mkO y f]) := by show _ = _; rw [HX.out, pAt_yes hyq hf]
        obtain ⟨f0, f1, f2, f3, f4⟩ := f
        dsimp only at q0 q1 q2 q3 q4
        have m1 : decide (0 ≤ (y : Int)) = true := decide_eq_true (by omega)
        have m2 : decide ((y : Int) < (q : Int)) = true := decide_eq_true (by omega)
        have l2 : (y : Int) < (n : Int) := by omega
        have l3 : (0 : Int) ≤ (y : Int) := by omega
        have HBG := Lib.hid (fun w => playbig_any f2 4 w (by omega) (by omega))
        have HSX : Hid (∀ wx, Below wc.heap.size wc wx → wx.cell? ⟨b, off + y * 5 + 2, none⟩ = some (.int .i64 f2) ∧ wx.cell? ⟨b, off + y * 5 + 3, none⟩ = some (.bool f3) ∧ wx.cell? ⟨b, off + y * 5 + 4, none⟩ = some (.string f4)) := fun wx hb => ⟨held_cell hb q2, held_cell hb q3, held_cell hb q4⟩
        have HSB : Hid (∀ wx, Below w.heap.size wc wx → wx.cell? ⟨b, off + y * 5 + 2, none⟩ = some (.int .i64 f2) ∧ wx.cell? ⟨b, off + y * 5 + 3, none⟩ = some (.bool f3) ∧ wx.cell? ⟨b, off + y * 5 + 4, none⟩ = some (.string f4)) := fun wx hb => ⟨(hb.cell (p := ⟨b, off + y * 5 + 2, none⟩) hbB).trans q2, (hb.cell (p := ⟨b, off + y * 5 + 3, none⟩) hbB).trans q3, (hb.cell (p := ⟨b, off + y * 5 + 4, none⟩) hbB).trans q4⟩
        have HWR := Lib.hid (show IntKind.i64.wrap ((y : Int) + 1) = (y : Int) + 1 from IntWalk.i64_in _ (by omega))
        clear q0 q1 hf ht hz hx
        go_upto_region 16 with fail
        refine Go.wp_region_held_drew (S := fun wx => wx.cell? ⟨b, off + y * 5 + 2, none⟩ = some (.int .i64 f2) ∧ wx.cell? ⟨b, off + y * 5 + 3, none⟩ = some (.bool f3) ∧ wx.cell? ⟨b, off + y * 5 + 4, none⟩ = some (.string f4)) (by kernel_rfl) (HSX.out _ (held_start wc)) (fun hHeld => ?_)
        refine wpAnyH_take (i := 0) (v := ?uav0) rfl (by kernel_rfl) (by kernel_rfl) (by kernel_rfl) (fun _ _ _ h => h) (Or.inl ⟨by rfl, ?uay0⟩) (by assumption) ?uar0
        case uay0 => (intro w hSw; (try dsimp only at hSw); go_simp; try with_reducible rfl)
        try simp only [Act.put, List.getElem_toArray, List.getElem_cons_succ, List.getElem_cons_zero, List.setIfInBounds_toArray, List.set_cons_zero, List.set_cons_succ]
        refine wpAnyH_take (i := 1) (v := ?uav1) rfl (by kernel_rfl) (by kernel_rfl) (by kernel_rfl) (fun _ _ _ h => h) (Or.inl ⟨by rfl, ?uay1⟩) (by assumption) ?uar1
        case uay1 => (intro w hSw; (try dsimp only at hSw); go_simp; try with_reducible rfl)
        try simp only [Act.put, List.getElem_toArray, List.getElem_cons_succ, List.getElem_cons_zero, List.setIfInBounds_toArray, List.set_cons_zero, List.set_cons_succ]
        refine wpAnyH_take (i := 2) (v := ?uav2) rfl (by kernel_rfl) (by kernel_rfl) (by kernel_rfl) (fun _ _ _ h => h) (Or.inl ⟨by rfl, ?uay2⟩) (by assumption) ?uar2
        case uay2 => (intro w hSw; (try dsimp only at hSw); go_simp; try with_reducible rfl)
        try simp only [Act.put, List.getElem_toArray, List.getElem_cons_succ, List.getElem_cons_zero, List.setIfInBounds_toArray, List.set_cons_zero, List.set_cons_succ]
        refine wpAnyH_take (i := 3) (v := ?uav3) rfl (by kernel_rfl) (by kernel_rfl) (by kernel_rfl) (fun _ _ _ h => h) (Or.inl ⟨by rfl, ?uay3⟩) (by assumption) ?uar3
        case uay3 => (intro w hSw; (try dsimp only at hSw); go_simp; try with_reducible rfl)
        try simp only [Act.put, List.getElem_toArray, List.getElem_cons_succ, List.getElem_cons_zero, List.setIfInBounds_toArray, List.set_cons_zero, List.set_cons_succ]
        refine wpAnyH_take (i := 4) (v := ?uav4) rfl (by kernel_rfl) (by kernel_rfl) (by kernel_rfl) (fun _ _ _ h => h) (Or.inl ⟨by rfl, ?uay4⟩) (by assumption) ?uar4
        case uay4 => (intro w hSw; (try dsimp only at hSw); go_simp; try with_reducible rfl)
        try simp only [Act.put, List.getElem_toArray, List.getElem_cons_succ, List.getElem_cons_zero, List.setIfInBounds_toArray, List.set_cons_zero, List.set_cons_succ]
        refine wpAnyH_take (i := 5) (v := ?uav5) rfl (by kernel_rfl) (by kernel_rfl) (by kernel_rfl) (fun _ _ _ h => h) (Or.inl ⟨by rfl, ?uay5⟩) (by assumption) ?uar5
        case uay5 => (intro w hSw; (try dsimp only at hSw); go_simp; try with_reducible rfl)
        try simp only [Act.put, List.getElem_toArray, List.getElem_cons_succ, List.getElem_cons_zero, List.setIfInBounds_toArray, List.set_cons_zero, List.set_cons_succ]
        refine wpAnyH_take (i := 6) (v := ?uav6) rfl (by kernel_rfl) (by kernel_rfl) (by kernel_rfl) (fun _ _ _ h => h) (Or.inl ⟨by rfl, ?uay6⟩) (by assumption) ?uar6
        case uay6 => (intro w hSw; (try dsimp only at hSw); go_simp; try with_reducible rfl)
        try simp only [Act.put, List.getElem_toArray, List.getElem_cons_succ, List.getElem_cons_zero, List.setIfInBounds_toArray, List.set_cons_zero, List.set_cons_succ]
        refine wpAnyH_take (i := 7) (v := ?uav7) rfl (by kernel_rfl) (by kernel_rfl) (by kernel_rfl) (fun _ _ _ h => h) (Or.inl ⟨by rfl, ?uay7⟩) (by assumption) ?uar7
        case uay7 => (intro w hSw; (try dsimp only at hSw); go_simp; try with_reducible rfl)
        try simp only [Act.put, List.getElem_toArray, List.getElem_cons_succ, List.getElem_cons_zero, List.setIfInBounds_toArray, List.set_cons_zero, List.set_cons_succ]
        refine wpAnyH_take (i := 9) (v := ?uav9) rfl (by kernel_rfl) (by kernel_rfl) (by kernel_rfl) (fun _ _ _ h => h) (Or.inl ⟨by rfl, ?uay9⟩) (by assumption) ?uar9
        case uay9 => (intro w hSw; (try dsimp only at hSw); go_simp; try with_reducible rfl)
        try simp only [Act.put, List.getElem_toArray, List.getElem_cons_succ, List.getElem_cons_zero, List.setIfInBounds_toArray, List.set_cons_zero, List.set_cons_succ]
        refine wpAnyH_take (i := 10) (v := ?uav10) rfl (by kernel_rfl) (by kernel_rfl) (by kernel_rfl) (fun _ _ _ h => h) (Or.inl ⟨by rfl, ?uay10⟩) (by assumption) ?uar10
        case uay10 => (intro w hSw; (try dsimp only at hSw); go_simp; try with_reducible rfl)
        try simp only [Act.put, List.getElem_toArray, List.getElem_cons_succ, List.getElem_cons_zero, List.setIfInBounds_toArray, List.set_cons_zero, List.set_cons_succ]
        refine wpAnyH_take (i := 11) (v := ?uav11) rfl (by kernel_rfl) (by kernel_rfl) (by kernel_rfl) (fun _ _ _ h => h) (Or.inl ⟨by rfl, ?uay11⟩) (by assumption) ?uar11
        case uay11 => (intro w hSw; (try dsimp only at hSw); go_simp; try with_reducible rfl)
        try simp only [Act.put, List.getElem_toArray, List.getElem_cons_succ, List.getElem_cons_zero, List.setIfInBounds_toArray, List.set_cons_zero, List.set_cons_succ]
        refine wpAnyH_take (i := 12) (v := ?uav12) rfl (by kernel_rfl) (by kernel_rfl) (by kernel_rfl) (fun _ _ _ h => h) (Or.inl ⟨by rfl, ?uay12⟩) (by assumption) ?uar12
        case uay12 => (intro w hSw; (try dsimp only at hSw); go_simp; try with_reducible rfl)
        try simp only [Act.put, List.getElem_toArray, List.getElem_cons_succ, List.getElem_cons_zero, List.setIfInBounds_toArray, List.set_cons_zero, List.set_cons_succ]
        refine wpAnyH_take (i := 13) (v := ?uav13) rfl (by kernel_rfl) (by kernel_rfl) (by kernel_rfl) (fun _ _ _ h => h) (Or.inl ⟨by rfl, ?uay13⟩) (by assumption) ?uar13
        case uay13 => (intro w hSw; (try dsimp only at hSw); go_simp; try with_reducible rfl)
        try simp only [Act.put, List.getElem_toArray, List.getElem_cons_succ, List.getElem_cons_zero, List.setIfInBounds_toArray, List.set_cons_zero, List.set_cons_succ]
        refine wpAnyH_take (i := 14) (v := ?uav14) rfl (by kernel_rfl) (by kernel_rfl) (by kernel_rfl) (fun _ _ _ h => h) (Or.inl ⟨by rfl, ?uay14⟩) (by assumption) ?uar14
        case uay14 => (intro w hSw; (try dsimp only at hSw); go_simp; try with_reducible rfl)
        try simp only [Act.put, List.getElem_toArray, List.getElem_cons_succ, List.getElem_cons_zero, List.setIfInBounds_toArray, List.set_cons_zero, List.set_cons_succ]
        refine wpAnyH_take (i := 15) (v := ?uav15) rfl (by kernel_rfl) (by kernel_rfl) (by kernel_rfl) (fun _ _ _ h => h) (Or.inl ⟨by rfl, ?uay15⟩) (by assumption) ?uar15
        case uay15 => (intro w hSw; (try dsimp only at hSw); go_simp; try with_reducible rfl)
        try simp only [Act.put, List.getElem_toArray, List.getElem_cons_succ, List.getElem_cons_zero, List.setIfInBounds_toArray, List.set_cons_zero, List.set_cons_succ]
        refine wpAnyH_take (i := 16) (v := ?uav16) rfl (by kernel_rfl) (by kernel_rfl) (by kernel_rfl) (fun _ _ _ h => h) (Or.inl ⟨by rfl, ?uay16⟩) (by assumption) ?uar16
        case uay16 => (intro w hSw; (try dsimp only at hSw); go_simp; try with_reducible rfl)
        try simp only [Act.put, List.getElem_toArray, List.getElem_cons_succ, List.getElem_cons_zero, List.setIfInBounds_toArray, List.set_cons_zero, List.set_cons_succ]
        refine wpAnyH_take (i := 17) (v := ?uav17) rfl (by kernel_rfl) (by kernel_rfl) (by kernel_rfl) (fun _ _ _ h => h) (Or.inl ⟨by rfl, ?uay17⟩) (by assumption) ?uar17
        case uay17 => (intro w hSw; (try dsimp only at hSw); go_simp; try with_reducible rfl)
        try simp only [Act.put, List.getElem_toArray, List.getElem_cons_succ, List.getElem_cons_zero, List.setIfInBounds_toArray, List.set_cons_zero, List.set_cons_succ]
        refine wpAnyH_take (i := 18) (v := ?uav18) rfl (by kernel_rfl) (by kernel_rfl) (by kernel_rfl) (fun _ _ _ h => h) (Or.inl ⟨by rfl, ?uay18⟩) (by assumption) ?uar18
        case uay18 => (intro w hSw; (try dsimp only at hSw); go_simp; try with_reducible rfl)
        try simp only [Act.put, List.getElem_toArray, List.getElem_cons_succ, List.getElem_cons_zero, List.setIfInBounds_toArray, List.set_cons_zero, List.set_cons_succ]
        refine wpAnyH_ready (rs := [8]) (by kernel_rfl) (by simp) ?_
        refine AllReadyH.cons rfl (fun K hK => ?_) AllReadyH.nil
        go_simp
        go_at_call 21
        refine (HBG.out _).mono ?_
        rintro e wx ⟨rfl, rfl⟩
        refine hK.out _ _ (HSX.out _ (held_start wc)) (fun hHeld => ?_)
        clear hK K
        try simp only [Act.put, List.getElem_toArray, List.getElem_cons_succ, List.getElem_cons_zero, List.setIfInBounds_toArray, List.set_cons_zero, List.set_cons_succ]
        refine wpAnyH_take (i := 19) (v := ?ubv19) rfl (by kernel_rfl) (by kernel_rfl) (by kernel_rfl) (fun _ _ _ h => h) (Or.inl ⟨by rfl, ?uby19⟩) (by assumption) ?ubr19
        case uby19 => (intro w hSw; (try dsimp only at hSw); go_simp; try with_reducible rfl)
        try simp only [Act.put, List.getElem_toArray, List.getElem_cons_succ, List.getElem_cons_zero, List.setIfInBounds_toArray, List.set_cons_zero, List.set_cons_succ]
        refine wpAnyH_ready (rs := [20]) (by kernel_rfl) (by simp) ?_
        refine AllReadyH.cons rfl (fun K hK => ?_) AllReadyH.nil
        go_simp
        refine hK.out _ _ (HSX.out _ (held_alloc_drew (held_start wc) _)) (fun hHeld => ?_)
        clear hK K
        try simp only [Act.put, List.getElem_toArray, List.getElem_cons_succ, List.getElem_cons_zero, List.setIfInBounds_toArray, List.set_cons_zero, List.set_cons_succ]
        refine wpAnyH_ready (rs := [21]) (by kernel_rfl) (by simp) ?_
        refine AllReadyH.cons rfl (fun K hK => ?_) AllReadyH.nil
        go_simp
        try simp only [HWR.out]
        go_at_call 11
        have hal : Below wc.heap.size wc (wc.alloc (.cells #[.int .i64 ((y : Int) + 1), .int .i64 0, .int .i64 (bigZ f2 4), .bool f3, .string f4] 32)).drew := held_alloc_drew (held_start wc) _
        have hwr : w.heap.size ≤ wc.heap.size := HBL.out.size
        refine (two_put (HT.out.new hal) (wc.heap.size + 1) _ 1 1 [mkO y ⟨f0, f1, f2, f3, f4⟩] (oone wc (mkO y ⟨f0, f1, f2, f3, f4⟩) rfl) (by simp [World.drew]) (fun b off e => by injection e with e; injection e with e1 _; subst e1; exact not_own (HT.out.code.lt (by omega))) (fun o ho => by rw [List.mem_singleton] at ho; subst ho; exact mkO_key _ _) (by simp; omega) (by omega) (Nat.le_trans hwr hal.size)).mono ?_
        rintro e w5 ⟨⟨rfl, h5, hb5⟩, ht5⟩
        rw [← doAll_append, ← HP.out] at h5
        have HT5 : Hid (Two w.heap.size w5 w.heap.size 1 (i + 1) (doAll (E 1) (pS l q (m + 1) (i + 1))) p q (doAll (E 1) (ol (l.take q))) w5.heap.size ∧ Below w.heap.size w w5) := ⟨h5.up, HBL.out.trans ((hal.mono hwr).trans hb5)⟩
        have HS5 := Lib.hid (HSB.out _ ((hal.mono hwr).trans hb5))
        clear h5 hb5 hal ht5
        refine hK.out _ _ HS5.out (fun hHeld => ?_)
        clear hK K
        try simp only [Act.put, List.getElem_toArray, List.getElem_cons_succ, List.getElem_cons_zero, List.setIfInBounds_toArray, List.set_cons_zero, List.set_cons_succ]
        refine wpAnyH_done (by kernel_rfl) ?_ _
        clear hHeld
        go_wp2_with fail
        go_roundw
        case rel => exact ⟨i + 1, by go_num, by omega, HT5.out.1, HT5.out.2⟩
        case measure => simp [Go.RowKit.intOf]; omega
  obtain ⟨htw, hbl⟩ := hcut
  have hd : 1 ≤ m + 1 ∧ m + 1 ≤ 12 := by omega
  have HTA := Lib.hid (older_tab (l := l) (d := m + 1) hq12 hd)
  have HT := Lib.hid htw
  have HBL := Lib.hid hbl
  clear htw hbl HT1 HB3
  go_wp2_with fail
  refine (awake_any _).mono ?_
  rintro e w8 ⟨rfl, hb8⟩
  have HT8 := Lib.hid (HT.out.new hb8)
  have HB8 : Hid (Below w.heap.size w w8) := held_two HBL.out hb8
  clear hb8
  go_wp2_with fail
  refine (cells_any w.heap.size 1 _ _ 0 _ HT8.out.code (by omega) (by omega)).mono ?_
  rintro e w9 ⟨A9, c9, rfl, h9, hb9⟩
  have HC9 := Lib.hid (Ces.of_own h9)
  have HT9 := Lib.hid (HT8.out.new hb9)
  have HB9 : Hid (Below w.heap.size w w9) := held_two HB8.out hb9
  clear h9 hb9
  go_wp2_with fail
  refine (two_rcells HT9.out 0 (by omega)).mono ?_
  rw [← HTA.out]
  rintro e w10 ⟨A10, c10, rfl, h10, hb10⟩
  have HC10 := Lib.hid (Ces.of_own h10)
  have HC9b := Lib.hid (HC9.out.below hb10)
  have HB10 : Hid (Below w.heap.size w w10) := held_two HB9.out hb10
  have hs10 := hb10.size
  clear h10 hb10
  go_wp2_with fail
  refine (cplain_same w9.heap.size w10.heap.size A9 A10 _ _ c9 c10 _ _ HC9b.out HC10.out hs10 (Nat.le_refl _)).mono ?_
  rintro e w11 ⟨rfl, hb11⟩
  have HB11 : Hid (Below w.heap.size w w11) := held_two HB10.out hb11
  clear hb11
  go_wp2
  go_ret
  exact ⟨by first | rfl | simp, HB11.out⟩
end Go.Proofs.Ytlbgpfiiiggofaa.Gd
