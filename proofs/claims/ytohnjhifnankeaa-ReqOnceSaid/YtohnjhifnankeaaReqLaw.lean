/-
  The laws on requests: their first line; ReqFull.
-/
import Derived.Test.YtohnjhifnankeaaReqSmall
namespace Go.Proofs.Ytohnjhifnankeaa.Req
set_option linter.unusedVariables false
set_option maxRecDepth 100000
open Go.RowKit Base ReqMath ReqOpMath
open Go.Proofs.Ytohnjhifnankeaa.Field (modZ bigZ modZ_lt bigZ_lt mod_any playbig_any)
open Go.Sort (grow)
set_option linter.ambiguousOpen false
set_option linter.unusedSimpArgs false

theorem Qs.one {w : World} {B : Nat} {A : Option Addr} {c : Nat} {f : Rq} (h : Qs w B A 1 c [f]) :
    ∃ b off, A = some ⟨b, off, none⟩ ∧ b < B ∧ w.cell? ⟨b, off, none⟩ = some (.int .i64 f.id) ∧ w.cell? ⟨b, off + 1, none⟩ = some (.int .i64 f.tbl) ∧ w.cell? ⟨b, off + 2, none⟩ = some (.int .i64 f.wt) ∧ w.cell? ⟨b, off + 3, none⟩ = some (.int .i64 f.at_) ∧ w.cell? ⟨b, off + 4, none⟩ = some (.int .i64 f.cur) ∧ w.cell? ⟨b, off + 5, none⟩ = some (.int .i64 f.chs) ∧ w.cell? ⟨b, off + 6, none⟩ = some (.bool f.done) := by
  obtain ⟨b, off, g, e, hb, c0, c1, c2, c3, c4, c5, c6, hg, _⟩ := h.at_ (k := 0) (by omega)
  simp at hg
  subst hg
  simp only [Nat.zero_mul, Nat.add_zero] at c0 c1 c2 c3 c4 c5 c6
  exact ⟨b, off, e, hb, c0, c1, c2, c3, c4, c5, c6⟩
set_option maxHeartbeats 3200000 in
theorem awake_any (w : World) :
    Calls Try.prog 19 #[] w fun e w' => e = .returned (.bool true) ∧ Below w.heap.size w w' := by
  go_enter Try.func19, Try.ntmps19
  go_wp2_with fail
  refine (accept_any 0 none 0 0 [] 3 1 7 w (Qs.nil_ _ _) (Nat.zero_le _) (by omega)).mono ?_
  intro e w1 h1
  rw [show accept [] 3 1 7 = some [⟨1, 3, 1, 7, 0, 0, false⟩] from rfl] at h1
  obtain ⟨A1, c1, rfl, ho, hb⟩ := h1
  have hq := Qs.of_own ho
  have HQ : Hid (Qs w1 w1.heap.size A1 1 c1 [⟨1, 3, 1, 7, 0, 0, false⟩]) := hq
  have HB1 := Lib.hid hb
  have hle : 1 ≤ c1 ∧ c1 ≤ 9223372036854775807 := hq.le
  obtain ⟨b, off, rfl, hbb, q0, q1, q2, q3, q4, q5, q6⟩ := Qs.one hq
  rw [show ([⟨1, 3, 1, 7, 0, 0, false⟩] : List Rq).length = 1 from rfl]
  clear ho hb hq
  go_wp2_with fail
  refine (accept_any w1.heap.size _ 1 c1 _ 3 1 8 w1 HQ.out (Nat.le_refl _) (by omega)).mono ?_
  intro e w2 h2
  rw [show accept [⟨1, 3, 1, 7, 0, 0, false⟩] 3 1 8 = none from rfl] at h2
  obtain ⟨rfl, hb2⟩ := h2
  have HB2 := Lib.hid (held_two HB1.out hb2)
  have HQ2 := Lib.hid (HQ.out.below hb2)
  have hz2 := hb2.size
  clear hb2 q0 q1 q2 q3 q4 q5 q6
  go_wp2_with fail
  refine (chunk_any w1.heap.size _ 1 c1 _ 1 5 true w2 HQ2.out hz2 (by omega)).mono ?_
  intro e w3 h3
  rw [show chunk [⟨1, 3, 1, 7, 0, 0, false⟩] 1 5 true = some [⟨1, 3, 1, 7, 5, 1, true⟩] from rfl] at h3
  obtain ⟨A3, c3, rfl, ho, hb⟩ := h3
  have hq := Qs.of_own ho
  have HQ3 : Hid (Qs w3 w3.heap.size A3 1 c3 [⟨1, 3, 1, 7, 5, 1, true⟩]) := hq
  have HB3 := Lib.hid (held_two HB2.out hb)
  have hle3 : 1 ≤ c3 ∧ c3 ≤ 9223372036854775807 := hq.le
  obtain ⟨b3, off3, rfl, hbb3, q0, q1, q2, q3, q4, q5, q6⟩ := Qs.one hq
  rw [show ([⟨1, 3, 1, 7, 5, 1, true⟩] : List Rq).length = 1 from rfl]
  clear ho hb hq
  go_wp2_with fail
  refine (Open_any w3.heap.size _ 1 c3 _ w3 HQ3.out (Nat.le_refl _) (by omega)).mono ?_
  intro e w4 h4
  obtain ⟨A4, c4, rfl, ho4, hb4⟩ := h4
  rw [show (opens [⟨1, 3, 1, 7, 5, 1, true⟩]).length = 0 from rfl]
  have HQ4 := Lib.hid (HQ3.out.below hb4)
  have HB4 := Lib.hid (held_two HB3.out hb4)
  have hz4 := hb4.size
  clear ho4 hb4 q0 q1 q2 q3 q4 q5 q6
  go_wp2_with fail
  refine (May_any w3.heap.size _ 1 c3 _ w4 HQ4.out hz4 (by omega)).mono ?_
  rintro e w5 ⟨rfl, hg⟩
  rw [show may [⟨1, 3, 1, 7, 5, 1, true⟩] = true from rfl]
  have HB5 := Lib.hid (held_two HB4.out hg.below)
  clear hg
  go_wp2
  go_ret
  exact ⟨rfl, HB5.out⟩

/-! ### ReqFull -/
def full (n : Nat) : List Rq := (List.range n).map fun j : Nat => ⟨(j : Int) + 1, (j : Int) % 8, 1, 1, (j : Int), 1, true⟩
theorem full_length (n : Nat) : (full n).length = n := by simp [full]
theorem full_succ (n : Nat) : full (n + 1) = full n ++ [⟨(n : Int) + 1, (n : Int) % 8, 1, 1, (n : Int), 1, true⟩] := by
  unfold full
  rw [List.range_succ, List.map_append]
  rfl
theorem full_mem {n : Nat} {r : Rq} (h : r ∈ full n) : r.done = true ∧ r.at_ = 1 := by
  unfold full at h
  obtain ⟨j, _, rfl⟩ := List.mem_map.1 h
  exact ⟨rfl, rfl⟩
theorem full_waits (n : Nat) (t : Int) : waits (full n) t = false := by
  cases h : waits (full n) t with
  | false => rfl
  | true =>
    unfold waits at h
    obtain ⟨r, hr, hd⟩ := List.any_eq_true.1 h
    rw [(full_mem hr).1] at hd
    simp at hd
theorem full_last (n : Nat) : lastAt (full n) ≤ 1 := by
  unfold lastAt
  split
  · omega
  · rename_i r hr
    rw [(full_mem (List.mem_of_getLast? hr)).2]
    omega
theorem full_takes {n : Nat} (h : n < 64) (c k : Int) (d : Bool) (hc : 0 ≤ c ∧ c ≤ 1099511627776) (hk : 0 ≤ k ∧ k ≤ 1099511627776) : takes (full n) ⟨(n : Int) + 1, (n : Int) % 8, 1, 1, c, k, d⟩ = true :=
  takes_mk (by rw [full_length]; exact h) (by rw [full_length]) (inb_mk (by dsimp only; omega)) (full_last n) (full_waits n _)
theorem full_may {n : Nat} (h : n ≤ 64) : may (full n) = true := by
  induction n with
  | zero => rfl
  | succ n ih => rw [full_succ, may_snoc, ih (by omega), full_takes (by omega) _ _ _ (by omega) (by omega)]; rfl
theorem full_accept {n : Nat} (h : n < 64) : accept (full n) ((n : Int) % 8) 1 1 = some (full n ++ [⟨(n : Int) + 1, (n : Int) % 8, 1, 1, 0, 0, false⟩]) := by
  unfold accept fresh
  rw [full_length, full_may (by omega), full_takes h _ _ _ (by omega) (by omega)]
  rfl
theorem full_stop (t k a : Int) : accept (full 64) t k a = none := by
  unfold accept
  rw [if_neg]
  intro h
  rw [Bool.and_eq_true] at h
  have := (takes_parts h.2).1
  rw [full_length] at this
  omega
theorem full_chunk {n : Nat} (h : n < 64) : chunk (full n ++ [⟨(n : Int) + 1, (n : Int) % 8, 1, 1, 0, 0, false⟩]) ((n : Int) + 1) (n : Int) true = some (full (n + 1)) := by
  have hg : (full n ++ [(⟨(n : Int) + 1, (n : Int) % 8, 1, 1, 0, 0, false⟩ : Rq)])[n]? = some ⟨(n : Int) + 1, (n : Int) % 8, 1, 1, 0, 0, false⟩ := by
    rw [List.getElem?_append_right (by rw [full_length]; omega), full_length, Nat.sub_self]; rfl
  rw [chunk_some (got_some rfl hg), may_snoc, full_may (by omega), full_takes h _ _ _ (by omega) (by omega), goesOn_yes rfl (by dsimp only; omega) (by omega) (by dsimp only; omega)]
  simp only [Bool.and_self, if_true]
  rw [show ((n : Int) + 1 - 1).toNat = n by omega, full_succ]
  congr 1
  rw [List.set_append_right _ _ (by rw [full_length]; omega), full_length, Nat.sub_self]
  rfl

def FullRel (w : World) (k : Nat) (vl vi : Value) (wr : World) : Prop := ∃ (i : Nat) (A : Option Addr) (c : Nat), i ≤ k ∧ vi = .int .i64 i ∧ vl = .slice A (min i 64) c ∧ wr.ownsRow w.heap.size 29 7 (.slice A (min i 64) c) (min i 64) (qv (full (min i 64))) ∧ Below w.heap.size w wr
set_option maxHeartbeats 6400000 in
theorem full_walk (v : Int) (w : World) :
    Calls Try.prog 6 #[.int .i64 v] w fun e w' => e = .returned (.bool true) ∧ Below w.heap.size w w' := by
  have C0 := mod_any v 5 w (by omega) (by omega)
  have b0 := modZ_lt v (n := 5) (by omega)
  generalize modZ v 5 = m0 at C0 b0
  have D0 := Lib.hid C0
  clear C0
  obtain ⟨k, hk⟩ : ∃ k : Nat, k = 62 + m0 := ⟨_, rfl⟩
  have hk2 : (62 : Int) + (m0 : Int) = (k : Int) := by omega
  have hk3 : k ≤ 66 := by omega
  have hk4 : 62 ≤ k := by omega
  have HK := Lib.hid hk
  clear hk
  go_enter Try.func6, Try.ntmps6
  go_wp2_with fail
  refine D0.out.mono ?_
  rintro e w1 ⟨rfl, rfl⟩
  go_wp2_with fail
  go_loopw [3, 5] (fun vl vi wr => FullRel w k vl vi wr) (fun _ vi _ => k - (intOf vi).toNat)
  case atStart => exact ⟨0, none, 0, by omega, rfl, rfl, by rw [show min 0 64 = 0 from rfl]; exact World.ownsRow_nil _ _ _ _, Below.refl _ _⟩
  case round =>
    obtain ⟨i, A, c, hi, rfl, rfl, hown, hbel⟩ := hrel
    have HO := Lib.hid hown
    have HB := Lib.hid hbel
    clear hown hbel
    by_cases hik : i < k
    · have l1 : (i : Int) < (k : Int) := by omega
      by_cases h64 : i < 64
      · have hmin : min i 64 = i := by omega
        rw [hmin] at HO ⊢
        have HQ : Hid (Qs wr wr.heap.size A i c (full i)) := Qs.of_own HO.out
        have HAC := Lib.hid (full_accept h64)
        have HCH := Lib.hid (full_chunk h64)
        have l2 : decide ((i : Int) < 64) = true := by first | (simp; done) | (simp; omega)
        have l3 : (i : Int) < 64 := by omega
        clear hmin
        go_wp2_with fail
        refine (accept_any wr.heap.size A i c _ ((i : Int) % 8) 1 1 wr HQ.out (Nat.le_refl _) (by omega)).mono ?_
        intro e w2 h2
        rw [HAC.out] at h2
        obtain ⟨A2, c2, rfl, ho, hb⟩ := h2
        rw [List.length_append, full_length] at ho
        rw [List.length_append, full_length]
        have hq := Qs.of_own ho
        have HQ2 : Hid (Qs w2 w2.heap.size A2 (i + 1) c2 (full i ++ [⟨(i : Int) + 1, (i : Int) % 8, 1, 1, 0, 0, false⟩])) := hq
        have HB2 := Lib.hid (held_two HB.out hb)
        rw [show i + ([(⟨(i : Int) + 1, (i : Int) % 8, 1, 1, 0, 0, false⟩ : Rq)]).length = i + 1 from rfl]
        clear ho hb hq
        go_wp2_with fail
        refine (chunk_any w2.heap.size A2 (i + 1) c2 _ ((i : Int) + 1) (i : Int) true w2 HQ2.out (Nat.le_refl _) (by omega)).mono ?_
        intro e w3 h3
        rw [HCH.out] at h3
        obtain ⟨A3, c3, rfl, ho, hb⟩ := h3
        rw [full_length] at ho ⊢
        have HO3 := Lib.hid (own_mono ho HB2.out.size)
        have HB3 := Lib.hid (held_two HB2.out hb)
        have HMN : Hid (min (i + 1) 64 = i + 1) := by show _ = _; omega
        clear ho hb
        go_wp2
        go_roundw
        case rel => exact ⟨i + 1, A3, c3, by omega, by go_num, by rw [HMN.out], by rw [HMN.out]; exact HO3.out, HB3.out⟩
        case measure => simp [intOf]; omega
      · have hmin : min i 64 = 64 := by omega
        rw [hmin] at HO ⊢
        have HQ : Hid (Qs wr wr.heap.size A 64 c (full 64)) := Qs.of_own HO.out
        have l2 : decide ((i : Int) < 64) = false := by first | (simp; done) | (simp; omega)
        have l3 : ¬ (i : Int) < 64 := by omega
        clear hmin
        go_wp2_with fail
        refine (accept_any wr.heap.size A 64 c _ ((i : Int) % 8) 1 1 wr HQ.out (Nat.le_refl _) (by omega)).mono ?_
        intro e w2 h2
        rw [full_stop] at h2
        obtain ⟨rfl, hb⟩ := h2
        have HB2 := Lib.hid (held_two HB.out hb)
        have HO2 := Lib.hid (own_keep HO.out hb)
        have HMN : Hid (min (i + 1) 64 = 64) := by show _ = _; omega
        clear hb
        go_wp2
        go_roundw
        case rel => exact ⟨i + 1, A, c, by omega, by go_num, by rw [HMN.out], by rw [HMN.out]; exact HO2.out, HB2.out⟩
        case measure => simp [intOf]; omega
    · obtain rfl : i = k := by omega
      have HLE : Hid (min i 64 ≤ 64) := Nat.min_le_right _ _
      have l1 : ¬ (i : Int) < (i : Int) := by omega
      have HM := Lib.hid (full_may (n := min i 64) (Nat.min_le_right _ _))
      by_cases h64 : i ≤ 64
      · have hm : min i 64 = i := by omega
        rw [hm] at HO HM ⊢
        have l5 : (i : Int) ≤ 64 := by omega
        have l6 : ¬ (64 : Int) < (i : Int) := by omega
        clear hm
        have HQ : Hid (Qs wr wr.heap.size A i c (full i)) := Qs.of_own HO.out
        go_wp2_with fail
        refine (awake_any wr).mono ?_
        rintro e w2 ⟨rfl, hb⟩
        have HQ2 := Lib.hid (HQ.out.below hb)
        have HB2 := Lib.hid (held_two HB.out hb)
        have hz := hb.size
        clear hb
        go_wp2_with fail
        refine (May_any wr.heap.size A i c _ w2 HQ2.out hz (by omega)).mono ?_
        rintro e w3 ⟨rfl, hg⟩
        rw [HM.out]
        have HB3 := Lib.hid (held_two HB2.out hg.below)
        clear hg
        go_wp2
        go_ret
        exact ⟨rfl, HB3.out⟩
      · have hm : min i 64 = 64 := by omega
        rw [hm] at HO HM ⊢
        have l5 : ¬ (i : Int) ≤ 64 := by omega
        have l6 : (64 : Int) < (i : Int) := by omega
        have l7 : ¬ (i : Int) < 64 := by omega
        clear hm
        have HQ : Hid (Qs wr wr.heap.size A 64 c (full 64)) := Qs.of_own HO.out
        go_wp2_with fail
        refine (awake_any wr).mono ?_
        rintro e w2 ⟨rfl, hb⟩
        have HQ2 := Lib.hid (HQ.out.below hb)
        have HB2 := Lib.hid (held_two HB.out hb)
        have hz := hb.size
        clear hb
        go_wp2_with fail
        refine (May_any wr.heap.size A 64 c _ w2 HQ2.out hz (by omega)).mono ?_
        rintro e w3 ⟨rfl, hg⟩
        rw [HM.out]
        have HB3 := Lib.hid (held_two HB2.out hg.below)
        clear hg
        go_wp2
        go_ret
        exact ⟨rfl, HB3.out⟩
end Go.Proofs.Ytohnjhifnankeaa.Req
