/-
  Package table: the contract of Apply.
-/
import Derived.Test.YtngncalbglbjdaaTblChg
namespace Go.Proofs.Ytngncalbglbjdaa.Tbl
set_option linter.unusedVariables false
set_option maxRecDepth 100000
open Go.RowKit Base IdxMath Foot Idx
open PChg (gcells gval gv gv_cons gv_length gv_get Cs)
set_option linter.ambiguousOpen false
set_option linter.unusedSimpArgs false

/-- one index of the set turned, in place -/
theorem Lie.step {w w' : World} {F : Nat → Prop} {p b : Nat} {ps : List Nat} {G : Nat → Nat → Prop} {T : List (List Rw)} (h : Lie w F p b ps G T) {i : Nat} (hi : i < T.length) {q : Nat} {l' : List Rw}
    (hqi : ps[i]? = some q) (hq : IdxAt w' (Out (G i) w w') q l') (ht : Turn (G i) w w') : SetAt w' (Out F w w') p (T.set i l') ∧ Turn F w w' := by
  have hplt := h.box.lt
  have hblt := h.row.lt
  have hsz := ht.size
  have hip : i < ps.length := by rw [h.len]; exact hi
  have hTF : Turn F w w' := ⟨ht.os, ht.tape, ht.output, ht.size, fun x hx hn => ht.block x hx fun hg => hn (h.ing i x hi hx hg).1⟩
  refine ⟨⟨b, ps, fun j x => if j = i then Out (G i) w w' x else G j x ∧ x < w.heap.size, ?_⟩, hTF⟩
  refine ⟨?_, ?_, by rw [List.length_set, h.len], by rw [List.length_set]; exact h.most, by rw [List.length_set]; exact h.some_, .inl h.inp, .inl h.inb, h.ne, ?_, ?_, ?_⟩
  · rw [List.length_set]
    exact (ht.block p hplt fun hg => (h.ing i p hi hplt hg).2.1 rfl).trans h.box
  · exact (ht.block b hblt fun hg => (h.ing i b hi hblt hg).2.2 rfl).trans h.row
  · intro j q' l h1 h2
    by_cases hj : j = i
    · subst hj
      rw [List.getElem?_set_self hi] at h2
      obtain rfl := Option.some.inj h2
      rw [hqi] at h1
      obtain rfl := Option.some.inj h1
      exact hq.mono fun x hx hG => by rw [if_pos rfl]; exact hG
    · rw [List.getElem?_set_ne (fun e => hj e.symm)] at h2
      have hjl : j < T.length := (List.getElem?_eq_some_iff.1 h2).1
      refine ((h.each j q' l h1 h2).mono (F' := fun x => if j = i then Out (G i) w w' x else G j x ∧ x < w.heap.size) fun x hx hG => ?_).keep fun x hx hG => ?_
      · rw [if_neg hj]; exact ⟨hG, hx⟩
      · rw [if_neg hj] at hG
        exact ht.block x hx fun hg => h.apart j i x hjl hi hj hx hG.1 hg
  · intro j x hj hx hG
    rw [List.length_set] at hj
    by_cases hji : j = i
    · rw [if_pos hji] at hG
      rcases Nat.lt_or_ge x w.heap.size with hxl | hxl
      · rcases hG with hG | hG
        · have := h.ing i x hi hxl hG
          exact ⟨.inl this.1, this.2⟩
        · omega
      · exact ⟨.inr ⟨hxl, hx⟩, by omega, by omega⟩
    · rw [if_neg hji] at hG
      have := h.ing j x hj hG.2 hG.1
      exact ⟨.inl this.1, this.2⟩
  · intro j k x hj hk hjk hx h1 h2
    rw [List.length_set] at hj hk
    by_cases hji : j = i
    · rw [if_pos hji] at h1
      rw [if_neg (fun e => hjk (hji.trans e.symm))] at h2
      rcases h1 with h1 | h1
      · exact h.apart i k x hi hk (fun e => hjk (hji.trans e)) h2.2 h1 h2.1
      · omega
    · rw [if_neg hji] at h1
      by_cases hki : k = i
      · rw [if_pos hki] at h2
        rcases h2 with h2 | h2
        · exact h.apart i j x hi hj (fun e => hji e.symm) h1.2 h2 h1.1
        · omega
      · rw [if_neg hki] at h2
        exact h.apart j k x hj hk hjk h1.2 h1.1 h2.1

def do1 (T : List (List Rw)) (c : Cg) : List (List Rw) := T.set c.tbl.toNat (one (tab T c.tbl) c)
def doAll (T : List (List Rw)) (l : List Cg) : List (List Rw) := l.foldl do1 T
def appl (T : List (List Rw)) (l : List Cg) : List (List Rw) := if allT T l then doAll T l else T
theorem doAll_snoc (T : List (List Rw)) (l : List Cg) (c : Cg) : doAll T (l ++ [c]) = do1 (doAll T l) c := by simp [doAll]
theorem doAll_length (T : List (List Rw)) (l : List Cg) : (doAll T l).length = T.length := by
  induction l generalizing T with
  | nil => rfl
  | cons c l ih => exact (ih (do1 T c)).trans (by simp [do1])
theorem isT_length {T T' : List (List Rw)} (h : T'.length = T.length) (t : Int) : isT T' t = isT T t := by unfold isT; rw [h]
def Most (T : List (List Rw)) (M : Nat) : Prop := ∀ t : Int, (tab T t).length ≤ M
theorem tab_set {T : List (List Rw)} {i : Nat} (hi : i < T.length) (l : List Rw) (t : Int) : tab (T.set i l) t = if t = (i : Int) then l else tab T t := by
  unfold tab
  rw [isT_length (T := T) (by rw [List.length_set])]
  by_cases ht : isT T t = true
  · obtain ⟨j, rfl, hj⟩ := isT_nat ht
    rw [if_pos ht, if_pos ht, Int.toNat_natCast]
    by_cases hji : j = i
    · subst hji
      rw [if_pos rfl, List.getElem?_set_self hi]
      rfl
    · rw [if_neg (by omega), List.getElem?_set_ne (fun e => hji e.symm)]
  · rw [if_neg ht, if_neg ht, if_neg]
    rintro rfl
    exact ht (decide_eq_true (by omega))
theorem allT_at {T : List (List Rw)} {l : List Cg} {k : Nat} {f : Cg} (h : allT T l = true) (hf : l[k]? = some f) : isT T f.tbl = true := by
  unfold allT at h
  exact (List.all_eq_true.1 h) f (List.mem_of_getElem? hf)
theorem one_len (l : List Rw) (c : Cg) : (one l c).length ≤ l.length + 1 := by
  unfold one
  split
  · have := del_length l c.key; omega
  · exact put_length_le _ _ _
theorem Most.do1 {T : List (List Rw)} {M : Nat} (h : Most T M) {c : Cg} (hc : isT T c.tbl = true) : Most (do1 T c) (M + 1) := by
  intro t
  obtain ⟨i, e, hi⟩ := isT_nat hc
  unfold Tbl.do1
  rw [e, Int.toNat_natCast, tab_set hi]
  split
  · have := one_len (tab T (i : Int)) c
    have := h (i : Int)
    omega
  · have := h t
    omega

theorem step_set {F : Nat → Prop} {w wr wa w2 : World} {p : Nat} {T : List (List Rw)} (h1 : Turn F w wr) (h2 : Below wr.heap.size wr wa) (h3 : SetAt w2 (Out (Out F w wr) wa w2) p T) (h4 : wa.heap.size ≤ w2.heap.size) : SetAt w2 (Out F w w2) p T := by
  have e1 := h1.size
  have e2 := h2.size
  refine h3.mono fun i hi h => ?_
  rcases h with (h | h) | h
  · exact .inl h
  · exact .inr ⟨h.1, hi⟩
  · exact .inr ⟨by omega, hi⟩
set_option maxHeartbeats 3200000 in
theorem apply_set (F : Nat → Prop) (p : Nat) (T : List (List Rw)) (M : Nat) (A : Option Addr) (n c : Nat) (l : List Cg) (w : World) (h : SetAt w F p T) (hl : ∀ wr, Turn F w wr → Cs wr wr.heap.size A n c l) (hM : Most T M) (hsz : M + n ≤ 1099511627774) :
    Calls Try.prog 14 #[.pointer (some ⟨p, 0, none⟩), .slice A n c] w (SetTurned w F p (allT T l) (appl T l)) := by
  have HH := Lib.hid (hasAll_any F p T A n c l w h (hl w (.refl _ _)))
  have HS := Lib.hid h
  have HC := Lib.hid hl
  have HLEN := Lib.hid (hl w (.refl _ _)).len
  have hle := (hl w (.refl _ _)).le
  have HM := Lib.hid hM
  clear h hl hM
  cases ht : allT T l with
  | false =>
    have HT := Lib.hid ht
    clear ht
    go_enter Try.func14, Try.ntmps14
    go_wp2_with fail
    refine HH.out.mono ?_
    rintro e w1 ⟨rfl, hb⟩
    rw [HT.out]
    have HB1 := Lib.hid hb
    clear hb
    go_wp2
    go_ret
    refine ⟨rfl, ?_, Turn.new HB1.out⟩
    unfold appl
    rw [HT.out]
    exact (HS.out.new HB1.out).mono fun i _ hi => .inl hi
  | true =>
    have HT := Lib.hid ht
    clear ht
    go_enter Try.func14, Try.ntmps14
    go_wp2_with fail
    refine HH.out.mono ?_
    rintro e w1 ⟨rfl, hb⟩
    rw [HT.out]
    have HB1 := Lib.hid hb
    clear hb
    go_wp2
    go_loopw [13, 6] (fun vi _ wr => ∃ k : Nat, vi = .int .i64 k ∧ k ≤ n ∧ SetAt wr (Out F w wr) p (doAll T (l.take k)) ∧ Most (doAll T (l.take k)) (M + k) ∧ Turn F w wr) (fun vi _ _ => n - (intOf vi).toNat)
    case atStart => exact ⟨0, rfl, Nat.zero_le _, (HS.out.new HB1.out).mono fun i _ hi => .inl hi, HM.out, Turn.new HB1.out⟩
    case round =>
      obtain ⟨k, rfl, hk, hset, hmost, hturn⟩ := hrel
      by_cases hkn : k < n
      · obtain ⟨b, off, f, rfl, hbB, c0, c1, c2, c3, hf, ht⟩ := (HC.out wr hturn).at_ hkn
        have hft := allT_at HT.out hf
        obtain ⟨ft, fk, fg, fv⟩ := f
        dsimp only at c0 c1 c2 c3 hft
        obtain ⟨i, rfl, hi⟩ := isT_nat hft
        have hi2 : i < (doAll T (l.take k)).length := by rw [doAll_length]; exact hi
        have hnew : doAll T (l.take (k + 1)) = (doAll T (l.take k)).set i (one (tab (doAll T (l.take k)) (i : Int)) ⟨i, fk, fg, fv⟩) := by rw [ht, doAll_snoc, do1, Int.toNat_natCast]
        have hmost2 : Most (doAll T (l.take (k + 1))) (M + (k + 1)) := by
          rw [ht, doAll_snoc]
          exact hmost.do1 (by rw [isT_length (doAll_length _ _)]; exact hft)
        have hshort := hmost (i : Int)
        generalize hTT : doAll T (l.take k) = TT at *
        generalize hTN : doAll T (l.take (k + 1)) = TN at *
        have HTN := Lib.hid hTN
        clear hTN
        obtain ⟨bb, ps, G, hX⟩ := hset
        have hb01 : Below wr.heap.size wr (wr.alloc (.cells #[.int .i64 i, .int .i64 fk, .bool fg, .string fv] 45)).drew := ((Below.refl _ _).alloc (Nat.le_refl _) _).drew
        have hX1 := hX.keep hb01.size fun x hx _ => hb01.block x hx
        obtain ⟨q, l0, e1, e2, d1, hq0⟩ := hX.get hi2
        have d0 : wr.cell? ⟨p, 0, none⟩ = some (.slice (some ⟨bb, 0, none⟩) TT.length TT.length) := hX.box.cell 0
        have d2 : wr.cell? ⟨bb, i, none⟩ = some (.pointer (some ⟨q, 0, none⟩)) := d1
        have hpl : p < wr.heap.size := hX.box.lt
        have hbl : bb < wr.heap.size := hX.row.lt
        have HQ := Lib.hid (hX1.each i q l0 e1 e2)
        have htab := tab_get hi2 e2
        rw [htab] at hnew hshort
        subst hnew
        have HX1 := Lib.hid (And.intro hX1 e1)
        have HTU := Lib.hid (And.intro hturn hb01)
        have HMO := Lib.hid hmost2
        have l1 : (k : Int) < (n : Int) := by omega
        have l2 : (i : Int) < (TT.length : Int) := by omega
        have hs0 : l0.length ≤ 1099511627774 := by omega
        clear hX hX1 e1 e2 d1 hq0 htab hturn hb01 hmost hmost2 hf ht hft hTT hshort
        go_wp2_with fail
        go_region_with (first
          | (go_at_call 36; refine (apply_any _ q l0 ⟨i, fk, fg, fv⟩ _ HQ.out hs0).mono ?_; rintro e w2 ⟨rfl, h1, h2⟩; have H2 := Lib.hid (And.intro h1 h2); clear h1 h2)
          | fail)
        all_goals (go_wp2; refine ⟨⟨k + 1, by rw [Int.natCast_add]; rfl, hkn, by rw [HTN.out]; exact step_set HTU.out.1 HTU.out.2 (HX1.out.1.step hi2 HX1.out.2 H2.out.1 H2.out.2).1 H2.out.2.size, by rw [HTN.out]; exact HMO.out, ?_⟩, by simp only [intOf, Int.toNat_natCast]; omega⟩)
        all_goals exact HTU.out.1.two ((Turn.new HTU.out.2).trans (HX1.out.1.step hi2 HX1.out.2 H2.out.1 H2.out.2).2 fun _ h => .inl h)
      · have l1 : decide ((k : Int) < (n : Int)) = false := decide_eq_false (by omega)
        obtain rfl : k = n := by omega
        rw [show l.take k = l by rw [← HLEN.out, List.take_length]] at hset
        have HSE := Lib.hid (And.intro hset hturn)
        clear hset hturn hmost
        go_wp2
        go_ret
        refine ⟨rfl, ?_, HSE.out.2⟩
        unfold appl
        rw [HT.out]
        exact HSE.out.1
end Go.Proofs.Ytngncalbglbjdaa.Tbl
