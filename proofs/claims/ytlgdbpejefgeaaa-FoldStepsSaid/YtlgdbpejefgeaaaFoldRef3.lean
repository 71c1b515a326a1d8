/-
  The document's own Fold (qanatref07), over its set of tables: contract.
-/
import Derived.Test.YtlgdbpejefgeaaaFoldRef
import Derived.Test.YtlgdbpejefgeaaaFoldCode
import Derived.Test.YtlgdbpejefgeaaaTblRefApply
namespace Go.Proofs.Ytlgdbpejefgeaaa.Fold
set_option linter.unusedVariables false
set_option linter.unusedSimpArgs false
set_option maxRecDepth 100000
open Go.RowKit Base IdxMath FoldMath Foot
open TxnMath (Ch Tx)
open PChg (gval Cs)
open PTx
open Lsts (Lsts)
open Idx (Rs Rz rv)
open Tbl (RAt isT tab Most)
set_option linter.ambiguousOpen false

theorem tab_rowsL {m i : Nat} (hi : i < m) (cs : List Ch) : tab (rowsL m cs) (i : Int) = rows (i : Int) cs := Tbl.tab_get (by rw [rowsL_length]; exact hi) (rowsL_get hi cs)
theorem rowsL_nil (m : Nat) : rowsL m [] = List.replicate m [] := by
  apply List.ext_getElem?
  intro i
  rcases Nat.lt_or_ge i m with h | h
  · rw [rowsL_get h, List.getElem?_replicate, if_pos h]
    rfl
  · rw [List.getElem?_eq_none (by rw [rowsL_length]; exact h), List.getElem?_eq_none (by rw [List.length_replicate]; exact h)]
theorem rowsL_not {m : Nat} {cs : List Ch} {c : Ch} (h : isT (rowsL m cs) c.tbl = false) : rowsL m (cs ++ [c]) = rowsL m cs := by
  have h1 : ¬ (0 ≤ c.tbl ∧ c.tbl < (m : Int)) := by
    have := of_decide_eq_false h
    rwa [rowsL_length] at this
  apply List.ext_getElem?
  intro i
  rcases Nat.lt_or_ge i m with hi | hi
  · rw [rowsL_get hi, rowsL_get hi, rows_snoc]
    congr 1
    exact if_neg (by omega)
  · rw [List.getElem?_eq_none (by rw [rowsL_length]; exact hi), List.getElem?_eq_none (by rw [rowsL_length]; exact hi)]
theorem rowsL_do {m : Nat} {cs : List Ch} {c : Ch} (h : isT (rowsL m cs) c.tbl = true) : Tbl.appl (rowsL m cs) [c] = rowsL m (cs ++ [c]) := by
  obtain ⟨i, hi, hil⟩ := Tbl.isT_nat h
  rw [rowsL_length] at hil
  unfold Tbl.appl
  rw [if_pos (by simp [Tbl.allT, h])]
  show Tbl.do1 (rowsL m cs) c = _
  unfold Tbl.do1
  rw [hi, Int.toNat_natCast, tab_rowsL hil]
  apply List.ext_getElem?
  intro j
  rcases Nat.lt_or_ge j m with hj | hj
  · rw [rowsL_get hj, rows_snoc]
    by_cases hji : j = i
    · subst hji
      rw [List.getElem?_set_self (by rw [rowsL_length]; exact hj)]
      congr 1
      exact (if_pos hi).symm
    · rw [List.getElem?_set_ne (Ne.symm hji), rowsL_get hj]
      congr 1
      exact (if_neg (by omega)).symm
  · rw [List.getElem?_eq_none (by rw [List.length_set, rowsL_length]; exact hj), List.getElem?_eq_none (by rw [rowsL_length]; exact hj)]
theorem most_rowsL (m : Nat) (cs : List Ch) : Most (rowsL m cs) cs.length := by
  intro t
  cases ht : isT (rowsL m cs) t with
  | false => rw [Tbl.tab_none ht]; exact Nat.zero_le _
  | true =>
    obtain ⟨i, rfl, hi⟩ := Tbl.isT_nat ht
    rw [rowsL_length] at hi
    rw [tab_rowsL hi]
    exact rows_length _ _
/-- the document's set on its way -/
def RefI (w : World) (m q : Nat) (cs : List Ch) (wr : World) : Prop := RAt wr (fun x => w.heap.size ≤ x ∧ x < wr.heap.size) q (rowsL m cs) ∧ Below w.heap.size w wr
theorem rat_lsts {w : World} {R : Nat → Prop} {q : Nat} {T : List (List Rw)} (h : RAt w R q T) : ∃ b, w.cell? ⟨q, 0, none⟩ = some (.slice (some ⟨b, 0, none⟩) T.length T.length) ∧ Lsts Rz w w.heap.size (some ⟨b, 0, none⟩) T.length T.length T := by
  obtain ⟨b, cs, h⟩ := h
  have hz := h.len
  have hm := h.most
  refine ⟨b, h.box.cell 0, Lsts.row (vs := cs.toList) ⟨by rw [Array.length_toList]; omega, Nat.le_refl _, by omega, fun _ => ⟨b, 0, rfl, h.row.lt, fun j u hu => ?_⟩⟩ (by rw [Array.length_toList]; exact hz) fun i v l hv hl => ?_⟩
  · rw [Nat.zero_add, h.row.cell, ← Array.getElem?_toList]
    exact hu
  · rw [Array.getElem?_toList] at hv
    obtain ⟨A, n, c, e, ho, _⟩ := h.each i v l hv hl
    exact ⟨A, n, c, e, Idx.Rz.of_own ho⟩
theorem RefI.turn {w wr w1 w2 : World} {m q : Nat} {cs cs' : List Ch} (h : RefI w m q cs wr) (hb : Below wr.heap.size wr w1) (h2 : RAt w2 (Out (fun x => w.heap.size ≤ x ∧ x < wr.heap.size) w1 w2) q (rowsL m cs')) (ht : Turn (fun x => w.heap.size ≤ x ∧ x < wr.heap.size) w1 w2) : RefI w m q cs' w2 := by
  have e1 := hb.size
  have e2 := ht.size
  have e3 := h.2.size
  refine ⟨h2.mono fun i hi hx => ?_, (h.2.trans (hb.mono e3)).trans (ht.below (fun i hi => hi.1) (by omega))⟩
  rcases hx with hx | hx
  · exact ⟨hx.1, hi⟩
  · exact ⟨by omega, hi⟩
theorem RefI.new {w wr w1 : World} {m q : Nat} {cs : List Ch} (h : RefI w m q cs wr) (hb : Below wr.heap.size wr w1) : RefI w m q cs w1 :=
  ⟨(h.1.new hb).mono fun i hi hx => ⟨hx.1, hi⟩, h.2.trans (hb.mono h.2.size)⟩
set_option maxHeartbeats 6400000 in
theorem reffold_any (N : Int) (B : Nat) (A : Option Addr) (n c : Nat) (l : List Tx) (k : Int) (w : World) (hl : Txs w B A n c l) (hB : B ≤ w.heap.size) (hM : (chs l n).length < 1099511627774) :
    Calls Try.prog 13 #[.int .i64 N, .slice A n c, .int .i64 k] w (FoldR w (foldT N l k)) := by
  have hlen := hl.len
  have hle := hl.le
  have HL := Lib.hid (hl.more hB)
  have HM := Lib.hid hM
  clear hl hM
  by_cases h18 : 1 ≤ N ∧ N ≤ 8
  · obtain ⟨m, rfl⟩ := Int.eq_ofNat_of_zero_le (show 0 ≤ N by omega)
    have hm1 : 1 ≤ m := by omega
    have hm8 : m ≤ 8 := by omega
    rw [foldT_rows hm1 hm8, hlen]
    have hh := held_le k n
    obtain ⟨h, hh2⟩ : ∃ h, h = held k n := ⟨_, rfl⟩
    have HH := Lib.hid hh2
    rw [← hh2] at hh ⊢
    clear hh2 h18
    go_enter Try.func13, Try.ntmps13
    go_wp2_with fail
    refine (Tbl.refnew2_any m hm1 hm8 w).mono ?_
    rintro e w1 ⟨q, rfl, hr1, hb1⟩
    have HR1 : Hid (RefI w m q (chs l 0) w1) := by rw [chs_zero]; exact ⟨by rw [rowsL_nil]; exact hr1, hb1⟩
    clear hr1 hb1
    go_wp2_with fail
    go_loopw [8] (fun vi wr => ∃ i : Nat, vi = .int .i64 i ∧ i ≤ h ∧ RefI w m q (chs l i) wr) (fun vi _ => h - (Go.RowKit.intOf vi).toNat)
    case atStart => exact ⟨0, rfl, Nat.zero_le _, HR1.out⟩
    case round =>
      clear HR1
      obtain ⟨i, rfl, hi, hr⟩ := hrel
      have HR := Lib.hid hr
      clear hr
      go_wp2_with fail
      refine (refheld_any k n wr).mono ?_
      rintro e w3 ⟨rfl, rfl⟩
      rw [← HH.out]
      by_cases hih : i < h
      · have l1 : (i : Int) < (h : Int) := by omega
        obtain ⟨b, off, x, rfl, hbB, hx, A1, n1, c1, A2, n2, c2, x0, x1, x2, x3, x4, hcs, _⟩ := (HL.out.below HR.out.2).at_ (show i < n by omega)
        have HX := Lib.hid hx
        have HB := Lib.hid HR.out.2
        have HCS : Hid (∀ wx, Below w.heap.size w wx → Cs wx w.heap.size A1 n1 c1 x.chs) := fun wx hbx => Row.keep hcs fun q hq => (hbx.cell hq).trans (HB.out.cell hq).symm
        have HX2 : Hid (∀ wx, Below w.heap.size w wx → wx.cell? ⟨b, off + i * 5 + 2, none⟩ = some (.slice A1 n1 c1)) := fun wx hbx => ((hbx.cell hbB).trans (HB.out.cell hbB).symm).trans x2
        have hn1 := hcs.le
        have hl1 := hcs.len
        have l3 : (i : Int) < (n : Int) := by omega
        clear hx hcs x0 x1 x2 x3 x4
        go_wp2_with fail
        go_loopw [9] (fun vj wx => ∃ j : Nat, vj = .int .i64 j ∧ j ≤ n1 ∧ RefI w m q (chs l i ++ x.chs.take j) wx) (fun vj _ => n1 - (Go.RowKit.intOf vj).toNat)
        case atStart => exact ⟨0, rfl, Nat.zero_le _, by rw [List.take_zero, List.append_nil]; exact HR.out⟩
        case round =>
          clear HR HB
          obtain ⟨j, rfl, hj, hr⟩ := hrel
          have HR := Lib.hid hr
          have y2 := HX2.out wr hr.2
          clear hr
          by_cases hjn : j < n1
          · have l2 : (j : Int) < (n1 : Int) := by omega
            obtain ⟨b3, off3, f, rfl, hb3, c0, c1', c2', c3, hf, ht⟩ := (HCS.out wr HR.out.2).at_ hjn
            have HT : Hid (chs l i ++ x.chs.take (j + 1) = (chs l i ++ x.chs.take j) ++ [f]) := by show _ = _; rw [ht, ← List.append_assoc]
            have hroom : (chs l i ++ x.chs.take j).length < 1099511627774 := Nat.lt_trans (chs_room HX.out (show i < n by omega) (by omega)) HM.out
            generalize hCC : chs l i ++ x.chs.take j = cc at *
            clear hf ht hCC
            obtain ⟨ft, fk, fg, fv⟩ := f
            dsimp only at c0 c1' c2' c3
            have HB1 : Hid (Below wr.heap.size wr (wr.alloc (.cells #[.int .i64 ft, .int .i64 fk, .bool fg, .string fv] 44))) := (Below.refl _ _).alloc (Nat.le_refl _) _
            have HR1 := Lib.hid (HR.out.1.new HB1.out)
            have HI := Lib.hid (Tbl.refis_any _ q (rowsL m cc) ft _ HR1.out)
            cases hT : isT (rowsL m cc) ft with
            | true =>
              have HDO : Hid (Tbl.appl (rowsL m cc) [⟨ft, fk, fg, fv⟩] = rowsL m (cc ++ [⟨ft, fk, fg, fv⟩])) := rowsL_do hT
              have HALL : Hid (Tbl.allT (rowsL m cc) [⟨ft, fk, fg, fv⟩] = true) := by show _ = _; simp [Tbl.allT, hT]
              rw [hT] at HI
              clear hT
              go_wp2_with fail
              refine HI.out.mono ?_
              rintro e w4 ⟨rfl, rfl⟩
              have HB2 : Hid (Below wr.heap.size wr ((wr.alloc (.cells #[.int .i64 ft, .int .i64 fk, .bool fg, .string fv] 44)).alloc (.cells #[.int .i64 ft, .int .i64 fk, .bool fg, .string fv] 44))) := HB1.out.alloc HB1.out.size _
              have HBK : Hid (Blk ((wr.alloc (.cells #[.int .i64 ft, .int .i64 fk, .bool fg, .string fv] 44)).alloc (.cells #[.int .i64 ft, .int .i64 fk, .bool fg, .string fv] 44)) (wr.heap.size + 1) 44 #[.int .i64 ft, .int .i64 fk, .bool fg, .string fv]) := by
                have := Blk.new (wr.alloc (.cells #[.int .i64 ft, .int .i64 fk, .bool fg, .string fv] 44)) 44 #[.int .i64 ft, .int .i64 fk, .bool fg, .string fv]
                exact (by simpa using this : Blk _ (wr.heap.size + 1) _ _)
              go_wp2_with fail
              generalize ((wr.alloc (.cells #[.int .i64 ft, .int .i64 fk, .bool fg, .string fv] 44)).alloc (.cells #[.int .i64 ft, .int .i64 fk, .bool fg, .string fv] 44)) = W2 at HB2 HBK ⊢
              refine (Tbl.refapply_any (fun x => w.heap.size ≤ x ∧ x < wr.heap.size) q (rowsL m cc) cc.length (some ⟨wr.heap.size + 1, 0, none⟩) 1 1 [⟨ft, fk, fg, fv⟩] W2 (HR.out.1.new HB2.out) (fun wx hx => lit_one (x := ⟨ft, fk, fg, fv⟩) ((hx.block _ HBK.out.lt (fun hh => by omega)).trans HBK.out)) (most_rowsL _ _) (by omega)).mono ?_
              rintro e w4 ⟨rfl, hr4, ht4⟩
              rw [HDO.out] at hr4
              have HN := Lib.hid (HR.out.turn HB2.out hr4 ht4)
              rw [HALL.out]
              clear hr4 ht4
              go_wp2
              go_roundw
              case rel => exact ⟨j + 1, by go_num, by omega, by rw [HT.out]; exact HN.out⟩
              case measure => simp [Go.RowKit.intOf]; omega
            | false =>
              have HNO : Hid (RefI w m q (cc ++ [⟨ft, fk, fg, fv⟩]) (wr.alloc (.cells #[.int .i64 ft, .int .i64 fk, .bool fg, .string fv] 44))) := by
                have := HR.out.new HB1.out
                unfold RefI at this ⊢
                rwa [rowsL_not hT]
              rw [hT] at HI
              clear hT
              go_wp2_with fail
              refine HI.out.mono ?_
              rintro e w4 ⟨rfl, rfl⟩
              go_wp2
              go_roundw
              case rel => exact ⟨j + 1, by go_num, by omega, by rw [HT.out]; exact HNO.out⟩
              case measure => simp [Go.RowKit.intOf]; omega
          · obtain rfl : j = n1 := by omega
            have l2 : ¬ (j : Int) < (j : Int) := by omega
            have HE : Hid (chs l i ++ x.chs.take j = chs l (i + 1)) := by show _ = _; rw [List.take_of_length_le (by omega), ← chs_succ HX.out]
            go_wp2
            go_roundw
            case rel => exact ⟨i + 1, by go_num, by omega, by rw [← HE.out]; exact HR.out⟩
            case measure => simp [Go.RowKit.intOf]; omega
      · have l1 : ¬ (i : Int) < (h : Int) := by omega
        obtain rfl : i = h := by omega
        obtain ⟨b, d0, hls⟩ := rat_lsts HR.out.1
        rw [rowsL_length] at d0 hls
        have HLS := Lib.hid hls
        have HB := Lib.hid HR.out.2
        clear hls
        go_wp2
        go_ret
        exact ⟨_, _, _, rfl, HLS.out, HB.out⟩
  · rw [foldT_not h18]
    have HR := Lib.hid ((Tbl.refnewset_any N w).mono (R' := fun e w' => e = .returned (.pointer none) ∧ w' = w) fun e w' hh => by unfold Tbl.RefMade at hh; rwa [if_neg h18] at hh)
    go_enter Try.func13, Try.ntmps13
    go_wp2_with fail
    refine HR.out.mono ?_
    rintro e w1 ⟨rfl, rfl⟩
    go_wp2
    go_ret
    exact foldR_none _
end Go.Proofs.Ytlgdbpejefgeaaa.Fold
