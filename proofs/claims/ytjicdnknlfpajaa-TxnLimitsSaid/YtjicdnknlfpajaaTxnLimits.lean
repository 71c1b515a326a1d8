/-
  The walk of the statement TxnLimits: it answers true, whatever the input, and writes nothing that was there.
-/
import Derived.Test.YtjicdnknlfpajaaTxnLaws
import Derived.Test.YtjicdnknlfpajaaTxnTxn
import Derived.Deep.DeepCutAuto
import Derived.Deep.CutBlock
namespace Go.Proofs.Ytjicdnknlfpajaa.Txn
set_option linter.unusedVariables false
set_option maxRecDepth 100000
open Go.RowKit Base FieldMath TxnMath
open Go.Proofs.Ytjicdnknlfpajaa.Field (ret_bool eb Flds one_byte modZ modZ_lt mod_any)
set_option linter.ambiguousOpen false
set_option linter.unusedSimpArgs false

def one1 : Ch := ⟨0, 1, false, ⟨#[]⟩⟩
def mixC (j k : Nat) : List Ch := List.replicate j one1 ++ List.replicate (k - j) noCh
theorem mixC_length {j k : Nat} (h : j ≤ k) : (mixC j k).length = k := by rw [mixC, List.length_append, List.length_replicate, List.length_replicate]; omega
theorem mixC_get {j k : Nat} (h : j < k) : (mixC j k)[j]? = some noCh := by
  rw [mixC, List.getElem?_append_right (by rw [List.length_replicate]; omega), List.length_replicate, Nat.sub_self, List.getElem?_replicate, if_pos (by omega)]
theorem mixC_set {j k : Nat} (h : j < k) : (mixC j k).set j one1 = mixC (j + 1) k := by
  rw [mixC, List.set_append_right _ _ (by rw [List.length_replicate]; omega), List.length_replicate, Nat.sub_self, mixC]
  obtain ⟨q, hq⟩ : ∃ q, k - j = q + 1 := ⟨k - j - 1, by omega⟩
  rw [hq, List.replicate_succ, List.set_cons_zero, List.replicate_succ', List.append_assoc, show k - (j + 1) = q by omega]
  rfl
theorem mixC_all (k : Nat) : mixC k k = List.replicate k one1 := by rw [mixC, Nat.sub_self]; simp
theorem made_chs (k : Nat) : (madeCells #[.int .i64 0, .int .i64 0, .bool false, .string ⟨#[]⟩] (k * 4)).toList = cv (List.replicate k noCh) := by
  apply List.ext_getElem?
  intro j
  by_cases hj : j < k * 4
  · have h1 : (List.replicate k noCh)[j / 4]? = some noCh := by rw [List.getElem?_replicate, if_pos (by omega)]
    have h2 := cv_get _ _ _ h1 (j % 4) (by omega)
    rw [show j / 4 * 4 + j % 4 = j by omega] at h2
    rw [h2]
    have h3 : j % 4 < 4 := by omega
    simp [madeCells, hj]
    generalize j % 4 = q at h3
    match q, h3 with
    | 0, _ => rfl
    | 1, _ => rfl
    | 2, _ => rfl
    | 3, _ => rfl
  · rw [List.getElem?_eq_none (by rw [Array.length_toList, size_madeCells]; omega), List.getElem?_eq_none (by rw [cv_length, List.length_replicate]; omega)]
theorem cv_set (l : List Ch) (j : Nat) (f : Ch) (h : j < l.length) : ((((cv l).set (j * 4) (.int .i64 f.tbl)).set (j * 4 + 1) (.int .i64 f.key)).set (j * 4 + 2) (.bool f.gone)).set (j * 4 + 3) (.string f.val) = cv (l.set j f) := by
  induction l generalizing j with
  | nil => simp at h
  | cons g l ih =>
    cases j with
    | zero => rfl
    | succ j =>
      rw [List.length_cons] at h
      rw [List.set_cons_succ]
      show ((((ccells g ++ cv l).set _ _).set _ _).set _ _).set _ _ = ccells g ++ cv (l.set j f)
      rw [← ih j (by omega), List.set_append_right _ _ (by show 4 ≤ (j + 1) * 4; omega), List.set_append_right _ _ (by show 4 ≤ (j + 1) * 4 + 1; omega), List.set_append_right _ _ (by show 4 ≤ (j + 1) * 4 + 2; omega), List.set_append_right _ _ (by show 4 ≤ (j + 1) * 4 + 3; omega)]
      congr 1
      rw [show (j + 1) * 4 - (ccells g).length = j * 4 by show (j + 1) * 4 - 4 = _; omega, show (j + 1) * 4 + 1 - (ccells g).length = j * 4 + 1 by show (j + 1) * 4 + 1 - 4 = _; omega, show (j + 1) * 4 + 2 - (ccells g).length = j * 4 + 2 by show (j + 1) * 4 + 2 - 4 = _; omega, show (j + 1) * 4 + 3 - (ccells g).length = j * 4 + 3 by show (j + 1) * 4 + 3 - 4 = _; omega]
theorem made_strs (k : Nat) : (madeCells #[.string ⟨#[]⟩] k).toList = sv (List.replicate k ⟨#[]⟩) := by rw [toList_madeCells_one, sv, List.map_replicate]
theorem lsn_one : mayLsn 1 = true := by rfl
theorem may_chs {l : List Ch} {b : Bool} (h : mayChs l = b) : Tx.may ⟨1, 1, l, [], 0⟩ = b := by rw [may_one lsn_one, h]; cases b <;> rfl
theorem may_sigs {l : List ByteArray} {b : Bool} (h : maySigs l = b) : Tx.may ⟨1, 1, [], l, 0⟩ = b := by rw [may_one lsn_one, h]; cases b <;> rfl
theorem chs_rep (K : Nat) : mayChs (List.replicate K one1) = decide (K ≤ 16) := by
  unfold mayChs
  rw [List.length_replicate, List.all_eq_true.2 (fun f hf => by rw [(List.mem_replicate.1 hf).2]; rfl), Bool.and_true]
theorem sigs_rep (K : Nat) : maySigs (List.replicate K ⟨#[]⟩) = decide (K ≤ 2) := by
  unfold maySigs
  rw [List.length_replicate, List.all_eq_true.2 (fun f hf => by rw [(List.mem_replicate.1 hf).2]; rfl), Bool.and_true]
theorem chs_one (f : Ch) : mayChs [f] = f.may 8 := by unfold mayChs; simp
theorem sigs_one (s : ByteArray) : maySigs [s] = decide (s.size ≤ 40) := by unfold maySigs; simp
theorem ch_val (s : ByteArray) : Ch.may 8 ⟨0, 1, false, s⟩ = decide (s.size ≤ 32) := by unfold Ch.may; simp
theorem ch_key (k : Int) (h : 1 ≤ k) : Ch.may 8 ⟨0, k, false, ⟨#[]⟩⟩ = decide (k ≤ 1099511627776) := by unfold Ch.may; simp [h, ByteArray.size]
theorem ch_tbl (t : Int) (h : 0 ≤ t) : Ch.may 8 ⟨t, 1, false, ⟨#[]⟩⟩ = decide (t < 8) := by unfold Ch.may; simp [h, ByteArray.size]
theorem may_lsn2 (n : Int) (h : 1 ≤ n) : Tx.may ⟨n, 1, [], [], 0⟩ = decide (n ≤ 1099511627776) := by
  by_cases h2 : n ≤ 1099511627776
  · rw [may_one (mayLsn_iff.2 ⟨h, h2⟩), decide_eq_true h2]; rfl
  · rw [may_lsn (by unfold mayLsn; rw [decide_eq_false h2, Bool.and_false]), decide_eq_false h2]
/-- what the statement made: a transaction in a block that may be just where d is below 2, and a change's block behind it -/
def LimEnd (w : World) (d : Nat) (wx : World) (t : Tx) (cs : Array Value) : Prop := Blk wx w.heap.size 25 cs ∧ (∃ y0 y1 y2 y3, Blk wx (w.heap.size + 1) 27 #[y0, y1, y2, y3]) ∧ TxIn wx wx.heap.size t (.agg cs) ∧ t.may = decide (d < 2) ∧ Below w.heap.size w wx
theorem own_set {w1 : World} {base n : Nat} {e : TypeId} {size : Nat} {v : Value} {xs : List Value} (h : w1.ownsRow base e size v n xs) {p : Addr} (hp : p.block < base) (u : Value) : (w1.setCell p u).ownsRow base e size v n xs := h.kept (only_setCell (World.grownBy.refl _ (some p.block)) (.inl rfl) u) (.inr fun e => by have := (h.lt _ e).1; omega)
def LRel (w : World) (K : Nat) (g : Nat) (i : Value) (wr : World) : Prop := ∃ j : Nat, j ≤ K ∧ i = .int .i64 j ∧ wr.ownsRow (w.heap.size + 2) 27 4 (.slice (some ⟨g, 0, none⟩) K K) K (cv (mixC j K)) ∧ Blk wr w.heap.size 25 #[.int .i64 1, .int .i64 1, .slice (some ⟨g, 0, none⟩) K K, .slice none 0 0, .int .i64 0] ∧ Blk wr (w.heap.size + 1) 27 #[.int .i64 0, .int .i64 1, .bool false, .string ⟨#[]⟩] ∧ Below w.heap.size w wr

set_option maxHeartbeats 12800000 in
theorem limits_walk (n k : Int) (gone : Bool) (w : World) :
    Calls Try.prog 7 #[.int .i64 n, .int .i64 k, .bool gone] w fun e w' => e = .returned (.bool true) ∧ Below w.heap.size w w' := by
  have hk3 := modZ_lt n (n := 3) (by omega)
  have hk7 := modZ_lt k (n := 7) (by omega)
  have HT : Hid (Blk ((w.alloc (.cells #[.int .i64 1, .int .i64 1, .slice none 0 0, .slice none 0 0, .int .i64 0] 25)).alloc (.cells #[.int .i64 0, .int .i64 1, .bool false, .string ⟨#[]⟩] 27)) w.heap.size 25 #[.int .i64 1, .int .i64 1, .slice none 0 0, .slice none 0 0, .int .i64 0]) := (Blk.new _ _ _).alloc _
  have HC : Hid (Blk ((w.alloc (.cells #[.int .i64 1, .int .i64 1, .slice none 0 0, .slice none 0 0, .int .i64 0] 25)).alloc (.cells #[.int .i64 0, .int .i64 1, .bool false, .string ⟨#[]⟩] 27)) (w.heap.size + 1) 27 #[.int .i64 0, .int .i64 1, .bool false, .string ⟨#[]⟩]) := by have := Blk.new (w.alloc (.cells #[.int .i64 1, .int .i64 1, .slice none 0 0, .slice none 0 0, .int .i64 0] 25)) 27 #[.int .i64 0, .int .i64 1, .bool false, .string ⟨#[]⟩]; exact Lib.hid (by simpa using this)
  have HW : Hid (Below w.heap.size w ((w.alloc (.cells #[.int .i64 1, .int .i64 1, .slice none 0 0, .slice none 0 0, .int .i64 0] 25)).alloc (.cells #[.int .i64 0, .int .i64 1, .bool false, .string ⟨#[]⟩] 27))) := ((Below.refl _ _).alloc (Nat.le_refl _) _).alloc (by simp) _
  go_enter Try.func7, Try.ntmps7
  go_wp2_with fail
  refine (mod_any n 3 _ (by omega) (by omega)).mono ?_
  rintro e w0 ⟨rfl, rfl⟩
  generalize modZ n 3 = d3 at hk3
  go_wp2_with fail
  refine (mod_any k 7 _ (by omega) (by omega)).mono ?_
  rintro e w0 ⟨rfl, rfl⟩
  generalize modZ k 7 = q at hk7
  go_upto_block 0 with fail
  generalize ((w.alloc (.cells #[.int .i64 1, .int .i64 1, .slice none 0 0, .slice none 0 0, .int .i64 0] 25)).alloc (.cells #[.int .i64 0, .int .i64 1, .bool false, .string ⟨#[]⟩] 27)) = W at HT HC HW ⊢
  have hT : w.heap.size < W.heap.size := HT.out.lt
  have hC : w.heap.size + 1 < W.heap.size := HC.out.lt
  have x0 : W.cell? ⟨w.heap.size, 0, none⟩ = some (.int .i64 1) := HT.out.cell 0
  have x1 : W.cell? ⟨w.heap.size, 1, none⟩ = some (.int .i64 1) := HT.out.cell 1
  have x2 : W.cell? ⟨w.heap.size, 2, none⟩ = some (.slice none 0 0) := HT.out.cell 2
  have x3 : W.cell? ⟨w.heap.size, 3, none⟩ = some (.slice none 0 0) := HT.out.cell 3
  have x4 : W.cell? ⟨w.heap.size, 4, none⟩ = some (.int .i64 0) := HT.out.cell 4
  have y0 : W.cell? ⟨w.heap.size + 1, 0, none⟩ = some (.int .i64 0) := HC.out.cell 0
  have y1 : W.cell? ⟨w.heap.size + 1, 1, none⟩ = some (.int .i64 1) := HC.out.cell 1
  have y2 : W.cell? ⟨w.heap.size + 1, 2, none⟩ = some (.bool false) := HC.out.cell 2
  have y3 : W.cell? ⟨w.heap.size + 1, 3, none⟩ = some (.string ⟨#[]⟩) := HC.out.cell 3
  have fx0 := HT.out.frozen 0
  have fx2 := HT.out.frozen 2
  have fx3 := HT.out.frozen 3
  have fy0 := HC.out.frozen 0
  have fy1 := HC.out.frozen 1
  have fy3 := HC.out.frozen 3
  go_cut [] (fun wx => ∃ t A n c A' n' c', LimEnd w d3 wx t #[.int .i64 t.lsn, .int .i64 t.kind, .slice A n c, .slice A' n' c', .int .i64 t.mark])
  case first =>
    rcases (show q = 0 ∨ q = 1 ∨ q = 2 ∨ q = 3 ∨ q = 4 ∨ q = 5 ∨ q = 6 by omega) with rfl | rfl | rfl | rfl | rfl | rfl | rfl
    case' inl =>
      go_wp2_with (first
        | (refine wpList_make_elem _ rfl (.tmp 26) (.tmp 26) rfl ech (w.heap.size + 2) .i64 .i64 _ _ (d3 + 15) rfl rfl (by omega) (by omega) (by omega) (by omega) (by exact hC) ?_
           intro w1 ho1 hb1
           replace ho1 : w1.ownsRow (w.heap.size + 2) 27 4 (.slice (some ⟨W.heap.size, 0, none⟩) (d3 + 15) (d3 + 15)) (d3 + 15) (madeCells #[.int .i64 0, .int .i64 0, .bool false, .string ⟨#[]⟩] ((d3 + 15) * 4)).toList := ho1
           rw [made_chs] at ho1
           have HO1 := Lib.hid ho1
           have hx1 : Blk w1 w.heap.size 25 #[.int .i64 1, .int .i64 1, .slice none 0 0, .slice none 0 0, .int .i64 0] := HT.out.below hb1 (by omega)
           have HX1 := Lib.hid hx1
           have hc1 := HC.out.below hb1 (by omega)
           have HC1 := Lib.hid hc1
           have HB1 := Lib.hid (HW.out.trans (hb1.mono (by omega)))
           have g2 : w1.cell? ⟨w.heap.size, 2, none⟩ = some (.slice none 0 0) := hx1.cell 2
           have gf2 := hx1.frozen 2
           clear ho1 hb1 hx1 hc1 x0 x1 x2 x3 x4 y0 y1 y2 y3)
        | fail)
      obtain ⟨K, hK⟩ : ∃ K, K = d3 + 15 := ⟨_, rfl⟩
      have HKK := Lib.hid hK
      rw [← hK] at HO1 ⊢
      obtain ⟨g, hg⟩ : ∃ g, g = W.heap.size := ⟨_, rfl⟩
      rw [← hg] at HO1 ⊢
      have hKl : K ≤ 17 := by omega
      have hgl : w.heap.size + 1 < g := by omega
      clear hK hg
      go_loopw [10] (fun i wr => LRel w K g i wr) (fun i _ => K - (intOf i).toNat)
      case atStart => exact ⟨0, Nat.zero_le _, rfl, own_set (by rw [show mixC 0 K = List.replicate K noCh by simp [mixC]]; exact HO1.out) (by simp) _, HX1.out.set_ 2 _, HC1.out.far (by simp) _, HB1.out.setCell (by exact Nat.le_refl _) _⟩
      case round =>
        obtain ⟨j, hj, rfl, ho, hbx, hcx, hbel⟩ := hrel
        have z2 : wr.cell? ⟨w.heap.size, 2, none⟩ = some (.slice (some ⟨g, 0, none⟩) K K) := hbx.cell 2
        have c0 : wr.cell? ⟨w.heap.size + 1, 0, none⟩ = some (.int .i64 0) := hcx.cell 0
        have c1 : wr.cell? ⟨w.heap.size + 1, 1, none⟩ = some (.int .i64 1) := hcx.cell 1
        have c2 : wr.cell? ⟨w.heap.size + 1, 2, none⟩ = some (.bool false) := hcx.cell 2
        have c3 : wr.cell? ⟨w.heap.size + 1, 3, none⟩ = some (.string ⟨#[]⟩) := hcx.cell 3
        have HO := Lib.hid ho
        have HBX := Lib.hid hbx
        have HCX := Lib.hid hcx
        have HB := Lib.hid hbel
        clear ho hbx hcx hbel
        by_cases hlt : j < K
        · have q0 : wr.cell? ⟨g, j * 4, none⟩ = some (.int .i64 0) := by have := HO.out.cellAt (j * 4 + 0) (by omega); rw [cv_get _ _ _ (mixC_get hlt) 0 (by omega)] at this; exact this
          have q1 : wr.cell? ⟨g, j * 4 + 1, none⟩ = some (.int .i64 0) := by have := HO.out.cellAt (j * 4 + 1) (by omega); rw [cv_get _ _ _ (mixC_get hlt) 1 (by omega)] at this; exact this
          have q2 : wr.cell? ⟨g, j * 4 + 2, none⟩ = some (.bool false) := by have := HO.out.cellAt (j * 4 + 2) (by omega); rw [cv_get _ _ _ (mixC_get hlt) 2 (by omega)] at this; exact this
          have q3 : wr.cell? ⟨g, j * 4 + 3, none⟩ = some (.string ⟨#[]⟩) := by have := HO.out.cellAt (j * 4 + 3) (by omega); rw [cv_get _ _ _ (mixC_get hlt) 3 (by omega)] at this; exact this
          have f0 := HO.out.frozenAt (j * 4)
          have f1 := HO.out.frozenAt (j * 4 + 1)
          have f2 := HO.out.frozenAt (j * 4 + 2)
          have f3 := HO.out.frozenAt (j * 4 + 3)
          have s0 := HO.out.stored (j * 4) (.int .i64 one1.tbl)
          have s1 := s0.1.stored (j * 4 + 1) (.int .i64 one1.key)
          have s2 := s1.1.stored (j * 4 + 2) (.bool one1.gone)
          have s3 := s2.1.stored (j * 4 + 3) (.string one1.val)
          have hs := s3.1
          rw [cv_set _ _ _ (by rw [mixC_length (by omega)]; exact hlt), mixC_set hlt] at hs
          have HS := Lib.hid hs
          have hg1 : w.heap.size ≠ g := by omega
          have hg2 : w.heap.size + 1 ≠ g := by omega
          have hg3 : w.heap.size ≤ g := by omega
          have HBS := Lib.hid ((((HB.out.setCell (p := ⟨g, j * 4, none⟩) hg3 (.int .i64 one1.tbl)).setCell (p := ⟨g, j * 4 + 1, none⟩) hg3 (.int .i64 one1.key)).setCell (p := ⟨g, j * 4 + 2, none⟩) hg3 (.bool one1.gone)).setCell (p := ⟨g, j * 4 + 3, none⟩) hg3 (.string one1.val))
          have HXS := Lib.hid ((((HBX.out.far (p := ⟨g, j * 4, none⟩) hg1 (.int .i64 one1.tbl)).far (p := ⟨g, j * 4 + 1, none⟩) hg1 (.int .i64 one1.key)).far (p := ⟨g, j * 4 + 2, none⟩) hg1 (.bool one1.gone)).far (p := ⟨g, j * 4 + 3, none⟩) hg1 (.string one1.val))
          have HCS := Lib.hid ((((HCX.out.far (p := ⟨g, j * 4, none⟩) hg2 (.int .i64 one1.tbl)).far (p := ⟨g, j * 4 + 1, none⟩) hg2 (.int .i64 one1.key)).far (p := ⟨g, j * 4 + 2, none⟩) hg2 (.bool one1.gone)).far (p := ⟨g, j * 4 + 3, none⟩) hg2 (.string one1.val))
          clear s0 s1 s2 s3 hs
          go_wp2
          go_roundw
          case rel => exact ⟨j + 1, by omega, by go_num, HS.out, HXS.out, HCS.out, HBS.out⟩
          case measure => simp [intOf]; omega
        · obtain rfl : j = K := by omega
          have ho2 := HO.out
          rw [mixC_all] at ho2
          have HF := Lib.hid (Row.of_own ho2)
          clear ho2
          go_wp2_with fail
          go_meet
          exact ⟨⟨1, 1, List.replicate j one1, [], 0⟩, some ⟨g, 0, none⟩, j, j, none, 0, 0, HBX.out, ⟨_, _, _, _, HCX.out⟩, ⟨some ⟨g, 0, none⟩, j, j, none, 0, 0, rfl, HF.out, Row.nil_ _ _ _⟩, (may_chs (chs_rep _)).trans (decide_eq_decide.2 (by have := HKK.out; omega)), HB.out⟩
    case' inr.inl =>
      go_wp2_with (first
        | (refine wpList_make_elem _ rfl (.tmp 44) (.tmp 44) rfl estr (w.heap.size + 2) .i64 .i64 _ _ (d3 + 1) rfl rfl (by omega) (by omega) (by omega) (by omega) (by exact hC) ?_
           intro w1 ho1 hb1
           replace ho1 : w1.ownsRow (w.heap.size + 2) 9 1 (.slice (some ⟨W.heap.size, 0, none⟩) (d3 + 1) (d3 + 1)) (d3 + 1) (madeCells #[.string ⟨#[]⟩] ((d3 + 1) * 1)).toList := ho1
           rw [Nat.mul_one, made_strs] at ho1
           have HO1 := Lib.hid ho1
           have hx1 : Blk w1 w.heap.size 25 #[.int .i64 1, .int .i64 1, .slice none 0 0, .slice none 0 0, .int .i64 0] := HT.out.below hb1 (by omega)
           have HX1 := Lib.hid hx1
           have hc1 := HC.out.below hb1 (by omega)
           have HC1 := Lib.hid hc1
           have HB1 := Lib.hid (HW.out.trans (hb1.mono (by omega)))
           have g0 : w1.cell? ⟨w.heap.size, 0, none⟩ = some (.int .i64 1) := hx1.cell 0
           have g1 : w1.cell? ⟨w.heap.size, 1, none⟩ = some (.int .i64 1) := hx1.cell 1
           have g2 : w1.cell? ⟨w.heap.size, 2, none⟩ = some (.slice none 0 0) := hx1.cell 2
           have g3 : w1.cell? ⟨w.heap.size, 3, none⟩ = some (.slice none 0 0) := hx1.cell 3
           have g4 : w1.cell? ⟨w.heap.size, 4, none⟩ = some (.int .i64 0) := hx1.cell 4
           have gf2 := hx1.frozen 2
           have gf3 := hx1.frozen 3
           have j0 : w1.cell? ⟨w.heap.size + 1, 0, none⟩ = some (.int .i64 0) := hc1.cell 0
           have j1 : w1.cell? ⟨w.heap.size + 1, 1, none⟩ = some (.int .i64 1) := hc1.cell 1
           have j2 : w1.cell? ⟨w.heap.size + 1, 2, none⟩ = some (.bool false) := hc1.cell 2
           have j3 : w1.cell? ⟨w.heap.size + 1, 3, none⟩ = some (.string ⟨#[]⟩) := hc1.cell 3
           have jf3 := hc1.frozen 3
           have hz1 : w.heap.size + 1 < w1.heap.size := hc1.lt
           have hz0 : w.heap.size < w1.heap.size := by omega
           clear ho1 hb1 hx1 hc1 x0 x1 x2 x3 x4 y0 y1 y2 y3)
        | fail)
      go_meet
      exact ⟨⟨1, 1, [], List.replicate (d3 + 1) ⟨#[]⟩, 0⟩, none, 0, 0, some ⟨W.heap.size, 0, none⟩, d3 + 1, d3 + 1, HX1.out.set_ 3 _, ⟨_, _, _, _, HC1.out.far (by simp) _⟩, ⟨none, 0, 0, some ⟨W.heap.size, 0, none⟩, d3 + 1, d3 + 1, rfl, Row.nil_ _ _ _, Row.of_own (own_set HO1.out (by simp) _)⟩, (may_sigs (sigs_rep _)).trans (decide_eq_decide.2 (by omega)), HB1.out.setCell (by exact Nat.le_refl _) _⟩
    case' inr.inr.inl =>
      go_wp2_with (first
        | (refine wpList_make_elem _ rfl (.tmp 50) (.tmp 50) rfl eb (w.heap.size + 2) .i64 .i64 _ _ (d3 + 31) rfl rfl (by omega) (by omega) (by omega) (by omega) (by exact hC) ?_
           intro w1 ho1 hb1
           replace ho1 : w1.ownsRow (w.heap.size + 2) 5 1 (.slice (some ⟨W.heap.size, 0, none⟩) (d3 + 31) (d3 + 31)) (d3 + 31) (madeCells #[.int .u8 0] ((d3 + 31) * 1)).toList := ho1
           rw [Nat.mul_one, made_bytes] at ho1
           have hcv := (Bytes.of_own ho1).str (P := Try.prog) Try.underlying30 Try.underlying5 Try.underlying9
           have hx1 : Blk w1 w.heap.size 25 #[.int .i64 1, .int .i64 1, .slice none 0 0, .slice none 0 0, .int .i64 0] := HT.out.below hb1 (by omega)
           have HX1 := Lib.hid hx1
           have hc1 := HC.out.below hb1 (by omega)
           have HC1 := Lib.hid hc1
           have HB1 := Lib.hid (HW.out.trans (hb1.mono (by omega)))
           have g0 : w1.cell? ⟨w.heap.size, 0, none⟩ = some (.int .i64 1) := hx1.cell 0
           have g1 : w1.cell? ⟨w.heap.size, 1, none⟩ = some (.int .i64 1) := hx1.cell 1
           have g2 : w1.cell? ⟨w.heap.size, 2, none⟩ = some (.slice none 0 0) := hx1.cell 2
           have g3 : w1.cell? ⟨w.heap.size, 3, none⟩ = some (.slice none 0 0) := hx1.cell 3
           have g4 : w1.cell? ⟨w.heap.size, 4, none⟩ = some (.int .i64 0) := hx1.cell 4
           have gf2 := hx1.frozen 2
           have gf3 := hx1.frozen 3
           have j0 : w1.cell? ⟨w.heap.size + 1, 0, none⟩ = some (.int .i64 0) := hc1.cell 0
           have j1 : w1.cell? ⟨w.heap.size + 1, 1, none⟩ = some (.int .i64 1) := hc1.cell 1
           have j2 : w1.cell? ⟨w.heap.size + 1, 2, none⟩ = some (.bool false) := hc1.cell 2
           have j3 : w1.cell? ⟨w.heap.size + 1, 3, none⟩ = some (.string ⟨#[]⟩) := hc1.cell 3
           have jf3 := hc1.frozen 3
           have hz1 : w.heap.size + 1 < w1.heap.size := hc1.lt
           have hz0 : w.heap.size < w1.heap.size := by omega
           clear ho1 hb1 hx1 hc1 x0 x1 x2 x3 x4 y0 y1 y2 y3)
        | fail)
      go_meet
      exact ⟨⟨1, 1, [⟨0, 1, false, (str (List.replicate (d3 + 31) 0))⟩], [], 0⟩, some ⟨w1.heap.size, 0, none⟩, 1, 1, none, 0, 0, ((HX1.out.far (by simp) _).set_ 2 _).alloc _, ⟨_, _, _, _, ((HC1.out.set_ 3 _).far (by simp) _).alloc _⟩, ⟨some ⟨w1.heap.size, 0, none⟩, 1, 1, none, 0, 0, rfl, Row.more (one_ch _ ⟨0, 1, false, (str (List.replicate (d3 + 31) 0))⟩ (by simp)) (by simp), Row.nil_ _ _ _⟩, ((may_chs (chs_one _)).trans (ch_val _)).trans (decide_eq_decide.2 (by rw [str_size, List.length_replicate]; omega)), ((HB1.out.setCell (by exact Nat.le_succ _) _).setCell (by exact Nat.le_refl _) _).alloc (by simp; omega) _⟩
    case' inr.inr.inr.inl =>
      go_wp2_with (first
        | (refine wpList_make_elem _ rfl (.tmp 60) (.tmp 60) rfl eb (w.heap.size + 2) .i64 .i64 _ _ (d3 + 39) rfl rfl (by omega) (by omega) (by omega) (by omega) (by exact hC) ?_
           intro w1 ho1 hb1
           replace ho1 : w1.ownsRow (w.heap.size + 2) 5 1 (.slice (some ⟨W.heap.size, 0, none⟩) (d3 + 39) (d3 + 39)) (d3 + 39) (madeCells #[.int .u8 0] ((d3 + 39) * 1)).toList := ho1
           rw [Nat.mul_one, made_bytes] at ho1
           have hcv := (Bytes.of_own ho1).str (P := Try.prog) Try.underlying30 Try.underlying5 Try.underlying9
           have hx1 : Blk w1 w.heap.size 25 #[.int .i64 1, .int .i64 1, .slice none 0 0, .slice none 0 0, .int .i64 0] := HT.out.below hb1 (by omega)
           have HX1 := Lib.hid hx1
           have hc1 := HC.out.below hb1 (by omega)
           have HC1 := Lib.hid hc1
           have HB1 := Lib.hid (HW.out.trans (hb1.mono (by omega)))
           have g0 : w1.cell? ⟨w.heap.size, 0, none⟩ = some (.int .i64 1) := hx1.cell 0
           have g1 : w1.cell? ⟨w.heap.size, 1, none⟩ = some (.int .i64 1) := hx1.cell 1
           have g2 : w1.cell? ⟨w.heap.size, 2, none⟩ = some (.slice none 0 0) := hx1.cell 2
           have g3 : w1.cell? ⟨w.heap.size, 3, none⟩ = some (.slice none 0 0) := hx1.cell 3
           have g4 : w1.cell? ⟨w.heap.size, 4, none⟩ = some (.int .i64 0) := hx1.cell 4
           have gf2 := hx1.frozen 2
           have gf3 := hx1.frozen 3
           have j0 : w1.cell? ⟨w.heap.size + 1, 0, none⟩ = some (.int .i64 0) := hc1.cell 0
           have j1 : w1.cell? ⟨w.heap.size + 1, 1, none⟩ = some (.int .i64 1) := hc1.cell 1
           have j2 : w1.cell? ⟨w.heap.size + 1, 2, none⟩ = some (.bool false) := hc1.cell 2
           have j3 : w1.cell? ⟨w.heap.size + 1, 3, none⟩ = some (.string ⟨#[]⟩) := hc1.cell 3
           have jf3 := hc1.frozen 3
           have hz1 : w.heap.size + 1 < w1.heap.size := hc1.lt
           have hz0 : w.heap.size < w1.heap.size := by omega
           clear ho1 hb1 hx1 hc1 x0 x1 x2 x3 x4 y0 y1 y2 y3)
        | fail)
      go_meet
      exact ⟨⟨1, 1, [], [(str (List.replicate (d3 + 39) 0))], 0⟩, none, 0, 0, some ⟨w1.heap.size, 0, none⟩, 1, 1, (HX1.out.set_ 3 _).alloc _, ⟨_, _, _, _, (HC1.out.far (by simp) _).alloc _⟩, ⟨none, 0, 0, some ⟨w1.heap.size, 0, none⟩, 1, 1, rfl, Row.nil_ _ _ _, Row.more (one_str _ (str (List.replicate (d3 + 39) 0)) (by simp)) (by simp)⟩, (may_sigs (sigs_one _)).trans (decide_eq_decide.2 (by rw [str_size, List.length_replicate]; omega)), (HB1.out.setCell (by exact Nat.le_refl _) _).alloc (by simp; omega) _⟩
    case' inr.inr.inr.inr.inl =>
      go_wp2_with fail
      go_meet
      exact ⟨⟨1, 1, [⟨0, (1099511627776 + ((d3 : Int) - 1)), false, ⟨#[]⟩⟩], [], 0⟩, some ⟨W.heap.size, 0, none⟩, 1, 1, none, 0, 0, ((HT.out.far (by simp) _).set_ 2 _).alloc _, ⟨_, _, _, _, ((HC.out.set_ 1 _).far (by simp) _).alloc _⟩, ⟨some ⟨W.heap.size, 0, none⟩, 1, 1, none, 0, 0, rfl, Row.more (one_ch _ ⟨0, (1099511627776 + ((d3 : Int) - 1)), false, ⟨#[]⟩⟩ (by simp)) (by simp), Row.nil_ _ _ _⟩, ((may_chs (chs_one _)).trans (ch_key _ (by omega))).trans (decide_eq_decide.2 (by omega)), ((HW.out.setCell (by exact Nat.le_succ _) _).setCell (by exact Nat.le_refl _) _).alloc (by simp; omega) _⟩
    case' inr.inr.inr.inr.inr.inl =>
      go_wp2_with fail
      go_meet
      exact ⟨⟨1, 1, [⟨(7 + ((d3 : Int) - 1)), 1, false, ⟨#[]⟩⟩], [], 0⟩, some ⟨W.heap.size, 0, none⟩, 1, 1, none, 0, 0, ((HT.out.far (by simp) _).set_ 2 _).alloc _, ⟨_, _, _, _, ((HC.out.set_ 0 _).far (by simp) _).alloc _⟩, ⟨some ⟨W.heap.size, 0, none⟩, 1, 1, none, 0, 0, rfl, Row.more (one_ch _ ⟨(7 + ((d3 : Int) - 1)), 1, false, ⟨#[]⟩⟩ (by simp)) (by simp), Row.nil_ _ _ _⟩, ((may_chs (chs_one _)).trans (ch_tbl _ (by omega))).trans (decide_eq_decide.2 (by omega)), ((HW.out.setCell (by exact Nat.le_succ _) _).setCell (by exact Nat.le_refl _) _).alloc (by simp; omega) _⟩
    case' inr.inr.inr.inr.inr.inr =>
      go_wp2_with fail
      go_meet
      exact ⟨⟨(1099511627776 + ((d3 : Int) - 1)), 1, [], [], 0⟩, none, 0, 0, none, 0, 0, HT.out.set_ 0 _, ⟨_, _, _, _, HC.out.far (by simp) _⟩, ⟨none, 0, 0, none, 0, 0, rfl, Row.nil_ _ _ _, Row.nil_ _ _ _⟩, (may_lsn2 _ (by omega)).trans (decide_eq_decide.2 (by omega)), HW.out.setCell (by exact Nat.le_refl _) _⟩
  case rest =>
    obtain ⟨t, A, n2, c, A', n', c', hb, ⟨y0, y1, y2, y3, hcb⟩, hti, hmay, hbel⟩ := hcut
    have HTB := Lib.hid hb
    have HCB := Lib.hid hcb
    have HTI := Lib.hid hti
    have HMAY := Lib.hid hmay
    have HBE := Lib.hid hbel
    have z0 : wc.cell? ⟨w.heap.size, 0, none⟩ = some (.int .i64 t.lsn) := hb.cell 0
    have z1 : wc.cell? ⟨w.heap.size, 1, none⟩ = some (.int .i64 t.kind) := hb.cell 1
    have z2 : wc.cell? ⟨w.heap.size, 2, none⟩ = some (.slice A n2 c) := hb.cell 2
    have z3 : wc.cell? ⟨w.heap.size, 3, none⟩ = some (.slice A' n' c') := hb.cell 3
    have z4 : wc.cell? ⟨w.heap.size, 4, none⟩ = some (.int .i64 t.mark) := hb.cell 4
    clear hb hcb hti hmay hbel HT HC HW
    go_wp2_with fail
    refine (encode_in wc.heap.size t _ wc HTI.out (Nat.le_refl _)).mono ?_
    intro e w2 he2
    obtain ⟨A2, c2, rfl, hy2, hb2⟩ := encT_both he2
    have HTB2 := Lib.hid (HTB.out.below hb2 HTB.out.lt)
    have HCB2 := Lib.hid (HCB.out.below hb2 HCB.out.lt)
    have HTI2 := Lib.hid (HTI.out.below hb2)
    have HB2 := Lib.hid (held_two HBE.out hb2)
    have hz2 := hb2.size
    clear he2 hy2 hb2 z0 z1 z2 z3 z4 HTB HCB HTI HBE
    obtain ⟨er, her⟩ : ∃ er, err (encT t) = er := ⟨_, rfl⟩
    have HER : Hid (er = if d3 < 2 then 0 else 1) := by
      show _ = _
      rw [← her]
      have h := HMAY.out
      by_cases hd : d3 < 2
      · rw [if_pos hd, encT_ok (by rw [h]; simp [hd])]; rfl
      · rw [if_neg hd, encT_bad (by rw [h]; simp [hd])]; rfl
    rw [her]
    clear her
    generalize (got (encT t)).length = N2
    go_wp2_with fail
    refine (awake_any _).mono ?_
    rintro e w3 ⟨rfl, hb3⟩
    have HTB3 := Lib.hid (HTB2.out.below hb3 HTB2.out.lt)
    have HCB3 := Lib.hid (HCB2.out.below hb3 HCB2.out.lt)
    have HTI3 := Lib.hid (HTI2.out.below (hb3.mono hz2))
    have HB3 := Lib.hid (held_two HB2.out hb3)
    have hz3 := hb3.size
    clear hb3 HTB2 HCB2 HTI2
    have z0 : w3.cell? ⟨w.heap.size, 0, none⟩ = some (.int .i64 t.lsn) := HTB3.out.cell 0
    have z1 : w3.cell? ⟨w.heap.size, 1, none⟩ = some (.int .i64 t.kind) := HTB3.out.cell 1
    have z2 : w3.cell? ⟨w.heap.size, 2, none⟩ = some (.slice A n2 c) := HTB3.out.cell 2
    have z3 : w3.cell? ⟨w.heap.size, 3, none⟩ = some (.slice A' n' c') := HTB3.out.cell 3
    have z4 : w3.cell? ⟨w.heap.size, 4, none⟩ = some (.int .i64 t.mark) := HTB3.out.cell 4
    go_wp2_with fail
    refine (may_in wc.heap.size t _ w3 HTI3.out (by omega)).mono ?_
    rintro e w4 ⟨rfl, hb4⟩
    rw [HMAY.out]
    have HCB4 := Lib.hid (HCB3.out.below hb4 HCB3.out.lt)
    have HB4 := Lib.hid (held_two HB3.out hb4)
    have u0 : w4.cell? ⟨w.heap.size + 1, 0, none⟩ = some y0 := HCB4.out.cell 0
    have u1 : w4.cell? ⟨w.heap.size + 1, 1, none⟩ = some y1 := HCB4.out.cell 1
    have u2 : w4.cell? ⟨w.heap.size + 1, 2, none⟩ = some y2 := HCB4.out.cell 2
    have u3 : w4.cell? ⟨w.heap.size + 1, 3, none⟩ = some y3 := HCB4.out.cell 3
    have v0 := HCB4.out.frozen 0
    have v1 := HCB4.out.frozen 1
    have v2 := HCB4.out.frozen 2
    have v3 := HCB4.out.frozen 3
    clear hb4 z0 z1 z2 z3 z4 HTB3 HCB3 HTI3
    have HM1 : Hid (∀ g : Bool, Ch.may 1 ⟨0, 1, g, ⟨#[118]⟩⟩ = !g) := fun g => by cases g <;> rfl
    have HM2 : Hid (Ch.may 0 ⟨0, 1, false, ⟨#[]⟩⟩ = false) := rfl
    have HM3 : Hid (Ch.may 1 ⟨0, 0, false, ⟨#[]⟩⟩ = false) := rfl
    by_cases hd : d3 < 2
    case' pos =>
      have t1 : decide (d3 < 2) = true := by simpa using hd
      have t2 : decide ((d3 : Int) - 1 < 1) = true := by simp; omega
      obtain rfl : er = 0 := by rw [HER.out, if_pos hd]
      clear HER
    case' neg =>
      have t1 : decide (d3 < 2) = false := by simpa using hd
      have t2 : decide ((d3 : Int) - 1 < 1) = false := by simp; omega
      obtain rfl : er = 1 := by rw [HER.out, if_neg hd]
      clear HER
    all_goals (
      rw [t1]
      go_wp2_with fail
      have HB5 := Lib.hid ((((HB4.out.setCell (p := ⟨w.heap.size + 1, 0, none⟩) (by exact Nat.le_succ _) (.int .i64 0)).setCell (p := ⟨w.heap.size + 1, 1, none⟩) (by exact Nat.le_succ _) (.int .i64 1)).setCell (p := ⟨w.heap.size + 1, 2, none⟩) (by exact Nat.le_succ _) (.bool gone)).setCell (p := ⟨w.heap.size + 1, 3, none⟩) (by exact Nat.le_succ _) (.string ⟨#[118]⟩))
      refine (maychange_any 0 1 gone ⟨#[118]⟩ 1 _).mono ?_
      rintro e w5 ⟨rfl, hb5⟩
      rw [HM1.out]
      have HB6 := Lib.hid (held_two HB5.out hb5)
      clear hb5
      go_wp2_with fail
      refine (maychange_any 0 1 false ⟨#[]⟩ 0 _).mono ?_
      rintro e w6 ⟨rfl, hb6⟩
      rw [HM2.out]
      have HB7 := Lib.hid (held_two HB6.out hb6)
      clear hb6
      go_wp2_with fail
      refine (maychange_any 0 0 false ⟨#[]⟩ 1 _).mono ?_
      rintro e w7 ⟨rfl, hb7⟩
      rw [HM3.out]
      have HB8 := Lib.hid (held_two HB7.out hb7)
      clear hb7
      go_wp2
      go_ret
      exact ⟨ret_bool (by simp), HB8.out⟩)
end Go.Proofs.Ytjicdnknlfpajaa.Txn
