/-
  Contracts of the statements' own helpers over transactions: two lists of changes, of texts, two transactions held against each other; Encode and Decode once more by what they answer; the first line of each statement on transactions.
-/
import Derived.Test.YtjicdnknlfpajaaTxnEncode
import Derived.Test.YtjicdnknlfpajaaTxnDecode
import Derived.Test.YtjicdnknlfpajaaHelpBytes
import Derived.StillTailTactics
namespace Go.Proofs.Ytjicdnknlfpajaa.Txn
set_option linter.unusedVariables false
set_option maxRecDepth 100000
open Go.RowKit Base FieldMath TxnMath
open Go.Proofs.Ytjicdnknlfpajaa.Field (ret_bool)
set_option linter.ambiguousOpen false
set_option linter.unusedSimpArgs false

set_option maxHeartbeats 400000 in
theorem ceq_same (k n : Int) (g : Bool) (s : ByteArray) (w : World) :
    Calls Try.prog 87 #[.agg #[.int .i64 k, .int .i64 n, .bool g, .string s], .agg #[.int .i64 k, .int .i64 n, .bool g, .string s]] w fun e w' => e = .returned (.bool true) ∧ Below w.heap.size w w' := by
  go_enter Try.func87, Try.ntmps87
  go_wp2
  go_ret
  exact ⟨ret_bool (by simp), ((Below.refl _ _).alloc (Nat.le_refl _) _).alloc (by simp) _⟩
set_option maxHeartbeats 400000 in
theorem seq_same (s : ByteArray) (w : World) :
    Calls Try.prog 89 #[.string s, .string s] w fun e w' => e = .returned (.bool true) ∧ Below w.heap.size w w' := by
  go_enter Try.func89, Try.ntmps89
  go_wp2
  go_ret
  exact ⟨ret_bool (by simp), Below.refl _ _⟩
set_option maxHeartbeats 800000 in
theorem csame_same (B B' : Nat) (A A' : Option Addr) (n c c' : Nat) (l : List Ch) (w : World) (h : Chs w B A n c l) (h' : Chs w B' A' n c' l) (hB : B ≤ w.heap.size) (hB' : B' ≤ w.heap.size) :
    Calls Try.prog 86 #[.slice A n c, .slice A' n c', .func (.func 87) #[] #[]] w fun e w' => e = .returned (.bool true) ∧ Below w.heap.size w w' := by
  have hle := h.le
  have HR := Lib.hid h
  have HR' := Lib.hid h'
  clear h h'
  go_enter Try.func86, Try.ntmps86
  go_wp2
  go_loopw [7] (fun i wr => ∃ k : Nat, k ≤ n ∧ i = .int .i64 k ∧ Below w.heap.size w wr) (fun i _ => n - (intOf i).toNat)
  case atStart => exact ⟨0, by omega, rfl, Below.refl _ _⟩
  case round =>
    obtain ⟨k, hk, rfl, hbel⟩ := hrel
    have HB := Lib.hid hbel
    clear hbel
    by_cases hlt : k < n
    · obtain ⟨b, off, f, rfl, hb, q0, q1, q2, q3, hget, _⟩ := (HR.out.below (HB.out.mono hB)).at_ hlt
      obtain ⟨b', off', f', rfl, hb', p0, p1, p2, p3, hget', _⟩ := (HR'.out.below (HB.out.mono hB')).at_ hlt
      obtain rfl : f = f' := by rw [hget] at hget'; injection hget'
      clear hget hget'
      go_wp2
      go_still_tail 9, (by kernel_rfl)
      go_wp2_with fail
      refine (ceq_same _ _ _ _ _).mono ?_
      rintro e w2 ⟨rfl, hb2⟩
      have HB2 := Lib.hid (HB.out.drew.trans (hb2.mono HB.out.size))
      clear hb2
      go_wp2
      go_roundw
      case rel => exact ⟨k + 1, by omega, by go_num, HB2.out⟩
      case measure => simp [intOf]; omega
    · go_wp2
      go_ret
      exact ⟨rfl, HB.out⟩
set_option maxHeartbeats 800000 in
theorem ssame_same (B B' : Nat) (A A' : Option Addr) (n c c' : Nat) (l : List ByteArray) (w : World) (h : Sigs w B A n c l) (h' : Sigs w B' A' n c' l) (hB : B ≤ w.heap.size) (hB' : B' ≤ w.heap.size) :
    Calls Try.prog 88 #[.slice A n c, .slice A' n c', .func (.func 89) #[] #[]] w fun e w' => e = .returned (.bool true) ∧ Below w.heap.size w w' := by
  have hle := h.le
  have HR := Lib.hid h
  have HR' := Lib.hid h'
  clear h h'
  go_enter Try.func88, Try.ntmps88
  go_wp2
  go_loopw [7] (fun i wr => ∃ k : Nat, k ≤ n ∧ i = .int .i64 k ∧ Below w.heap.size w wr) (fun i _ => n - (intOf i).toNat)
  case atStart => exact ⟨0, by omega, rfl, Below.refl _ _⟩
  case round =>
    obtain ⟨k, hk, rfl, hbel⟩ := hrel
    have HB := Lib.hid hbel
    clear hbel
    by_cases hlt : k < n
    · obtain ⟨b, off, f, rfl, hb, q0, hget, _⟩ := (HR.out.below (HB.out.mono hB)).at_ hlt
      obtain ⟨b', off', f', rfl, hb', p0, hget', _⟩ := (HR'.out.below (HB.out.mono hB')).at_ hlt
      obtain rfl : f = f' := by rw [hget] at hget'; injection hget'
      clear hget hget'
      go_wp2
      go_still_tail 9, (by kernel_rfl)
      go_wp2_with fail
      refine (seq_same _ _).mono ?_
      rintro e w2 ⟨rfl, hb2⟩
      have HB2 := Lib.hid (HB.out.drew.trans (hb2.mono HB.out.size))
      clear hb2
      go_wp2
      go_roundw
      case rel => exact ⟨k + 1, by omega, by go_num, HB2.out⟩
      case measure => simp [intOf]; omega
    · go_wp2
      go_ret
      exact ⟨rfl, HB.out⟩
theorem cplain_same (B B' : Nat) (A A' : Option Addr) (n c c' : Nat) (l : List Ch) (w : World) (h : Chs w B A n c l) (h' : Chs w B' A' n c' l) (hB : B ≤ w.heap.size) (hB' : B' ≤ w.heap.size) :
    Calls Try.prog 49 #[.slice A n c, .slice A' n c'] w fun e w' => e = .returned (.bool true) ∧ Below w.heap.size w w' := by
  go_enter Try.func49, Try.ntmps49
  go_wp2_with fail
  refine (csame_same B B' A A' n c c' l _ h h' hB hB').mono ?_
  rintro e w2 ⟨rfl, hb2⟩
  have HB2 := Lib.hid hb2
  clear hb2
  go_wp2
  go_ret
  exact ⟨rfl, HB2.out⟩
theorem splain_same (B B' : Nat) (A A' : Option Addr) (n c c' : Nat) (l : List ByteArray) (w : World) (h : Sigs w B A n c l) (h' : Sigs w B' A' n c' l) (hB : B ≤ w.heap.size) (hB' : B' ≤ w.heap.size) :
    Calls Try.prog 50 #[.slice A n c, .slice A' n c'] w fun e w' => e = .returned (.bool true) ∧ Below w.heap.size w w' := by
  go_enter Try.func50, Try.ntmps50
  go_wp2_with fail
  refine (ssame_same B B' A A' n c c' l _ h h' hB hB').mono ?_
  rintro e w2 ⟨rfl, hb2⟩
  have HB2 := Lib.hid hb2
  clear hb2
  go_wp2
  go_ret
  exact ⟨rfl, HB2.out⟩

/-- a transaction as a value, its changes and signals in memory below block B -/
def TxIn (w : World) (B : Nat) (t : Tx) (v : Value) : Prop := ∃ A n c A' n' c', v = txv t.lsn t.kind t.mark A n c A' n' c' ∧ Chs w B A n c t.chs ∧ Sigs w B A' n' c' t.sigs
theorem TxIn.below {w w' : World} {B : Nat} {t : Tx} {v : Value} (h : TxIn w B t v) (hb : Below B w w') : TxIn w' B t v := by
  obtain ⟨A, n, c, A', n', c', h1, h2, h3⟩ := h
  exact ⟨A, n, c, A', n', c', h1, h2.below hb, h3.below hb⟩
theorem TxIn.alloc {w : World} {B : Nat} {t : Tx} {v : Value} (h : TxIn w B t v) (hB : B ≤ w.heap.size) (o : Obj) : TxIn (w.alloc o) B t v := h.below ((Below.refl _ _).alloc hB o)

set_option maxHeartbeats 1600000 in
theorem txnsame_any (B B' : Nat) (t : Tx) (v v' : Value) (w : World) (h : TxIn w B t v) (h' : TxIn w B' t v') (hB : B ≤ w.heap.size) (hB' : B' ≤ w.heap.size) :
    Calls Try.prog 23 #[v, v'] w fun e w' => e = .returned (.bool true) ∧ Below w.heap.size w w' := by
  obtain ⟨A, n, c, P, m, k, rfl, h1, h2⟩ := h
  obtain ⟨A', n', c', P', m', k', rfl, h1', h2'⟩ := h'
  obtain rfl : n = n' := by rw [← h1.len, ← h1'.len]
  obtain rfl : m = m' := by rw [← h2.len, ← h2'.len]
  unfold txv
  have HC := Lib.hid h1
  have HS := Lib.hid h2
  have HC' := Lib.hid h1'
  have HS' := Lib.hid h2'
  have HW : Hid (Below w.heap.size w ((w.alloc (.cells #[.int .i64 t.lsn, .int .i64 t.kind, .slice A n c, .slice P m k, .int .i64 t.mark] 25)).alloc (.cells #[.int .i64 t.lsn, .int .i64 t.kind, .slice A' n c', .slice P' m k', .int .i64 t.mark] 25))) := ((Below.refl _ _).alloc (Nat.le_refl _) _).alloc (by simp) _
  have HX : Hid (Blk ((w.alloc (.cells #[.int .i64 t.lsn, .int .i64 t.kind, .slice A n c, .slice P m k, .int .i64 t.mark] 25)).alloc (.cells #[.int .i64 t.lsn, .int .i64 t.kind, .slice A' n c', .slice P' m k', .int .i64 t.mark] 25)) w.heap.size 25 #[.int .i64 t.lsn, .int .i64 t.kind, .slice A n c, .slice P m k, .int .i64 t.mark]) := (Blk.new _ _ _).alloc _
  have HY : Hid (Blk ((w.alloc (.cells #[.int .i64 t.lsn, .int .i64 t.kind, .slice A n c, .slice P m k, .int .i64 t.mark] 25)).alloc (.cells #[.int .i64 t.lsn, .int .i64 t.kind, .slice A' n c', .slice P' m k', .int .i64 t.mark] 25)) (w.heap.size + 1) 25 #[.int .i64 t.lsn, .int .i64 t.kind, .slice A' n c', .slice P' m k', .int .i64 t.mark]) := by have := Blk.new (w.alloc (.cells #[.int .i64 t.lsn, .int .i64 t.kind, .slice A n c, .slice P m k, .int .i64 t.mark] 25)) 25 #[.int .i64 t.lsn, .int .i64 t.kind, .slice A' n c', .slice P' m k', .int .i64 t.mark]; exact Lib.hid (by simpa using this)
  clear h1 h2 h1' h2'
  go_enter Try.func23, Try.ntmps23
  go_wp2_with fail
  refine (cplain_same B B' A A' n c c' t.chs _ (HC.out.below (HW.out.mono hB)) (HC'.out.below (HW.out.mono hB')) (Nat.le_trans hB HW.out.size) (Nat.le_trans hB' HW.out.size)).mono ?_
  rintro e w2 ⟨rfl, hb2⟩
  have x3 : w2.cell? ⟨w.heap.size, 3, none⟩ = some (.slice P m k) := (HX.out.below hb2 HX.out.lt).cell 3
  have y3 : w2.cell? ⟨w.heap.size + 1, 3, none⟩ = some (.slice P' m k') := (HY.out.below hb2 HY.out.lt).cell 3
  have HB2 := Lib.hid (held_two HW.out hb2)
  clear hb2
  go_wp2_with fail
  refine (splain_same B B' P P' m k k' t.sigs _ (HS.out.below (HB2.out.mono hB)) (HS'.out.below (HB2.out.mono hB')) (Nat.le_trans hB HB2.out.size) (Nat.le_trans hB' HB2.out.size)).mono ?_
  rintro e w3 ⟨rfl, hb3⟩
  have HB3 := Lib.hid (held_two HB2.out hb3)
  clear hb3
  go_wp2
  go_ret
  exact ⟨ret_bool (by simp), HB3.out⟩

/-! ### Encode and Decode, by what they answer -/
theorem encode_in (B : Nat) (t : Tx) (v : Value) (w : World) (h : TxIn w B t v) (hB : B ≤ w.heap.size) : Calls Try.prog 14 #[v] w (EncT w t) := by
  obtain ⟨A, n, c, P, m, k, rfl, h1, h2⟩ := h
  exact encode_any B _ _ _ _ _ _ _ _ _ _ _ w h1 h2 hB
theorem may_in (B : Nat) (t : Tx) (v : Value) (w : World) (h : TxIn w B t v) (hB : B ≤ w.heap.size) : Calls Try.prog 16 #[v] w fun e w' => e = .returned (.bool t.may) ∧ Below w.heap.size w w' := by
  obtain ⟨A, n, c, P, m, k, rfl, h1, h2⟩ := h
  exact may_any B _ _ _ _ _ _ _ _ _ _ _ w h1 h2 hB
/-- the bytes that Encode answered -/
theorem encT_val {w w' : World} {t : Tx} {e : Ending} (h : EncT w t e w') (hm : t.may = true) : ∃ A c, e = .returned (.tuple #[.slice A (encZ (flds t)).length c, .int .i64 0]) ∧ w'.ownsRow w.heap.size 5 1 (.slice A (encZ (flds t)).length c) (encZ (flds t)).length (bv (encZ (flds t))) ∧ Below w.heap.size w w' := by
  unfold EncT at h
  rw [encT_ok hm] at h
  obtain ⟨A, n, c, he, ho, hb⟩ := h
  have hn : n = (encZ (flds t)).length := by have := ho.1; rw [show got (Except.ok (encZ (flds t)) : Except Nat (List UInt8)) = encZ (flds t) from rfl, bv_length, Nat.mul_one] at this; exact this.symm
  subst hn
  exact ⟨A, c, he, ho, hb⟩
/-- the transaction that Decode answered -/
theorem decT_in {w w' : World} {l : List UInt8} {e : Ending} (h : DecT w l e w') : ∃ v, e = .returned (.tuple #[v, .int .i64 (err (decT l))]) ∧ TxIn w' w'.heap.size (gotX (decT l)) v ∧ Below w.heap.size w w' := by
  obtain ⟨A, n, c, P, m, k, he, h1, h2, hb⟩ := h
  exact ⟨_, he, ⟨A, n, c, P, m, k, rfl, h1, h2⟩, hb⟩
theorem TxIn.agg {w : World} {B : Nat} {t : Tx} {v : Value} (h : TxIn w B t v) : ∃ A n c A' n' c', v = .agg #[.int .i64 t.lsn, .int .i64 t.kind, .slice A n c, .slice A' n' c', .int .i64 t.mark] ∧ TxIn w B t (.agg #[.int .i64 t.lsn, .int .i64 t.kind, .slice A n c, .slice A' n' c', .int .i64 t.mark]) := by
  obtain ⟨A, n, c, A', n', c', rfl, h2, h3⟩ := h
  exact ⟨A, n, c, A', n', c', rfl, A, n, c, A', n', c', rfl, h2, h3⟩

def awT : Tx := ⟨1, 1, [], [], 0⟩
theorem aw_may : awT.may = true := by rfl
theorem aw_len : (encZ (flds awT)).length = 47 := by rfl
theorem aw_dec : decT (encZ (flds awT)) = .ok awT := decT_enc aw_may
theorem no_may : noTx.may = false := by rfl

set_option maxHeartbeats 1600000 in
theorem awake_any (w : World) : Calls Try.prog 13 #[] w fun e w' => e = .returned (.bool true) ∧ Below w.heap.size w w' := by
  have HW : Hid (Below w.heap.size w (w.alloc (.cells #[.int .i64 1, .int .i64 1, .slice none 0 0, .slice none 0 0, .int .i64 0] 25))) := (Below.refl _ _).alloc (Nat.le_refl _) _
  have HX : Hid (Blk (w.alloc (.cells #[.int .i64 1, .int .i64 1, .slice none 0 0, .slice none 0 0, .int .i64 0] 25)) w.heap.size 25 #[.int .i64 1, .int .i64 1, .slice none 0 0, .slice none 0 0, .int .i64 0]) := Blk.new _ _ _
  have hin : ∀ wx : World, TxIn wx wx.heap.size awT (.agg #[.int .i64 1, .int .i64 1, .slice none 0 0, .slice none 0 0, .int .i64 0]) := fun wx => ⟨none, 0, 0, none, 0, 0, rfl, Row.nil_ _ _ _, Row.nil_ _ _ _⟩
  have HI := Lib.hid hin
  clear hin
  go_enter Try.func13, Try.ntmps13
  go_wp2_with fail
  refine (encode_in _ awT _ _ (HI.out _) (Nat.le_refl _)).mono ?_
  intro e w1 he1
  obtain ⟨A1, c1, rfl, ho1, hb1⟩ := encT_val he1 aw_may
  rw [aw_len] at ho1
  rw [aw_len]
  have HX1 := Lib.hid (HX.out.below hb1 HX.out.lt)
  have HB1 := Lib.hid (held_two HW.out hb1)
  have HY1 : Hid (Bytes w1 w1.heap.size A1 47 c1 (encZ (flds awT))) := Bytes.of_own ho1
  clear he1 ho1 hb1
  go_wp2_with fail
  refine (decode_any _ A1 47 c1 _ _ HY1.out (Nat.le_refl _)).mono ?_
  intro e w2 he2
  obtain ⟨v2, he, hti, hb2⟩ := decT_in he2
  rw [aw_dec] at he hti
  obtain ⟨A3, n3, c3, P3, m3, k3, hv, hti2⟩ := hti.agg
  subst hv
  subst he
  have HX2 := Lib.hid (HX1.out.below hb2 HX1.out.lt)
  have HB2 := Lib.hid (held_two HB1.out hb2)
  have HT2 := Lib.hid hti2
  clear he2 hti hti2 hb2
  have q0 : w2.cell? ⟨w.heap.size, 0, none⟩ = some (.int .i64 1) := HX2.out.cell 0
  have q1 : w2.cell? ⟨w.heap.size, 1, none⟩ = some (.int .i64 1) := HX2.out.cell 1
  have q2 : w2.cell? ⟨w.heap.size, 2, none⟩ = some (.slice none 0 0) := HX2.out.cell 2
  have q3 : w2.cell? ⟨w.heap.size, 3, none⟩ = some (.slice none 0 0) := HX2.out.cell 3
  have q4 : w2.cell? ⟨w.heap.size, 4, none⟩ = some (.int .i64 0) := HX2.out.cell 4
  have hR2 : w.heap.size < w2.heap.size := HX2.out.lt
  rw [show gotX (.ok awT : Except Nat Tx) = awT from rfl, show ((err (Except.ok awT : Except Nat Tx) : Nat) : Int) = 0 from rfl]
  rw [show gotX (.ok awT : Except Nat Tx) = awT from rfl] at HT2
  have HBX : Hid (Blk (w2.alloc (.cells #[.int .i64 awT.lsn, .int .i64 awT.kind, .slice A3 n3 c3, .slice P3 m3 k3, .int .i64 awT.mark] 25)) w2.heap.size 25 #[.int .i64 awT.lsn, .int .i64 awT.kind, .slice A3 n3 c3, .slice P3 m3 k3, .int .i64 awT.mark]) := Blk.new _ _ _
  go_wp2_with fail
  refine (may_in _ awT _ _ (HI.out _) (Nat.le_refl _)).mono ?_
  rintro e w4 ⟨rfl, hb4⟩
  rw [aw_may]
  have HX4 := Lib.hid ((HX2.out.alloc _).below hb4 (by simp; omega))
  have HBX4 := Lib.hid (HBX.out.below hb4 (by simp))
  have HB4 := Lib.hid (held_two (HB2.out.alloc HB2.out.size _) hb4)
  have HT4 := Lib.hid ((HT2.out.alloc (Nat.le_refl _) _).below (hb4.mono (by simp)))
  have hz4 : w2.heap.size ≤ w4.heap.size := Nat.le_of_lt HBX4.out.lt
  clear hb4 q0 q1 q2 q3 q4
  go_wp2_with fail
  refine (may_in _ noTx _ _ ⟨none, 0, 0, none, 0, 0, rfl, Row.nil_ _ 0 _, Row.nil_ _ 0 _⟩ (Nat.zero_le _)).mono ?_
  rintro e w5 ⟨rfl, hb5⟩
  rw [no_may]
  have HX5 := Lib.hid (HX4.out.below hb5 HX4.out.lt)
  have HBX5 := Lib.hid (HBX4.out.below hb5 HBX4.out.lt)
  have HB5 := Lib.hid (held_two HB4.out hb5)
  have HT5 := Lib.hid (HT4.out.below (hb5.mono hz4))
  have q0 : w5.cell? ⟨w.heap.size, 0, none⟩ = some (.int .i64 1) := HX5.out.cell 0
  have q1 : w5.cell? ⟨w.heap.size, 1, none⟩ = some (.int .i64 1) := HX5.out.cell 1
  have q2 : w5.cell? ⟨w.heap.size, 2, none⟩ = some (.slice none 0 0) := HX5.out.cell 2
  have q3 : w5.cell? ⟨w.heap.size, 3, none⟩ = some (.slice none 0 0) := HX5.out.cell 3
  have q4 : w5.cell? ⟨w.heap.size, 4, none⟩ = some (.int .i64 0) := HX5.out.cell 4
  have p0 : w5.cell? ⟨w2.heap.size, 0, none⟩ = some (.int .i64 awT.lsn) := HBX5.out.cell 0
  have p1 : w5.cell? ⟨w2.heap.size, 1, none⟩ = some (.int .i64 awT.kind) := HBX5.out.cell 1
  have p2 : w5.cell? ⟨w2.heap.size, 2, none⟩ = some (.slice A3 n3 c3) := HBX5.out.cell 2
  have p3 : w5.cell? ⟨w2.heap.size, 3, none⟩ = some (.slice P3 m3 k3) := HBX5.out.cell 3
  have p4 : w5.cell? ⟨w2.heap.size, 4, none⟩ = some (.int .i64 awT.mark) := HBX5.out.cell 4
  have hz5 : w2.heap.size ≤ w5.heap.size := Nat.le_of_lt HBX5.out.lt
  clear hb5
  go_wp2_with fail
  refine (txnsame_any _ _ awT _ _ _ (HI.out _) HT5.out (Nat.le_refl _) hz5).mono ?_
  rintro e w6 ⟨rfl, hb6⟩
  have HB6 := Lib.hid (held_two HB5.out hb6)
  clear hb6
  go_wp2
  go_ret
  exact ⟨rfl, HB6.out⟩
end Go.Proofs.Ytjicdnknlfpajaa.Txn
