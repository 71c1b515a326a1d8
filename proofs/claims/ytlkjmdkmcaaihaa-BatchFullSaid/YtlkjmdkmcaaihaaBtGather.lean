/-
  Contracts of package batch's fieldsOf: an item's fields, one behind the other; of its Encode: it answers what the plain mathematics says of the item.
-/
import Derived.Test.YtlkjmdkmcaaihaaBtMay
import Derived.Test.YtlkjmdkmcaaihaaFlBox
namespace Go.Proofs.Ytlkjmdkmcaaihaa.Bt
set_option linter.unusedVariables false
set_option maxRecDepth 100000
open Go.RowKit Base FieldMath TxnMath BatchMath
open GuardMath (Gp noGp)
open Gd (Gps ov ov_append ov_one ov_length ocells oval oel)
open Txn (cnumber_any ctext_any yes_any one_fld2)
open Go.Proofs.Ytlkjmdkmcaaihaa.Field (fv fv_append fv_one fv_length fval Flds ef ret_bool empty_iff num_any text_any Encoded)
set_option linter.ambiguousOpen false
set_option linter.unusedSimpArgs false

/-- a row of one's own from block base on -/
def OB (w : World) (base : Nat) (v : Value) (N : Nat) (xs : List Value) : Prop := w.ownsRow base 59 3 v N xs ∧ base ≤ w.heap.size
section
variable {w w1 W : World} {base s N : Nat} {v v' : Value} {xs : List Value} {T : TypeId} {cs : Array Value}
theorem OB.keep (h : OB w base v N xs) (hb : Below w.heap.size w w1) : OB w1 base v N xs := ⟨own_keep h.1 hb, Nat.le_trans h.2 hb.size⟩
theorem OB.drew (h : OB w base v N xs) : OB w.drew base v N xs := h
theorem cnumber_o (n : Int) (w : World) (h : OB w base v N xs) :
    Calls Try.prog 56 #[.int .i64 n] w fun e w' => e = .returned (.agg #[.int .i64 1, .int .i64 n, .string ⟨#[]⟩]) ∧ Below w.heap.size w w' ∧ OB w' base v N xs :=
  (cnumber_any n w).mono fun _ _ ⟨he, hb⟩ => ⟨he, hb, h.keep hb⟩
theorem ctext_o (t : ByteArray) (w : World) (h : OB w base v N xs) :
    Calls Try.prog 58 #[.string t] w fun e w' => e = .returned (.agg #[.int .i64 2, .int .i64 0, .string t]) ∧ Below w.heap.size w w' ∧ OB w' base v N xs :=
  (ctext_any t w).mono fun _ _ ⟨he, hb⟩ => ⟨he, hb, h.keep hb⟩
theorem yes_o (b : Bool) (w : World) (h : OB w base v N xs) :
    Calls Try.prog 57 #[.bool b] w fun e w' => e = .returned (.agg #[.int .i64 1, .int .i64 (flag b), .string ⟨#[]⟩]) ∧ Below w.heap.size w w' ∧ OB w' base v N xs :=
  (yes_any b w).mono fun _ _ ⟨he, hb⟩ => ⟨he, hb, h.keep hb⟩
theorem bx_call (hz : base ≤ W.heap.size) (hb : Below w.heap.size w w1) (h : Blk w s T cs) (k : Below base W w) : Blk w1 s T cs ∧ Below base W w1 := ⟨h.below hb h.lt, k.trans (hb.mono (Nat.le_trans hz k.size))⟩
theorem bx_alloc (hz : base ≤ W.heap.size) (o : Obj) (h : Blk w s T cs) (k : Below base W w) : Blk (w.alloc o) s T cs ∧ Below base W (w.alloc o) := ⟨h.alloc o, k.alloc (Nat.le_trans hz k.size) o⟩
theorem bx_grew (hb : Below base w w1) (hg : Grew w v.ownBlock w1 v') (hne : v.ownBlock ≠ some s) (h : Blk w s T cs) (k : Below base W w) : Blk w1 s T cs ∧ Below base W w1 := ⟨h.grown hg.1 (fun e => hne e.symm), k.trans hb⟩
end
theorem own_ne {w : World} {base n s : Nat} {e T : TypeId} {size : Nat} {v : Value} {xs : List Value} {cs : Array Value} (h : w.ownsRow base e size v n xs) (hb : Blk w s T cs) (hT : T ≠ e) : v.ownBlock ≠ some s := by
  intro ev
  rcases h.2 with ⟨hv, _⟩ | ⟨k, cap, cur, hv, _, hk, _⟩
  · rw [hv] at ev; cases ev
  · rw [hv] at ev
    obtain rfl : k = s := by simp only [Value.ownBlock] at ev; injection ev
    unfold Blk at hb
    rw [hb] at hk
    injection hk with hk
    injection hk with _ h3
    exact hT h3
theorem own_one (w : World) (base : Nat) (a : Int) {s : Nat} (hs : s = w.heap.size) (hb : base ≤ w.heap.size) : (w.alloc (.cells #[.int .i64 1, .int .i64 a, .string ⟨#[]⟩] 59)).ownsRow base 59 3 (.slice (some ⟨s, 0, none⟩) 1 1) 1 (fv [numF a]) := by
  subst hs
  exact World.ownsRow_lit w #[.int .i64 1, .int .i64 a, .string ⟨#[]⟩] 1 hb (by unfold maxLen; omega) rfl
theorem five_opF (w : World) (e : TypeId) (o : Gp) {s : Nat} (hs : s = w.heap.size) : Flds (w.alloc (.cells #[.int .i64 1, .int .i64 o.lsn, .string ⟨#[]⟩, .int .i64 1, .int .i64 o.tbl, .string ⟨#[]⟩, .int .i64 1, .int .i64 o.key, .string ⟨#[]⟩, .int .i64 1, .int .i64 (flag o.gone), .string ⟨#[]⟩, .int .i64 2, .int .i64 0, .string o.val] e)) (w.heap.size + 1) (some ⟨s, 0, none⟩) 5 5 (opF o) :=
  Row.lit w #[.int .i64 1, .int .i64 o.lsn, .string ⟨#[]⟩, .int .i64 1, .int .i64 o.tbl, .string ⟨#[]⟩, .int .i64 1, .int .i64 o.key, .string ⟨#[]⟩, .int .i64 1, .int .i64 (flag o.gone), .string ⟨#[]⟩, .int .i64 2, .int .i64 0, .string o.val] e (0, 0) hs rfl (by omega)
def ntF4 (n : Nt) : List Fld := [numF n.kind, numF n.id, numF n.tbl, numF n.wt]
def ntF3 (n : Nt) : List Fld := [numF n.at_, numF n.cur, numF (flag n.done)]
theorem four_ntF (w : World) (e : TypeId) (x : Nt) {s : Nat} (hs : s = w.heap.size) : Flds (w.alloc (.cells #[.int .i64 1, .int .i64 x.kind, .string ⟨#[]⟩, .int .i64 1, .int .i64 x.id, .string ⟨#[]⟩, .int .i64 1, .int .i64 x.tbl, .string ⟨#[]⟩, .int .i64 1, .int .i64 x.wt, .string ⟨#[]⟩] e)) (w.heap.size + 1) (some ⟨s, 0, none⟩) 4 4 (ntF4 x) :=
  Row.lit w #[.int .i64 1, .int .i64 x.kind, .string ⟨#[]⟩, .int .i64 1, .int .i64 x.id, .string ⟨#[]⟩, .int .i64 1, .int .i64 x.tbl, .string ⟨#[]⟩, .int .i64 1, .int .i64 x.wt, .string ⟨#[]⟩] e (0, 0) hs rfl (by omega)
theorem three_ntF (w : World) (e : TypeId) (x : Nt) {s : Nat} (hs : s = w.heap.size) : Flds (w.alloc (.cells #[.int .i64 1, .int .i64 x.at_, .string ⟨#[]⟩, .int .i64 1, .int .i64 x.cur, .string ⟨#[]⟩, .int .i64 1, .int .i64 (flag x.done), .string ⟨#[]⟩] e)) (w.heap.size + 1) (some ⟨s, 0, none⟩) 3 3 (ntF3 x) :=
  Row.lit w #[.int .i64 1, .int .i64 x.at_, .string ⟨#[]⟩, .int .i64 1, .int .i64 x.cur, .string ⟨#[]⟩, .int .i64 1, .int .i64 (flag x.done), .string ⟨#[]⟩] e (0, 0) hs rfl (by omega)
/-- fields that are gathered: the box of the item, the row behind it -/
def Gat (w : World) (cs : Array Value) (l : List Fld) (v : Value) (wr : World) : Prop := ∃ A N c, v = .slice A N c ∧ l.length = N ∧ OB wr (w.heap.size + 1) (.slice A N c) N (fv l) ∧ Blk wr w.heap.size 25 cs ∧ Below w.heap.size w wr
def GatOps (w : World) (cs : Array Value) (pre : List Fld) (l : List Gp) (n : Nat) (v i : Value) (wr : World) : Prop := ∃ k : Nat, k ≤ n ∧ i = .int .i64 k ∧ Gat w cs (pre ++ opsF (l.take k)) v wr
def GatNts (w : World) (cs : Array Value) (pre : List Fld) (l : List Nt) (n : Nat) (v i : Value) (wr : World) : Prop := ∃ k : Nat, k ≤ n ∧ i = .int .i64 k ∧ Gat w cs (pre ++ ntsF (l.take k)) v wr

set_option maxHeartbeats 6400000 in
theorem fieldsOf_any (B : Nat) (L : Int) (A : Option Addr) (n c : Nat) (l : List Gp) (A' : Option Addr) (n' c' : Nat) (m : List Nt) (w : World) (h1 : Gps w B A n c l) (h2 : Nts w B A' n' c' m) (hB : B ≤ w.heap.size) (hn : n ≤ 4096) (hn' : n' ≤ 256) :
    Calls Try.prog 27 #[.agg #[.int .i64 L, .slice A n c, .slice A' n' c']] w fun e w' => ∃ A2 n2 c2, e = .returned (.slice A2 n2 c2) ∧ Flds w' w'.heap.size A2 n2 c2 (ifl ⟨L, l, m⟩) ∧ Below w.heap.size w w' := by
  have HL := Lib.hid h1.len
  have HL' := Lib.hid h2.len
  have hle := h1.le
  have hle' := h2.le
  have HC := Lib.hid h1
  have HS := Lib.hid h2
  have HW : Hid (Below w.heap.size w (w.alloc (.cells #[.int .i64 L, .slice A n c, .slice A' n' c'] 25))) := (Below.refl _ _).alloc (Nat.le_refl _) _
  have HX : Hid (Blk (w.alloc (.cells #[.int .i64 L, .slice A n c, .slice A' n' c'] 25)) w.heap.size 25 #[.int .i64 L, .slice A n c, .slice A' n' c']) := Blk.new _ _ _
  clear h1 h2
  go_enter Try.func27, Try.ntmps27
  go_wp2_with fail
  refine (cnumber_any _ _).mono ?_
  rintro e w1 ⟨rfl, hb1⟩
  have HX1 := Lib.hid (HX.out.below hb1 HX.out.lt)
  have HB1 := Lib.hid (held_two HW.out hb1)
  have q1 : w1.cell? ⟨w.heap.size, 1, none⟩ = some (.slice A n c) := HX1.out.cell 1
  have hlt1 : w.heap.size < w1.heap.size := HX1.out.lt
  clear hb1 HX HW
  go_wp2_with fail
  refine (cnumber_any _ _).mono ?_
  rintro e w2 ⟨rfl, hb2⟩
  have HX2 := Lib.hid ((HX1.out.alloc _).below hb2 (by simp; omega))
  have HB2 := Lib.hid (held_two (HB1.out.alloc HB1.out.size _) hb2)
  have HO2 := Lib.hid (own_keep (own_one w1 (w.heap.size + 1) L rfl hlt1) hb2)
  have hlt2 : w.heap.size < w2.heap.size := HX2.out.lt
  clear hb2 q1
  go_wp2_with (first
    | (at_builtin
       refine wpList_append_row rfl (.tmp 12) (.tmp 17) rfl ef (w.heap.size + 1) _ 1 (fv [numF L]) rfl (own_keep HO2.out ((Below.refl _ _).alloc (Nat.le_refl _) _)) _ _ 1 1 (fv [numF n]) rfl (one_fld2 w2 _ (numF n) rfl) (fv_one _) (by omega) (by omega) (by simp; omega) ?_
       intro A3 c3 w3 hown3 _ hb3
       rw [← fv_append] at hown3
       have HT3 : Hid (Gat w #[.int .i64 L, .slice A n c, .slice A' n' c'] ([numF L] ++ [numF (n : Int)]) (.slice A3 (1 + 1) c3) w3) :=
         ⟨A3, 1 + 1, c3, rfl, rfl, ⟨hown3, Nat.le_trans (by simp; omega) hb3.size⟩, (HX2.out.alloc _).below hb3 (by omega), (held_alloc HB2.out _).trans (hb3.mono (by omega))⟩
       have q3 : w3.cell? ⟨w.heap.size, 1, none⟩ = some (.slice A n c) := by obtain ⟨_, _, _, _, _, _, h, _⟩ := HT3.out; exact h.cell 1
       clear hown3 hb3)
    | fail)
  have hpl : ([numF L] ++ [numF (n : Int)]).length = 2 := rfl
  have HPL := Lib.hid hpl
  generalize hpre : [numF L] ++ [numF (n : Int)] = pre at HT3 HPL
  have HPRE := Lib.hid hpre
  clear hpl hpre HX1 HB1 HX2 HB2 HO2
  go_loopw [3, 22] (fun v i wr => GatOps w #[.int .i64 L, .slice A n c, .slice A' n' c'] pre l n v i wr) (fun _ i _ => n - (intOf i).toNat)
  case atStart => exact ⟨0, Nat.zero_le _, rfl, by simpa [opsF] using HT3.out⟩
  case round =>
    obtain ⟨k, hk, rfl, A1, N, c1, rfl, hN, hob, hbx, hbel⟩ := hrel
    have HO := Lib.hid hob
    have HXr := Lib.hid hbx
    have HB := Lib.hid hbel
    have HN := Lib.hid hN
    have c1' : wr.cell? ⟨w.heap.size, 1, none⟩ = some (.slice A n c) := hbx.cell 1
    have c2' : wr.cell? ⟨w.heap.size, 2, none⟩ = some (.slice A' n' c') := hbx.cell 2
    have hNl : N ≤ 30000 := by rw [← hN, List.length_append, opsF_length, List.length_take, HPL.out]; omega
    clear hob hbx hbel hN HT3
    by_cases hlt : k < n
    · obtain ⟨b, off, f, rfl, hb, d0, d1, d2, d3, d4, hget, htake⟩ := (HC.out.below (HB.out.mono hB)).at_ hlt
      have HTK := Lib.hid (show opsF (l.take (k + 1)) = opsF (l.take k) ++ opF f by rw [htake, opsF_snoc])
      clear hget htake
      obtain ⟨f0, f1, f2, f3, f4⟩ := f
      dsimp only at d0 d1 d2 d3 d4
      have l1 : (k : Int) < (n : Int) := by omega
      have hgr := HO.out.2
      go_wp2_with fail
      have hx : Blk (wr.alloc (.cells #[.int .i64 f0, .int .i64 f1, .int .i64 f2, .bool f3, .string f4] 29)) wr.heap.size 29 #[.int .i64 f0, .int .i64 f1, .int .i64 f2, .bool f3, .string f4] := Blk.new _ _ _
      have HOV : Hid (OB (wr.alloc (.cells #[.int .i64 f0, .int .i64 f1, .int .i64 f2, .bool f3, .string f4] 29)) (w.heap.size + 1) (.slice A1 N c1) N (fv (pre ++ opsF (l.take k)))) := HO.out.keep ((Below.refl _ _).alloc (Nat.le_refl _) _)
      have HBV : Hid (Below w.heap.size w (wr.alloc (.cells #[.int .i64 f0, .int .i64 f1, .int .i64 f2, .bool f3, .string f4] 29))) := held_alloc HB.out _
      have HXV : Hid (Blk (wr.alloc (.cells #[.int .i64 f0, .int .i64 f1, .int .i64 f2, .bool f3, .string f4] 29)) w.heap.size 25 #[.int .i64 L, .slice (some ⟨b, off, none⟩) n c, .slice A' n' c']) := HXr.out.alloc _
      have hne : (Value.slice A1 N c1).ownBlock ≠ some wr.heap.size := fun e => by have := (HO.out.1.lt _ e).2; omega
      generalize (wr.alloc (.cells #[.int .i64 f0, .int .i64 f1, .int .i64 f2, .bool f3, .string f4] 29)) = V at hx HOV HBV HXV
      generalize wr.heap.size = s5 at hx hne
      have HGV : Hid (w.heap.size + 1 ≤ V.heap.size) := HOV.out.2
      have HNE := Lib.hid hne
      have HX5 := Lib.hid hx
      have HH : Hid (∀ wx, Blk wx s5 29 #[.int .i64 f0, .int .i64 f1, .int .i64 f2, .bool f3, .string f4] ∧ Below (w.heap.size + 1) V wx → wx.cell? ⟨s5, 0, none⟩ = some (.int .i64 f0) ∧ wx.cell? ⟨s5, 1, none⟩ = some (.int .i64 f1) ∧ wx.cell? ⟨s5, 2, none⟩ = some (.int .i64 f2) ∧ wx.cell? ⟨s5, 3, none⟩ = some (.bool f3) ∧ wx.cell? ⟨s5, 4, none⟩ = some (.string f4) ∧ Blk wx s5 29 #[.int .i64 f0, .int .i64 f1, .int .i64 f2, .bool f3, .string f4] ∧ Below (w.heap.size + 1) V wx) :=
        fun wx h => ⟨h.1.cell 0, h.1.cell 1, h.1.cell 2, h.1.cell 3, h.1.cell 4, h.1, h.2⟩
      clear hx hne
      go_region_held3 (fun wx => wx.cell? ⟨s5, 0, none⟩ = some (.int .i64 f0) ∧ wx.cell? ⟨s5, 1, none⟩ = some (.int .i64 f1) ∧ wx.cell? ⟨s5, 2, none⟩ = some (.int .i64 f2) ∧ wx.cell? ⟨s5, 3, none⟩ = some (.bool f3) ∧ wx.cell? ⟨s5, 4, none⟩ = some (.string f4) ∧ Blk wx s5 29 #[.int .i64 f0, .int .i64 f1, .int .i64 f2, .bool f3, .string f4] ∧ Below (w.heap.size + 1) V wx)
        (first
          | exact HH.out V.drew ⟨HX5.out, (Below.refl _ _).drew⟩
          | (go_split_ands; exact HH.out _ (bx_call HGV.out hb1 (by assumption) (by assumption)))
          | (go_split_ands; exact HH.out _ (bx_alloc HGV.out _ (by assumption) (by assumption)))
          | (go_split_ands; exact HH.out _ (bx_grew hb9 hg9 HNE.out (by assumption) (by assumption))))
        (first
          | (go_at_call 56; refine (cnumber_o (base := w.heap.size + 1) (v := .slice A1 N c1) (N := N) (xs := fv (pre ++ opsF (l.take k))) _ _ (by first | assumption | exact HOV.out)).mono ?_; rintro e w1 ⟨rfl, hb1, ho1⟩)
          | (go_at_call 57; refine (yes_o (base := w.heap.size + 1) (v := .slice A1 N c1) (N := N) (xs := fv (pre ++ opsF (l.take k))) _ _ (by assumption)).mono ?_; rintro e w1 ⟨rfl, hb1, ho1⟩)
          | (go_at_call 58; refine (ctext_o (base := w.heap.size + 1) (v := .slice A1 N c1) (N := N) (xs := fv (pre ++ opsF (l.take k))) _ _ (by assumption)).mono ?_; rintro e w1 ⟨rfl, hb1, ho1⟩)
          | (refine step_append_row (by rfl) (.tmp 26) (.tmp 42) (by rfl) ef (w.heap.size + 1) (.slice A1 N c1) N (fv (pre ++ opsF (l.take k))) (by rfl) (own_keep ho1.1 ((Below.refl _ _).alloc (Nat.le_refl _) _)) _ _ 5 5 (fv (opF ⟨f0, f1, f2, f3, f4⟩)) (by rfl) (five_opF _ _ ⟨f0, f1, f2, f3, f4⟩ (by rfl)) (fv_one _) (by omega) (by omega) (by have := ho1.2; simp; omega) ?_; intro A9 c9 w9 hown9 hg9 hb9)
          | fail)
      all_goals (
        have HZ : Hid (Gat w #[.int .i64 L, .slice (some ⟨b, off, none⟩) n c, .slice A' n' c'] (pre ++ opsF (l.take (k + 1))) (.slice A9 (N + 5) c9) w9) := by
          go_split_ands
          have hbw : Below (w.heap.size + 1) V w9 := by assumption
          rw [← fv_append, List.append_assoc, ← HTK.out] at hown9
          refine ⟨A9, N + 5, c9, rfl, ?_, ⟨hown9, Nat.le_trans HGV.out hbw.size⟩, HXV.out.below hbw (Nat.lt_succ_self _), HBV.out.trans (hbw.mono (Nat.le_succ _))⟩
          rw [HTK.out, ← List.append_assoc, List.length_append, HN.out]
          rfl
        clear hown9 hg9 hb9 hb1 ho1
        go_wp2
        go_roundw
        case rel => exact ⟨k + 1, by omega, by go_num, HZ.out⟩
        case measure => simp [intOf]; omega)
    · obtain rfl : k = n := by omega
      have hlk : l.take k = l := List.take_of_length_le (by rw [HL.out]; omega)
      rw [hlk] at HO HN
      clear hlk hlt hk
      have hgr := HO.out.2
      go_wp2_with fail
      refine (cnumber_any _ _).mono ?_
      rintro e w2 ⟨rfl, hb2⟩
      have HX2 := Lib.hid (HXr.out.below hb2 HXr.out.lt)
      have HB2 := Lib.hid (held_two HB.out hb2)
      have HO2 := Lib.hid (HO.out.keep hb2)
      have hlt2 : w.heap.size < w2.heap.size := HX2.out.lt
      clear hb2
      go_wp2_with (first
        | (at_builtin
           refine wpList_append_row rfl (.tmp 45) (.tmp 50) rfl ef (w.heap.size + 1) _ N (fv (pre ++ opsF l)) rfl (own_keep HO2.out.1 ((Below.refl _ _).alloc (Nat.le_refl _) _)) _ _ 1 1 (fv [numF n']) rfl (one_fld2 w2 _ (numF n') rfl) (fv_one _) (by omega) (by omega) (by simp; omega) ?_
           intro A3 c3 w3 hown3 _ hb3
           rw [← fv_append] at hown3
           have HT3 : Hid (Gat w #[.int .i64 L, .slice A k c, .slice A' n' c'] (pre ++ opsF l ++ [numF (n' : Int)]) (.slice A3 (N + 1) c3) w3) :=
             ⟨A3, N + 1, c3, rfl, by rw [List.length_append, HN.out]; rfl, ⟨hown3, Nat.le_trans (by simp; omega) hb3.size⟩, (HX2.out.alloc _).below hb3 (by omega), (held_alloc HB2.out _).trans (hb3.mono (by omega))⟩
           have q3 : w3.cell? ⟨w.heap.size, 2, none⟩ = some (.slice A' n' c') := by obtain ⟨_, _, _, _, _, _, h, _⟩ := HT3.out; exact h.cell 2
           clear hown3 hb3)
        | fail)
      have HE3 : Hid (pre ++ opsF l ++ [numF (n' : Int)] ++ ntsF m = ifl ⟨L, l, m⟩) := by
        show _ = _
        unfold ifl
        dsimp only
        rw [← HPRE.out, HL.out, HL'.out]
        rfl
      have HPL2 : Hid ((pre ++ opsF l ++ [numF (n' : Int)]).length ≤ 30001) := by show _ ≤ _; rw [List.length_append, HN.out]; simp; omega
      generalize pre ++ opsF l ++ [numF (n' : Int)] = pre2 at HT3 HE3 HPL2
      clear HX2 HB2 HO2 HO HN HXr HB
      go_loopw [3, 55] (fun v i wr => GatNts w #[.int .i64 L, .slice A k c, .slice A' n' c'] pre2 m n' v i wr) (fun _ i _ => n' - (intOf i).toNat)
      case atStart => exact ⟨0, Nat.zero_le _, rfl, by simpa [ntsF] using HT3.out⟩
      case round =>
        obtain ⟨j, hj, rfl, A5, N5, c5, rfl, hN, hob, hbx, hbel⟩ := hrel
        have HO := Lib.hid hob
        have HXr := Lib.hid hbx
        have HB := Lib.hid hbel
        have HN := Lib.hid hN
        have e2' : wr.cell? ⟨w.heap.size, 2, none⟩ = some (.slice A' n' c') := hbx.cell 2
        have hNl5 : N5 ≤ 40000 := by rw [← hN, List.length_append, ntsF_length, List.length_take]; have := HPL2.out; omega
        clear hob hbx hbel hN HT3 q3
        by_cases hlt : j < n'
        · obtain ⟨b, off, f, rfl, hb, d0, d1, d2, d3, d4, d5, d6, hget, htake⟩ := (HS.out.below (HB.out.mono hB)).at_ hlt
          have HTK := Lib.hid (show ntsF (m.take (j + 1)) = ntsF (m.take j) ++ (ntF4 f ++ ntF3 f) by rw [htake, ntsF_snoc]; rfl)
          clear hget htake
          obtain ⟨f0, f1, f2, f3, f4, f5, f6⟩ := f
          dsimp only at d0 d1 d2 d3 d4 d5 d6
          have l1 : (j : Int) < (n' : Int) := by omega
          have hgr5 := HO.out.2
          go_wp2_with fail
          have hx : Blk (wr.alloc (.cells #[.int .i64 f0, .int .i64 f1, .int .i64 f2, .int .i64 f3, .int .i64 f4, .int .i64 f5, .bool f6] 27)) wr.heap.size 27 #[.int .i64 f0, .int .i64 f1, .int .i64 f2, .int .i64 f3, .int .i64 f4, .int .i64 f5, .bool f6] := Blk.new _ _ _
          have HOV : Hid (OB (wr.alloc (.cells #[.int .i64 f0, .int .i64 f1, .int .i64 f2, .int .i64 f3, .int .i64 f4, .int .i64 f5, .bool f6] 27)) (w.heap.size + 1) (.slice A5 N5 c5) N5 (fv (pre2 ++ ntsF (m.take j)))) := HO.out.keep ((Below.refl _ _).alloc (Nat.le_refl _) _)
          have HBV : Hid (Below w.heap.size w (wr.alloc (.cells #[.int .i64 f0, .int .i64 f1, .int .i64 f2, .int .i64 f3, .int .i64 f4, .int .i64 f5, .bool f6] 27))) := held_alloc HB.out _
          have HXV : Hid (Blk (wr.alloc (.cells #[.int .i64 f0, .int .i64 f1, .int .i64 f2, .int .i64 f3, .int .i64 f4, .int .i64 f5, .bool f6] 27)) w.heap.size 25 #[.int .i64 L, .slice A k c, .slice (some ⟨b, off, none⟩) n' c']) := HXr.out.alloc _
          have hne : (Value.slice A5 N5 c5).ownBlock ≠ some wr.heap.size := fun e => by have := (HO.out.1.lt _ e).2; omega
          generalize (wr.alloc (.cells #[.int .i64 f0, .int .i64 f1, .int .i64 f2, .int .i64 f3, .int .i64 f4, .int .i64 f5, .bool f6] 27)) = V at hx HOV HBV HXV
          generalize wr.heap.size = s5 at hx hne
          have HGV : Hid (w.heap.size + 1 ≤ V.heap.size) := HOV.out.2
          have HS5 : Hid (s5 < V.heap.size) := hx.lt
          have HNE := Lib.hid hne
          have HX5 := Lib.hid hx
          have HH : Hid (∀ (U wx : World), Blk wx s5 27 #[.int .i64 f0, .int .i64 f1, .int .i64 f2, .int .i64 f3, .int .i64 f4, .int .i64 f5, .bool f6] ∧ Below (w.heap.size + 1) U wx → wx.cell? ⟨s5, 0, none⟩ = some (.int .i64 f0) ∧ wx.cell? ⟨s5, 1, none⟩ = some (.int .i64 f1) ∧ wx.cell? ⟨s5, 2, none⟩ = some (.int .i64 f2) ∧ wx.cell? ⟨s5, 3, none⟩ = some (.int .i64 f3) ∧ Blk wx s5 27 #[.int .i64 f0, .int .i64 f1, .int .i64 f2, .int .i64 f3, .int .i64 f4, .int .i64 f5, .bool f6] ∧ Below (w.heap.size + 1) U wx) :=
            fun U wx h => ⟨h.1.cell 0, h.1.cell 1, h.1.cell 2, h.1.cell 3, h.1, h.2⟩
          have HH2 : Hid (∀ (U wx : World), Blk wx s5 27 #[.int .i64 f0, .int .i64 f1, .int .i64 f2, .int .i64 f3, .int .i64 f4, .int .i64 f5, .bool f6] ∧ Below (w.heap.size + 1) U wx → wx.cell? ⟨s5, 4, none⟩ = some (.int .i64 f4) ∧ wx.cell? ⟨s5, 5, none⟩ = some (.int .i64 f5) ∧ wx.cell? ⟨s5, 6, none⟩ = some (.bool f6) ∧ Blk wx s5 27 #[.int .i64 f0, .int .i64 f1, .int .i64 f2, .int .i64 f3, .int .i64 f4, .int .i64 f5, .bool f6] ∧ Below (w.heap.size + 1) U wx) :=
            fun U wx h => ⟨h.1.cell 4, h.1.cell 5, h.1.cell 6, h.1, h.2⟩
          clear hx hne
          go_region_held3 (fun wx => wx.cell? ⟨s5, 0, none⟩ = some (.int .i64 f0) ∧ wx.cell? ⟨s5, 1, none⟩ = some (.int .i64 f1) ∧ wx.cell? ⟨s5, 2, none⟩ = some (.int .i64 f2) ∧ wx.cell? ⟨s5, 3, none⟩ = some (.int .i64 f3) ∧ Blk wx s5 27 #[.int .i64 f0, .int .i64 f1, .int .i64 f2, .int .i64 f3, .int .i64 f4, .int .i64 f5, .bool f6] ∧ Below (w.heap.size + 1) V wx)
            (first
              | exact HH.out V V.drew ⟨HX5.out, (Below.refl _ _).drew⟩
              | (go_split_ands; exact HH.out V _ (bx_call HGV.out hb1 (by assumption) (by assumption)))
              | (go_split_ands; exact HH.out V _ (bx_alloc HGV.out _ (by assumption) (by assumption)))
              | (go_split_ands; exact HH.out V _ (bx_grew hb9 hg9 HNE.out (by assumption) (by assumption))))
            (first
              | (go_at_call 56; refine (cnumber_o (base := w.heap.size + 1) (v := .slice A5 N5 c5) (N := N5) (xs := fv (pre2 ++ ntsF (m.take j))) _ _ (by first | assumption | exact HOV.out)).mono ?_; rintro e w1 ⟨rfl, hb1, ho1⟩)
              | (refine step_append_row (by rfl) (.tmp 59) (.tmp 72) (by rfl) ef (w.heap.size + 1) (.slice A5 N5 c5) N5 (fv (pre2 ++ ntsF (m.take j))) (by rfl) (own_keep ho1.1 ((Below.refl _ _).alloc (Nat.le_refl _) _)) _ _ 4 4 (fv (ntF4 ⟨f0, f1, f2, f3, f4, f5, f6⟩)) (by rfl) (four_ntF _ _ ⟨f0, f1, f2, f3, f4, f5, f6⟩ (by rfl)) (fv_one _) (by omega) (by omega) (by have := ho1.2; simp; omega) ?_; intro A9 c9 w9 hown9 hg9 hb9)
              | fail)
          all_goals (
            have hHX9 : Blk w9 s5 27 #[.int .i64 f0, .int .i64 f1, .int .i64 f2, .int .i64 f3, .int .i64 f4, .int .i64 f5, .bool f6] ∧ Below (w.heap.size + 1) V w9 := by
              go_split_ands
              exact ⟨by assumption, by assumption⟩
            rw [← fv_append, List.append_assoc] at hown9
            have HO9 : Hid (OB w9 (w.heap.size + 1) (.slice A9 (N5 + 4) c9) (N5 + 4) (fv (pre2 ++ (ntsF (m.take j) ++ ntF4 ⟨f0, f1, f2, f3, f4, f5, f6⟩)))) := ⟨hown9, Nat.le_trans HGV.out hHX9.2.size⟩
            have HNE9 := Lib.hid (own_ne HO9.out.1 hHX9.1 (by decide))
            have HX9 := Lib.hid hHX9.1
            have HB9 := Lib.hid hHX9.2
            have HG9 : Hid (w.heap.size + 1 ≤ w9.heap.size) := HO9.out.2
            clear hown9 hg9 hb9 hb1 ho1 hHX9
            go_wp2_with fail
            go_region_held3 (fun wx => wx.cell? ⟨s5, 4, none⟩ = some (.int .i64 f4) ∧ wx.cell? ⟨s5, 5, none⟩ = some (.int .i64 f5) ∧ wx.cell? ⟨s5, 6, none⟩ = some (.bool f6) ∧ Blk wx s5 27 #[.int .i64 f0, .int .i64 f1, .int .i64 f2, .int .i64 f3, .int .i64 f4, .int .i64 f5, .bool f6] ∧ Below (w.heap.size + 1) w9 wx)
              (first
                | exact HH2.out w9 w9.drew ⟨HX9.out, (Below.refl _ _).drew⟩
                | (go_split_ands; exact HH2.out w9 _ (bx_call HG9.out hb1 (by assumption) (by assumption)))
                | (go_split_ands; exact HH2.out w9 _ (bx_alloc HG9.out _ (by assumption) (by assumption)))
                | (go_split_ands; exact HH2.out w9 _ (bx_grew hb8 hg8 HNE9.out (by assumption) (by assumption))))
              (first
                | (go_at_call 56; refine (cnumber_o (base := w.heap.size + 1) (v := .slice A9 (N5 + 4) c9) (N := N5 + 4) (xs := fv (pre2 ++ (ntsF (m.take j) ++ ntF4 ⟨f0, f1, f2, f3, f4, f5, f6⟩))) _ _ (by first | assumption | exact HO9.out)).mono ?_; rintro e w1 ⟨rfl, hb1, ho1⟩)
                | (go_at_call 57; refine (yes_o (base := w.heap.size + 1) (v := .slice A9 (N5 + 4) c9) (N := N5 + 4) (xs := fv (pre2 ++ (ntsF (m.take j) ++ ntF4 ⟨f0, f1, f2, f3, f4, f5, f6⟩))) _ _ (by assumption)).mono ?_; rintro e w1 ⟨rfl, hb1, ho1⟩)
                | (refine step_append_row (by rfl) (.tmp 74) (.tmp 84) (by rfl) ef (w.heap.size + 1) (.slice A9 (N5 + 4) c9) (N5 + 4) (fv (pre2 ++ (ntsF (m.take j) ++ ntF4 ⟨f0, f1, f2, f3, f4, f5, f6⟩))) (by rfl) (own_keep ho1.1 ((Below.refl _ _).alloc (Nat.le_refl _) _)) _ _ 3 3 (fv (ntF3 ⟨f0, f1, f2, f3, f4, f5, f6⟩)) (by rfl) (three_ntF _ _ ⟨f0, f1, f2, f3, f4, f5, f6⟩ (by rfl)) (fv_one _) (by omega) (by omega) (by have := ho1.2; simp; omega) ?_; intro A8 c8 w8 hown8 hg8 hb8)
                | fail)
            all_goals (
              have HZ : Hid (Gat w #[.int .i64 L, .slice A k c, .slice (some ⟨b, off, none⟩) n' c'] (pre2 ++ ntsF (m.take (j + 1))) (.slice A8 (N5 + 4 + 3) c8) w8) := by
                go_split_ands
                have hbw : Below (w.heap.size + 1) w9 w8 := by assumption
                rw [← fv_append, List.append_assoc, List.append_assoc, ← HTK.out] at hown8
                refine ⟨A8, N5 + 4 + 3, c8, rfl, ?_, ⟨hown8, Nat.le_trans HG9.out hbw.size⟩, (HXV.out.below HB9.out (Nat.lt_succ_self _)).below hbw (Nat.lt_succ_self _), (HBV.out.trans (HB9.out.mono (Nat.le_succ _))).trans (hbw.mono (Nat.le_succ _))⟩
                rw [HTK.out, ← List.append_assoc, List.length_append, HN.out]
                rfl
              clear hown8 hg8 hb8 hb1 ho1
              go_wp2
              go_roundw
              case rel => exact ⟨j + 1, by omega, by go_num, HZ.out⟩
              case measure => simp [intOf]; omega))
        · obtain rfl : j = n' := by omega
          have hlk : m.take j = m := List.take_of_length_le (by rw [HL'.out]; omega)
          rw [hlk, HE3.out] at HO
          clear hlk hlt hj
          go_wp2
          go_ret
          exact ⟨A5, N5, c5, rfl, Flds.of_own HO.out.1, HB.out⟩

set_option maxHeartbeats 1600000 in
theorem encode_any (B : Nat) (L : Int) (A : Option Addr) (n c : Nat) (l : List Gp) (A' : Option Addr) (n' c' : Nat) (m : List Nt) (w : World) (h1 : Gps w B A n c l) (h2 : Nts w B A' n' c' m) (hB : B ≤ w.heap.size) :
    Calls Try.prog 13 #[.agg #[.int .i64 L, .slice A n c, .slice A' n' c']] w (EncI w ⟨L, l, m⟩) := by
  have HL := Lib.hid h1.len
  have HL' := Lib.hid h2.len
  have HC := Lib.hid h1
  have HS := Lib.hid h2
  clear h1 h2
  have HW : Hid (Below w.heap.size w (w.alloc (.cells #[.int .i64 L, .slice A n c, .slice A' n' c'] 25))) := (Below.refl _ _).alloc (Nat.le_refl _) _
  have HX : Hid (Blk (w.alloc (.cells #[.int .i64 L, .slice A n c, .slice A' n' c'] 25)) w.heap.size 25 #[.int .i64 L, .slice A n c, .slice A' n' c']) := Blk.new _ _ _
  go_enter Try.func13, Try.ntmps13
  go_wp2_with fail
  refine (may_any B L A n c l A' n' c' m _ (HC.out.below (HW.out.mono hB)) (HS.out.below (HW.out.mono hB)) (Nat.le_trans hB HW.out.size)).mono ?_
  rintro e w1 ⟨rfl, hb1⟩
  have hx1 := HX.out.below hb1 HX.out.lt
  have k0 : w1.cell? ⟨w.heap.size, 0, none⟩ = some (.int .i64 L) := hx1.cell 0
  have k1 : w1.cell? ⟨w.heap.size, 1, none⟩ = some (.slice A n c) := hx1.cell 1
  have k2 : w1.cell? ⟨w.heap.size, 2, none⟩ = some (.slice A' n' c') := hx1.cell 2
  have HB1 := Lib.hid (held_two HW.out hb1)
  clear hb1 hx1 HX HW
  cases hm : may ⟨L, l, m⟩ with
  | false =>
    have HM := Lib.hid hm
    clear hm
    go_wp2
    go_ret2
    exact encI_err HM.out rfl HB1.out
  | true =>
    have HM := Lib.hid hm
    have hn : n ≤ 4096 := by have := (may_iff.1 hm).ops; have h3 := HL.out; dsimp only at this; omega
    have hn' : n' ≤ 256 := by have := (may_iff.1 hm).notes; have h3 := HL'.out; dsimp only at this; omega
    clear hm
    go_wp2_with fail
    refine (fieldsOf_any B L A n c l A' n' c' m _ (HC.out.below (HB1.out.mono hB)) (HS.out.below (HB1.out.mono hB)) (Nat.le_trans hB HB1.out.size) hn hn').mono ?_
    rintro e w2 ⟨A2, n2, c2, rfl, hf2, hb2⟩
    have HF2 := Lib.hid hf2
    have HB2 := Lib.hid (held_two HB1.out hb2)
    clear hf2 hb2
    go_wp2_with fail
    refine (Field.encode_any _ A2 n2 c2 _ _ HF2.out (Nat.le_refl _)).mono ?_
    rintro e w3 ⟨A3, n3, c3, rfl, ho3, hb3⟩
    have HO3 := Lib.hid ho3
    have HB3 := Lib.hid (held_two HB2.out hb3)
    clear ho3 hb3
    generalize hq : err (enc (ifl ⟨L, l, m⟩)) = q
    have HQ := Lib.hid hq
    clear hq
    go_wp2
    go_ret2
    exact encI_of HM.out (by rw [HQ.out]; rfl) HO3.out HB2.out.size HB3.out
end Go.Proofs.Ytlkjmdkmcaaihaa.Bt
