/-
  Contracts of the document's ChangeFields and Encode (transactions): the fields of a change; it answers what the plain mathematics says of the transaction.
-/
import Derived.Test.YtjicdnknlfpajaaTxnEncode
namespace Go.Proofs.Ytjicdnknlfpajaa.Txn
set_option linter.unusedVariables false
set_option maxRecDepth 100000
open Go.RowKit Base FieldMath TxnMath
open Go.Proofs.Ytjicdnknlfpajaa.Field (fv fv_append fv_one fv_length fval Flds ef ret_bool empty_iff num_any text_any Encoded)
set_option linter.ambiguousOpen false

set_option maxHeartbeats 800000 in
theorem changeFields_any (f : Ch) (w : World) :
    Calls Try.prog 40 #[.agg #[.int .i64 f.tbl, .int .i64 f.key, .bool f.gone, .string f.val]] w fun e w' => ∃ A, e = .returned (.slice A 4 4) ∧ Flds w' w'.heap.size A 4 4 (chF f) ∧ Below w.heap.size w w' := by
  obtain ⟨ft, fk, fg, fv'⟩ := f
  dsimp only
  go_enter Try.func40, Try.ntmps40
  go_wp2_with fail
  have hx : Blk (w.alloc (.cells #[.int .i64 ft, .int .i64 fk, .bool fg, .string fv'] 27)) w.heap.size 27 #[.int .i64 ft, .int .i64 fk, .bool fg, .string fv'] := Blk.new _ _ _
  have hw : Below w.heap.size w (w.alloc (.cells #[.int .i64 ft, .int .i64 fk, .bool fg, .string fv'] 27)) := (Below.refl _ _).alloc (Nat.le_refl _) _
  generalize (w.alloc (.cells #[.int .i64 ft, .int .i64 fk, .bool fg, .string fv'] 27)) = V at hx hw
  have HX5 := Lib.hid hx
  have HV := Lib.hid hw
  have HGV : Hid (V.heap.size ≤ V.heap.size) := Nat.le_refl _
  clear hx hw
  go_region_held3 (fun w' => w'.cell? ⟨w.heap.size, 0, none⟩ = some (.int .i64 ft) ∧ w'.cell? ⟨w.heap.size, 1, none⟩ = some (.int .i64 fk) ∧ w'.cell? ⟨w.heap.size, 2, none⟩ = some (.bool fg) ∧ w'.cell? ⟨w.heap.size, 3, none⟩ = some (.string fv') ∧ Blk w' w.heap.size 27 #[.int .i64 ft, .int .i64 fk, .bool fg, .string fv'] ∧ Below V.heap.size V w')
    (first
      | exact box4 (w := V.drew) HX5.out ((Below.refl _ _).drew)
      | (go_split_ands; exact box4_call HGV.out hb1 (by assumption) (by assumption))
      | (go_split_ands; exact box4_alloc HGV.out _ (by assumption) (by assumption)))
    (first
      | (go_at_call 36; refine (num_any _ _).mono ?_; rintro e w1 ⟨rfl, hb1⟩)
      | (go_at_call 78; refine (refflag_any _ _).mono ?_; rintro e w1 ⟨rfl, hb1⟩)
      | (go_at_call 41; refine (text_any _ _).mono ?_; rintro e w1 ⟨rfl, hb1⟩)
      | fail)
  have HZ : Hid (Below w.heap.size w (w1.alloc (.cells #[.int .i64 1, .int .i64 ft, .string ⟨#[]⟩, .int .i64 1, .int .i64 fk, .string ⟨#[]⟩, .int .i64 1, .int .i64 (flag fg), .string ⟨#[]⟩, .int .i64 2, .int .i64 0, .string fv'] 61))) := by
    go_split_ands
    exact held_two HV.out (by assumption)
  clear hb1
  go_wp2
  go_ret
  exact ⟨_, rfl, (four_chF w1 _ ⟨ft, fk, fg, fv'⟩ rfl).more (by simp), HZ.out⟩

theorem four_nums (w : World) (base a b c d : _) {s : Nat} (hs : s = w.heap.size) (hb : base ≤ w.heap.size) : (w.alloc (.cells #[.int .i64 1, .int .i64 a, .string ⟨#[]⟩, .int .i64 1, .int .i64 b, .string ⟨#[]⟩, .int .i64 1, .int .i64 c, .string ⟨#[]⟩, .int .i64 1, .int .i64 d, .string ⟨#[]⟩] 61)).ownsRow base 61 3 (.slice (some ⟨s, 0, none⟩) 4 4) 4 (fv [numF a, numF b, numF c, numF d]) := by
  subst hs
  exact World.ownsRow_lit w #[.int .i64 1, .int .i64 a, .string ⟨#[]⟩, .int .i64 1, .int .i64 b, .string ⟨#[]⟩, .int .i64 1, .int .i64 c, .string ⟨#[]⟩, .int .i64 1, .int .i64 d, .string ⟨#[]⟩] 4 hb (by unfold maxLen; omega) rfl
section
variable {W w w1 : World} {s g : Nat} {T : TypeId} {x0 x1 x2 x3 x4 : Value}
theorem box5 (h : Blk w s T #[x0, x1, x2, x3, x4]) (hb : Below W.heap.size W w) : w.cell? ⟨s, 0, none⟩ = some x0 ∧ w.cell? ⟨s, 1, none⟩ = some x1 ∧ w.cell? ⟨s, 2, none⟩ = some x2 ∧ w.cell? ⟨s, 4, none⟩ = some x4 ∧ Blk w s T #[x0, x1, x2, x3, x4] ∧ Below W.heap.size W w := ⟨h.cell 0, h.cell 1, h.cell 2, h.cell 4, h, hb⟩
theorem box5_call (hb : Below w.heap.size w w1) (h : Blk w s T #[x0, x1, x2, x3, x4]) (k : Below W.heap.size W w) : w1.cell? ⟨s, 0, none⟩ = some x0 ∧ w1.cell? ⟨s, 1, none⟩ = some x1 ∧ w1.cell? ⟨s, 2, none⟩ = some x2 ∧ w1.cell? ⟨s, 4, none⟩ = some x4 ∧ Blk w1 s T #[x0, x1, x2, x3, x4] ∧ Below W.heap.size W w1 := box5 (h.below hb h.lt) (held_call k hb)
theorem box5_alloc (o : Obj) (h : Blk w s T #[x0, x1, x2, x3, x4]) (k : Below W.heap.size W w) : (w.alloc o).cell? ⟨s, 0, none⟩ = some x0 ∧ (w.alloc o).cell? ⟨s, 1, none⟩ = some x1 ∧ (w.alloc o).cell? ⟨s, 2, none⟩ = some x2 ∧ (w.alloc o).cell? ⟨s, 4, none⟩ = some x4 ∧ Blk (w.alloc o) s T #[x0, x1, x2, x3, x4] ∧ Below W.heap.size W (w.alloc o) := box5 (h.alloc o) (held_alloc k o)
end
/-- the document's Encode on its way: the box, the row of fields behind it -/
def Ref (w : World) (cs : Array Value) (N : Nat) (l : List Fld) (v : Value) (wr : World) : Prop := ∃ A c, v = .slice A N c ∧ wr.ownsRow (w.heap.size + 1) 61 3 (.slice A N c) N (fv l) ∧ Blk wr w.heap.size 25 cs ∧ Below w.heap.size w wr
def RefRel (w : World) (cs : Array Value) (pre : List Fld) (l : List Ch) (n : Nat) (v i : Value) (wr : World) : Prop := ∃ k : Nat, k ≤ n ∧ i = .int .i64 k ∧ Ref w cs (4 + k * 4) (pre ++ chsF (l.take k)) v wr
def RefRel2 (w : World) (cs : Array Value) (pre : List Fld) (N : Nat) (l : List ByteArray) (n : Nat) (v i : Value) (wr : World) : Prop := ∃ k : Nat, k ≤ n ∧ i = .int .i64 k ∧ Ref w cs (N + k) (pre ++ (l.take k).map txtF) v wr

set_option maxHeartbeats 3200000 in
theorem refencode_any (B : Nat) (lsn kind mark : Int) (A : Option Addr) (n c : Nat) (l : List Ch) (A' : Option Addr) (n' c' : Nat) (m : List ByteArray) (w : World) (h1 : Chs w B A n c l) (h2 : Sigs w B A' n' c' m) (hB : B ≤ w.heap.size) :
    Calls Try.prog 15 #[.agg #[.int .i64 lsn, .int .i64 kind, .slice A n c, .slice A' n' c', .int .i64 mark]] w (EncT w ⟨lsn, kind, l, m, mark⟩) := by
  have HL := Lib.hid h1.len
  have HL' := Lib.hid h2.len
  have HC := Lib.hid h1
  have HS := Lib.hid h2
  clear h1 h2
  have HW : Hid (Below w.heap.size w (w.alloc (.cells #[.int .i64 lsn, .int .i64 kind, .slice A n c, .slice A' n' c', .int .i64 mark] 25))) := (Below.refl _ _).alloc (Nat.le_refl _) _
  have HX : Hid (Blk (w.alloc (.cells #[.int .i64 lsn, .int .i64 kind, .slice A n c, .slice A' n' c', .int .i64 mark] 25)) w.heap.size 25 #[.int .i64 lsn, .int .i64 kind, .slice A n c, .slice A' n' c', .int .i64 mark]) := Blk.new _ _ _
  go_enter Try.func15, Try.ntmps15
  go_wp2_with fail
  refine (refmay_any B lsn kind mark A n c l A' n' c' m _ (HC.out.below (HW.out.mono hB)) (HS.out.below (HW.out.mono hB)) (Nat.le_trans hB HW.out.size)).mono ?_
  rintro e W ⟨rfl, hb1⟩
  have HX1 := Lib.hid (HX.out.below hb1 HX.out.lt)
  have HB1 := Lib.hid (held_two HW.out hb1)
  clear hb1 HX HW
  cases hm : Tx.may ⟨lsn, kind, l, m, mark⟩ with
  | false =>
    have HM := Lib.hid hm
    clear hm
    go_wp2
    go_ret2
    exact encT_err HM.out rfl HB1.out
  | true =>
    have HM := Lib.hid hm
    have hn : n ≤ 16 := by have := (may_of hm).chs; have h3 := HL.out; dsimp only at this; omega
    have hn' : n' ≤ 2 := by have := (may_of hm).sigs; have h3 := HL'.out; dsimp only at this; omega
    clear hm
    go_wp2_with fail
    go_region_held3 (fun w' => w'.cell? ⟨w.heap.size, 0, none⟩ = some (.int .i64 lsn) ∧ w'.cell? ⟨w.heap.size, 1, none⟩ = some (.int .i64 kind) ∧ w'.cell? ⟨w.heap.size, 2, none⟩ = some (.slice A n c) ∧ w'.cell? ⟨w.heap.size, 4, none⟩ = some (.int .i64 mark) ∧ Blk w' w.heap.size 25 #[.int .i64 lsn, .int .i64 kind, .slice A n c, .slice A' n' c', .int .i64 mark] ∧ Below W.heap.size W w')
      (first
        | exact box5 (w := W.drew) HX1.out ((Below.refl _ _).drew)
        | (go_split_ands; exact box5_call hb1 (by assumption) (by assumption))
        | (go_split_ands; exact box5_alloc _ (by assumption) (by assumption)))
      (first
        | (go_at_call 36; refine (num_any _ _).mono ?_; rintro e w1 ⟨rfl, hb1⟩; have hz1 : w.heap.size + 1 ≤ w1.heap.size := (by go_split_ands; exact Nat.le_trans (Blk.lt (t := 25) (cs := #[.int .i64 lsn, .int .i64 kind, .slice A n c, .slice A' n' c', .int .i64 mark]) (by assumption)) hb1.size))
        | fail)
    have HR0 : Hid (Ref w #[.int .i64 lsn, .int .i64 kind, .slice A n c, .slice A' n' c', .int .i64 mark] 4 [numF lsn, numF kind, numF mark, numF n] (.slice (some ⟨w1.heap.size, 0, none⟩) 4 4) (w1.alloc (.cells #[.int .i64 1, .int .i64 lsn, .string ⟨#[]⟩, .int .i64 1, .int .i64 kind, .string ⟨#[]⟩, .int .i64 1, .int .i64 mark, .string ⟨#[]⟩, .int .i64 1, .int .i64 n, .string ⟨#[]⟩] 61))) := by
      go_split_ands
      have hbw : Below W.heap.size W (w1.alloc (.cells #[.int .i64 1, .int .i64 lsn, .string ⟨#[]⟩, .int .i64 1, .int .i64 kind, .string ⟨#[]⟩, .int .i64 1, .int .i64 mark, .string ⟨#[]⟩, .int .i64 1, .int .i64 n, .string ⟨#[]⟩] 61)) := by assumption
      exact ⟨_, _, rfl, four_nums w1 (w.heap.size + 1) _ _ _ _ rfl hz1, by assumption, held_two HB1.out hbw⟩
    have HPRE : Hid ([numF lsn, numF kind, numF mark, numF (n : Int)] = [numF lsn, numF kind, numF mark, numF (n : Int)]) := rfl
    generalize (w1.alloc (.cells #[.int .i64 1, .int .i64 lsn, .string ⟨#[]⟩, .int .i64 1, .int .i64 kind, .string ⟨#[]⟩, .int .i64 1, .int .i64 mark, .string ⟨#[]⟩, .int .i64 1, .int .i64 n, .string ⟨#[]⟩] 61)) = W1 at HR0
    generalize (Value.slice (some ⟨w1.heap.size, 0, none⟩) 4 4) = v0 at HR0
    obtain ⟨pre, hpre⟩ : ∃ pre, pre = [numF lsn, numF kind, numF mark, numF (n : Int)] := ⟨_, rfl⟩
    rw [← hpre] at HR0
    have HPRE := Lib.hid hpre
    clear hpre hb1
    go_wp2
    go_loopw [4, 5] (fun v i wr => RefRel w #[.int .i64 lsn, .int .i64 kind, .slice A n c, .slice A' n' c', .int .i64 mark] pre l n v i wr) (fun _ i _ => n - (intOf i).toNat)
    case atStart => exact ⟨0, Nat.zero_le _, rfl, by simpa [chsF] using HR0.out⟩
    case round =>
      obtain ⟨k, hk, rfl, A1, c1, rfl, hown, hbx, hbel⟩ := hrel
      have c2 : wr.cell? ⟨w.heap.size, 2, none⟩ = some (.slice A n c) := hbx.cell 2
      have c3 : wr.cell? ⟨w.heap.size, 3, none⟩ = some (.slice A' n' c') := hbx.cell 3
      have HXr := Lib.hid hbx
      have HO := Lib.hid hown
      have HB := Lib.hid hbel
      clear hbx hown hbel
      by_cases hlt : k < n
      · obtain ⟨b, off, f, rfl, hb, q0, q1, q2, q3, hget, htake⟩ := (HC.out.below (HB.out.mono hB)).at_ hlt
        have HT := Lib.hid htake
        clear hget htake
        go_wp2_with fail
        refine (changeFields_any f _).mono ?_
        rintro e w3 ⟨A3, rfl, hf3, hb3⟩
        have HF3 := Lib.hid hf3
        have HX3 := Lib.hid (HXr.out.below hb3 HXr.out.lt)
        have HO3 := Lib.hid (own_keep HO.out hb3)
        have HB3 := Lib.hid (held_two HB.out hb3)
        have hz3 : w.heap.size + 1 ≤ w3.heap.size := HX3.out.lt
        clear hf3 hb3
        go_wp2_with (first
          | (at_builtin
             refine wpList_append_row rfl (.tmp 31) (.tmp 37) rfl ef (w.heap.size + 1) _ (4 + k * 4) _ rfl HO3.out _ A3 4 4 (fv (chF f)) rfl HF3.out (fv_one _) (by omega) (by omega) hz3 ?_
             intro A4 c4 w4 hown4 _ hb4
             rw [← fv_append, List.append_assoc, ← chsF_snoc, ← HT.out] at hown4
             have HO4 := Lib.hid hown4
             have HX4 := Lib.hid (HX3.out.below hb4 (by omega))
             have HB4 := Lib.hid (HB3.out.trans (hb4.mono (by omega)))
             clear hown4 hb4)
          | fail)
        go_roundw
        case rel => exact ⟨k + 1, by omega, by go_num, A4, c4, by congr 1; omega, by rw [show 4 + (k + 1) * 4 = 4 + k * 4 + 4 by omega]; exact HO4.out, HX4.out, HB4.out⟩
        case measure => simp [intOf]; omega
      · obtain rfl : k = n := by omega
        have hlk : l.take k = l := List.take_of_length_le (by rw [HL.out]; omega)
        rw [hlk] at HO
        clear hlk hlt hk
        go_wp2_with fail
        refine (num_any _ _).mono ?_
        rintro e w3 ⟨rfl, hb3⟩
        have HX3 := Lib.hid (HXr.out.below hb3 HXr.out.lt)
        have HO3 := Lib.hid (own_keep HO.out hb3)
        have HB3 := Lib.hid (held_two HB.out hb3)
        have hz3 : w.heap.size + 1 ≤ w3.heap.size := HX3.out.lt
        clear hb3
        go_wp2_with (first
          | (at_builtin
             refine wpList_append_row rfl (.tmp 39) (.tmp 44) rfl ef (w.heap.size + 1) _ (4 + k * 4) _ rfl (own_keep HO3.out ((Below.refl _ _).alloc (Nat.le_refl _) _)) _ _ 1 1 (fv [numF n']) rfl (one_fld2 w3 _ (numF n') rfl) (fv_one _) (by omega) (by omega) (by simp; omega) ?_
             intro A4 c4 w4 hown4 _ hb4
             rw [← fv_append] at hown4
             have HO4 := Lib.hid hown4
             have HX4 := Lib.hid ((HX3.out.alloc _).below hb4 (by omega))
             have HB4 := Lib.hid ((held_alloc HB3.out _).trans (hb4.mono (by omega)))
             have c3' : w4.cell? ⟨w.heap.size, 3, none⟩ = some (.slice A' n' c') := HX4.out.cell 3
             clear hown4 hb4)
          | fail)
        have HE3 : Hid (pre ++ chsF l ++ [numF (n' : Int)] ++ m.map txtF = flds ⟨lsn, kind, l, m, mark⟩) := by
          show _ = _
          unfold flds
          dsimp only
          rw [HPRE.out, HL.out, HL'.out]
        generalize pre ++ chsF l ++ [numF (n' : Int)] = pre2 at HO4 HE3
        obtain ⟨N, hN⟩ : ∃ N, N = 4 + k * 4 + 1 := ⟨_, rfl⟩
        rw [← hN] at HO4 ⊢
        have hNl : N ≤ 69 := by omega
        clear hN
        go_wp2
        go_loopw [4, 6] (fun v i wr => RefRel2 w #[.int .i64 lsn, .int .i64 kind, .slice A k c, .slice A' n' c', .int .i64 mark] pre2 N m n' v i wr) (fun _ i _ => n' - (intOf i).toNat)
        case atStart => exact ⟨0, Nat.zero_le _, rfl, A4, c4, rfl, by simpa using HO4.out, HX4.out, HB4.out⟩
        case round =>
          obtain ⟨j, hj, rfl, A5, c5, rfl, hown, hbx, hbel⟩ := hrel
          have d3 : wr.cell? ⟨w.heap.size, 3, none⟩ = some (.slice A' n' c') := hbx.cell 3
          have HXq := Lib.hid hbx
          have HOq := Lib.hid hown
          have HBq := Lib.hid hbel
          clear hbx hown hbel
          by_cases hlt2 : j < n'
          · obtain ⟨b, off, s, rfl, hb, q0, hget, htake⟩ := (HS.out.below (HBq.out.mono hB)).at_ hlt2
            have HT := Lib.hid htake
            clear hget htake
            go_wp2_with fail
            refine (text_any _ _).mono ?_
            rintro e w6 ⟨rfl, hb6⟩
            have HX6 := Lib.hid (HXq.out.below hb6 HXq.out.lt)
            have HO6 := Lib.hid (own_keep HOq.out hb6)
            have HB6 := Lib.hid (held_two HBq.out hb6)
            have hz6 : w.heap.size + 1 ≤ w6.heap.size := HX6.out.lt
            clear hb6
            go_wp2_with (first
              | (at_builtin
                 refine wpList_append_row rfl (.tmp 53) (.tmp 60) rfl ef (w.heap.size + 1) _ (N + j) _ rfl (own_keep HO6.out ((Below.refl _ _).alloc (Nat.le_refl _) _)) _ _ 1 1 (fv [txtF s]) rfl (one_fld2 w6 _ (txtF s) rfl) (fv_one _) (by omega) (by omega) (by simp; omega) ?_
                 intro A7 c7 w7 hown7 _ hb7
                 rw [← fv_append, List.append_assoc, show (m.take j).map txtF ++ [txtF s] = (m.take (j + 1)).map txtF by rw [HT.out, List.map_append]; rfl] at hown7
                 have HO7 := Lib.hid hown7
                 have HX7 := Lib.hid ((HX6.out.alloc _).below hb7 (by omega))
                 have HB7 := Lib.hid ((held_alloc HB6.out _).trans (hb7.mono (by omega)))
                 clear hown7 hb7)
              | fail)
            go_roundw
            case rel => exact ⟨j + 1, by omega, by go_num, A7, c7, by congr 1, HO7.out, HX7.out, HB7.out⟩
            case measure => simp [intOf]; omega
          · have hlk : m.take j = m := List.take_of_length_le (by rw [HL'.out]; omega)
            rw [hlk, HE3.out] at HOq
            clear hlk
            have HFq := Lib.hid (Flds.of_own HOq.out)
            go_wp2_with fail
            refine (Field.refencode_any _ A5 _ c5 _ _ HFq.out (Nat.le_refl _)).mono ?_
            rintro e w9 ⟨A9, n9, c9, rfl, ho9, hb9⟩
            have HO9 := Lib.hid ho9
            have HB9 := Lib.hid (held_two HBq.out hb9)
            clear ho9 hb9
            generalize hq : err (enc (flds ⟨lsn, kind, l, m, mark⟩)) = q
            have HQ := Lib.hid hq
            clear hq
            go_wp2
            go_ret2
            exact encT_of HM.out (by rw [HQ.out]; rfl) HO9.out HBq.out.size HB9.out
end Go.Proofs.Ytjicdnknlfpajaa.Txn
