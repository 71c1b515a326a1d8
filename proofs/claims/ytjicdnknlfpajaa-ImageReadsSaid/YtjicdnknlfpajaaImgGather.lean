/-
  Contracts of how an image's fields are gathered (package image's gatherer, fieldsOf), of package image's Encode.
-/
import Derived.Test.YtjicdnknlfpajaaImgMay
import Derived.Test.YtjicdnknlfpajaaTxnFields
import Derived.Test.YtjicdnknlfpajaaRecTake
import Derived.Deep.RegionHeld3
import Derived.Deep.DeepCutAuto
namespace Go.Proofs.Ytjicdnknlfpajaa.Img
set_option linter.unusedVariables false
set_option maxRecDepth 100000
open Go.RowKit Base FieldMath TxnMath
open ImgMath
open IdxMath (Rw)
open Go.Proofs.Ytjicdnknlfpajaa.Field (fv fv_append fv_one fv_length fval Flds ef ret_bool empty_iff num_any text_any Encoded)
open Txn (cnumber_any ctext_any)
set_option linter.ambiguousOpen false
set_option linter.unusedSimpArgs false

/-! ### the gatherer -/
/-- the gatherer at block g has the fields l, in a row of its own above it -/
def Gath (w : World) (g : Nat) (l : List Fld) : Prop := ∃ A c, Blk w g 132 #[.slice A l.length c] ∧ w.ownsRow (g + 1) 61 3 (.slice A l.length c) l.length (fv l)
theorem Gath.new {w w' : World} {g : Nat} {l : List Fld} (h : Gath w g l) (hb : Below w.heap.size w w') : Gath w' g l := by
  obtain ⟨A, c, h1, h2⟩ := h
  exact ⟨A, c, h1.below hb h1.lt, own_keep h2 hb⟩
theorem Gath.alloc {w : World} {g : Nat} {l : List Fld} (h : Gath w g l) (o : Obj) : Gath (w.alloc o) g l := h.new ((Below.refl _ _).alloc (Nat.le_refl _) o)
theorem Gath.drew {w : World} {g : Nat} {l : List Fld} (h : Gath w g l) : Gath w.drew g l := h
theorem Gath.lt {w : World} {g : Nat} {l : List Fld} (h : Gath w g l) : g < w.heap.size := by
  obtain ⟨A, c, h1, _⟩ := h
  exact h1.lt
/-- what add leaves -/
def Added (w : World) (g : Nat) (l : List Fld) (w' : World) : Prop := Gath w' g l ∧ Below g w w' ∧ ∀ b T cs, Blk w b T cs → b ≠ g → T ≠ 61 → Blk w' b T cs

set_option maxHeartbeats 800000 in
theorem add_any (g : Nat) (l m : List Fld) (B : Nat) (A' : Option Addr) (n' c' : Nat) (w : World) (h : Gath w g l) (hm : Flds w B A' n' c' m) (hl : l.length ≤ 1000000) (hn : n' ≤ 1000000) :
    Calls Try.prog 93 #[.pointer (some ⟨g, 0, none⟩), .slice A' n' c'] w fun e w' => e = .returned (.tuple #[]) ∧ Added w g (l ++ m) w' := by
  have hml := hm.len
  have HML := Lib.hid hml
  have HM := Lib.hid hm
  obtain ⟨A, c, hb, ho⟩ := h
  have hlt := hb.lt
  have k0 : w.cell? ⟨g, 0, none⟩ = some (.slice A l.length c) := hb.cell 0
  have f0 := hb.frozen 0
  have HX := Lib.hid hb
  have HO := Lib.hid ho
  clear hb ho hm hml
  go_enter Try.func93, Try.ntmps93
  go_wp2_with (first
    | (at_builtin
       refine wpList_append_row rfl (.tmp 8) (.tmp 9) rfl ef (g + 1) _ l.length (fv l) rfl HO.out B A' n' c' (fv m) rfl HM.out (fv_one _) (by omega) (by omega) (by omega) ?_
       intro A2 c2 w2 hown2 hg2 hb2
       rw [← fv_append] at hown2
       have hx2 : Blk w2 g 132 #[.slice A l.length c] := HX.out.below hb2 (by omega)
       have k2 : w2.cell? ⟨g, 0, none⟩ = some (.slice A l.length c) := hx2.cell 0
       have f2 := hx2.frozen 0
       have HX2 := Lib.hid hx2
       have HO2 := Lib.hid hown2
       have HG2 := Lib.hid hg2
       have HB2 := Lib.hid hb2
       clear hown2 hg2 hb2 hx2)
    | fail)
  go_end0
  have hll : (l ++ m).length = l.length + n' := by rw [List.length_append, HML.out]
  have hne : ∀ k, (Value.slice A2 (l.length + n') c2).ownBlock = some k → k ≠ g := fun k hk => by have := (HO2.out.lt k hk).1; omega
  refine ⟨rfl, ⟨A2, c2, ?_, ?_⟩, (HB2.out.mono (by omega)).setCell (by exact Nat.le_refl _) _, fun b T cs hbk hbg hT => ?_⟩
  · rw [hll]
    exact HX2.out.set_ 0 _
  · rw [hll]
    exact HO2.out.kept (only_setCell (World.grownBy.refl _ (some g)) (.inl rfl) _) (.inr fun e => by exact hne g e rfl)
  · have h1 : Blk w2 b T cs := hbk.grown HG2.out.1 (fun e => by
      rcases HO.out.2 with ⟨hv, _⟩ | ⟨k, cap, cur, hv, _, hk, _⟩
      · rw [hv] at e; cases e
      · rw [hv] at e
        obtain rfl : b = k := by simp only [Value.ownBlock] at e; injection e
        unfold Blk at hbk
        rw [hbk] at hk
        injection hk with hk
        injection hk with _ h3
        exact hT h3)
    exact h1.far (by exact hbg) _

def GatI (w : World) (l : List Fld) (wr : World) : Prop := Gath wr w.heap.size l ∧ Below w.heap.size w wr
theorem GatI.add {w wr w1 w2 : World} {l m : List Fld} (h : GatI w l wr) (hb : Below wr.heap.size wr w1) (ha : Added w1 w.heap.size m w2) : GatI w m w2 := ⟨ha.1, (held_two h.2 hb).trans ha.2.1⟩
theorem one_fld2 (w : World) (e : TypeId) (f : Fld) {s : Nat} (hs : s = w.heap.size) : Flds (w.alloc (.cells #[.int .i64 f.kind, .int .i64 f.n, .string f.s] e)) (w.heap.size + 1) (some ⟨s, 0, none⟩) 1 1 [f] :=
  Row.lit w #[.int .i64 f.kind, .int .i64 f.n, .string f.s] e (0, 0) hs rfl (by omega)
theorem two_nums (w : World) (e : TypeId) (a b : Int) {s : Nat} (hs : s = w.heap.size) : Flds (w.alloc (.cells #[.int .i64 1, .int .i64 a, .string ⟨#[]⟩, .int .i64 1, .int .i64 b, .string ⟨#[]⟩] e)) (w.heap.size + 1) (some ⟨s, 0, none⟩) 2 2 [numF a, numF b] :=
  Row.lit w #[.int .i64 1, .int .i64 a, .string ⟨#[]⟩, .int .i64 1, .int .i64 b, .string ⟨#[]⟩] e (0, 0) hs rfl (by omega)
theorem two_rowF (w : World) (e : TypeId) (f : Rw) {s : Nat} (hs : s = w.heap.size) : Flds (w.alloc (.cells #[.int .i64 1, .int .i64 f.key, .string ⟨#[]⟩, .int .i64 2, .int .i64 0, .string f.val] e)) (w.heap.size + 1) (some ⟨s, 0, none⟩) 2 2 (rowF f) :=
  Row.lit w #[.int .i64 1, .int .i64 f.key, .string ⟨#[]⟩, .int .i64 2, .int .i64 0, .string f.val] e (0, 0) hs rfl (by omega)
section
variable {W w w1 : World} {s g : Nat} {T : TypeId} {x0 x1 : Value}
theorem box2 (h : Blk w s T #[x0, x1]) (hb : Below g W w) : w.cell? ⟨s, 0, none⟩ = some x0 ∧ w.cell? ⟨s, 1, none⟩ = some x1 ∧ Blk w s T #[x0, x1] ∧ Below g W w := ⟨h.cell 0, h.cell 1, h, hb⟩
theorem box2_call (hg : g ≤ W.heap.size) (hb : Below w.heap.size w w1) (h : Blk w s T #[x0, x1]) (k : Below g W w) : w1.cell? ⟨s, 0, none⟩ = some x0 ∧ w1.cell? ⟨s, 1, none⟩ = some x1 ∧ Blk w1 s T #[x0, x1] ∧ Below g W w1 := box2 (h.below hb h.lt) (k.trans (hb.mono (Nat.le_trans hg k.size)))
theorem box2_alloc (hg : g ≤ W.heap.size) (o : Obj) (h : Blk w s T #[x0, x1]) (k : Below g W w) : (w.alloc o).cell? ⟨s, 0, none⟩ = some x0 ∧ (w.alloc o).cell? ⟨s, 1, none⟩ = some x1 ∧ Blk (w.alloc o) s T #[x0, x1] ∧ Below g W (w.alloc o) := box2 (h.alloc o) (k.alloc (Nat.le_trans hg k.size) o)
theorem box2_add {l : List Fld} (hs : s ≠ g) (hT : T ≠ 61) (ha : Added w g l w1) (h : Blk w s T #[x0, x1]) (k : Below g W w) : w1.cell? ⟨s, 0, none⟩ = some x0 ∧ w1.cell? ⟨s, 1, none⟩ = some x1 ∧ Blk w1 s T #[x0, x1] ∧ Below g W w1 := box2 (ha.2.2 s T _ h hs hT) (k.trans ha.2.1)
end
theorem cnumber_g (g : Nat) (l : List Fld) (n : Int) (w : World) (h : Gath w g l) :
    Calls Try.prog 75 #[.int .i64 n] w fun e w' => e = .returned (.agg #[.int .i64 1, .int .i64 n, .string ⟨#[]⟩]) ∧ Below w.heap.size w w' ∧ Gath w' g l :=
  (cnumber_any n w).mono fun _ _ ⟨he, hb⟩ => ⟨he, hb, h.new hb⟩
theorem ctext_g (g : Nat) (l : List Fld) (s : ByteArray) (w : World) (h : Gath w g l) :
    Calls Try.prog 77 #[.string s] w fun e w' => e = .returned (.agg #[.int .i64 2, .int .i64 0, .string s]) ∧ Below w.heap.size w w' ∧ Gath w' g l :=
  (ctext_any s w).mono fun _ _ ⟨he, hb⟩ => ⟨he, hb, h.new hb⟩
theorem tabF_take {l : List Rw} {k : Nat} {x : Rw} (ht : l.take (k + 1) = l.take k ++ [x]) : rowsF (l.take (k + 1)) = rowsF (l.take k) ++ rowF x := by rw [ht, rowsF_snoc]
theorem tabsF_take {T : List (List Rw)} {k : Nat} {l : List Rw} (ht : T.take (k + 1) = T.take k ++ [l]) : tabsF (T.take (k + 1)) = tabsF (T.take k) ++ tabF l := by rw [ht, tabsF_snoc]
theorem few_fields {T : List (List Rw)} (h : ∀ l ∈ T, l.length ≤ 1000) (h8 : T.length ≤ 8) (k : Nat) : (tabsF (T.take k)).length ≤ 16008 := by
  have h1 := tabsF_length (T := T.take k) fun l hl => h l (List.mem_of_mem_take hl)
  have h2 : (T.take k).length ≤ 8 := by rw [List.length_take]; omega
  omega
def TbRel (w : World) (pre : List Fld) (T : List (List Rw)) (n : Nat) (vi : Value) (wr : World) : Prop := ∃ k : Nat, k ≤ n ∧ vi = .int .i64 k ∧ GatI w (pre ++ tabsF (T.take k)) wr
def RwRel (w : World) (pre : List Fld) (l : List Rw) (n : Nat) (vi : Value) (wr : World) : Prop := ∃ k : Nat, k ≤ n ∧ vi = .int .i64 k ∧ GatI w (pre ++ rowsF (l.take k)) wr
set_option maxHeartbeats 6400000 in
theorem fieldsOf_any (B : Nat) (lsn : Int) (A : Option Addr) (n c : Nat) (T : List (List Rw)) (w : World) (h : Tabs w B A n c T) (hB : B ≤ w.heap.size) (hm : MayI ⟨lsn, T⟩) :
    Calls Try.prog 59 #[.int .i64 lsn, .slice A n c] w fun e w' => ∃ A2 n2 c2, e = .returned (.slice A2 n2 c2) ∧ Flds w' w'.heap.size A2 n2 c2 (fldsI ⟨lsn, T⟩) ∧ Below w.heap.size w w' := by
  have hle := h.le
  have hlen := h.len
  have hn8 : n ≤ 8 := by have := hm.tabs.2; dsimp only at this; omega
  have HL := Lib.hid hlen
  have HT := Lib.hid h
  have H1000 := Lib.hid (fun l (hl : l ∈ T) => (hm.tab l hl).1)
  have HFEW := Lib.hid (few_fields (T := T) (fun l hl => (hm.tab l hl).1) (by omega))
  clear h hm hlen
  have HG0 : Hid (GatI w [] (w.alloc (.cells #[.slice none 0 0] 132))) := ⟨⟨none, 0, Blk.new _ _ _, World.ownsRow_nil _ _ _ _⟩, (Below.refl _ _).alloc (Nat.le_refl _) _⟩
  go_enter Try.func59, Try.ntmps59
  go_wp2_with fail
  refine (cnumber_any lsn _).mono ?_
  rintro e w1 ⟨rfl, hb1⟩
  go_wp2_with fail
  refine (cnumber_any (n : Int) w1).mono ?_
  rintro e w2 ⟨rfl, hb2⟩
  have HG2 : Hid (GatI w [] w2) := ⟨(HG0.out.1.new hb1).new hb2, held_two (held_two HG0.out.2 hb1) hb2⟩
  clear hb1 hb2 HG0
  go_wp2_with fail
  refine (add_any w.heap.size [] [numF lsn, numF n] _ _ 2 2 _ (HG2.out.1.alloc _) (two_nums w2 _ lsn n rfl) (by simp) (by omega)).mono ?_
  rintro e w3 ⟨rfl, hadd⟩
  have HG3 := Lib.hid (HG2.out.add ((Below.refl _ _).alloc (Nat.le_refl _) _) hadd)
  have HFI : Hid (fldsI ⟨lsn, T⟩ = [numF lsn, numF (n : Int)] ++ tabsF T) := by show _ = _; unfold fldsI; dsimp only; rw [HL.out]
  have HPL : Hid (([] ++ [numF lsn, numF (n : Int)]).length = 2) := rfl
  rw [← List.nil_append ([numF lsn, numF (n : Int)])] at HFI
  generalize [] ++ [numF lsn, numF (n : Int)] = pre at HG3 HFI HPL
  clear hadd HG2
  go_wp2
  go_loopw [19, 7, 30, 9] (fun vi _ _ _ wr => TbRel w pre T n vi wr) (fun vi _ _ _ _ => n - (intOf vi).toNat)
  case atStart => exact ⟨0, Nat.zero_le _, rfl, by simpa [tabsF] using HG3.out⟩
  case round =>
    obtain ⟨k, hk, rfl, hgat⟩ := hrel
    have HR := Lib.hid hgat
    clear hgat HG3
    by_cases hlt : k < n
    · obtain ⟨b, off, A', n', c', l, rfl, hb, c0w, hrs, hget, htake⟩ := HT.out.at_ hlt
      have c0 : wr.cell? ⟨b, off + k, none⟩ = some (.slice A' n' c') := ((HR.out.2.mono hB).cell hb).trans c0w
      have HTK := Lib.hid (tabsF_take htake)
      have hl1000 := H1000.out l (List.mem_of_getElem? hget)
      have HLL := Lib.hid hrs.len
      have hn1000 : n' ≤ 1000 := by have := hrs.len; omega
      have hle' := hrs.le
      have HRS := Lib.hid hrs
      have HF8 := Lib.hid (HFEW.out k)
      have l1 : (k : Int) < (n : Int) := by omega
      clear hget htake hrs hl1000
      go_wp2_with fail
      refine (cnumber_any (n' : Int) wr).mono ?_
      rintro e w4 ⟨rfl, hb4⟩
      have HR4 : Hid (GatI w (pre ++ tabsF (T.take k)) w4) := ⟨HR.out.1.new hb4, held_two HR.out.2 hb4⟩
      have HPL4 : Hid ((pre ++ tabsF (T.take k)).length ≤ 16010) := by show _ ≤ _; rw [List.length_append, HPL.out]; have := HF8.out; omega
      clear hb4
      go_wp2_with fail
      refine (add_any w.heap.size _ [numF n'] _ _ 1 1 _ (HR4.out.1.alloc _) (one_fld2 w4 _ (numF n') rfl) (Nat.le_trans HPL4.out (by omega)) (by omega)).mono ?_
      rintro e w5 ⟨rfl, hadd⟩
      have HG5 := Lib.hid (HR4.out.add ((Below.refl _ _).alloc (Nat.le_refl _) _) hadd)
      have HEQ : Hid (pre ++ tabsF (T.take (k + 1)) = pre ++ tabsF (T.take k) ++ [numF (n' : Int)] ++ rowsF l) := by show _ = _; rw [HTK.out]; unfold tabF; rw [HLL.out]; simp
      have HPL5 : Hid ((pre ++ tabsF (T.take k) ++ [numF (n' : Int)]).length ≤ 16011) := by show _ ≤ _; rw [List.length_append]; have := HPL4.out; simp at this ⊢; omega
      generalize pre ++ tabsF (T.take k) ++ [numF (n' : Int)] = pre2 at HG5 HEQ HPL5
      clear hadd HR4 HPL4 c0w
      go_wp2
      go_loopw [30, 9] (fun vi _ wr => RwRel w pre2 l n' vi wr) (fun vi _ _ => n' - (intOf vi).toNat)
      case atStart => exact ⟨0, Nat.zero_le _, rfl, by simpa [rowsF] using HG5.out⟩
      case round =>
        obtain ⟨j, hj, rfl, hgat2⟩ := hrel
        have HR2 := Lib.hid hgat2
        clear hgat2
        by_cases hlt2 : j < n'
        · obtain ⟨b2, off2, x, rfl, hb2, d0, d1, hget2, htake2⟩ := (HRS.out.below (HR2.out.2.mono hB)).at_ hlt2
          have HTK2 := Lib.hid (tabF_take htake2)
          obtain ⟨xk, xv⟩ := x
          dsimp only at d0 d1
          have l2 : (j : Int) < (n' : Int) := by omega
          have HKL : Hid ((pre2 ++ rowsF (l.take j)).length ≤ 1000000) := by
            show _ ≤ _
            rw [List.length_append, rowsF_length, List.length_take]
            have := HPL5.out
            omega
          clear hget2 htake2
          go_upto_region 10 with fail
          have hv : Gath (wr.alloc (.cells #[.int .i64 xk, .string xv] 97)) w.heap.size (pre2 ++ rowsF (l.take j)) := HR2.out.1.alloc _
          have hx : Blk (wr.alloc (.cells #[.int .i64 xk, .string xv] 97)) wr.heap.size 97 #[.int .i64 xk, .string xv] := Blk.new _ _ _
          have hne : wr.heap.size ≠ w.heap.size := by have := HR2.out.1.lt; omega
          have hbv := HR2.out.2.alloc HR2.out.2.size (.cells #[.int .i64 xk, .string xv] 97)
          generalize (wr.alloc (.cells #[.int .i64 xk, .string xv] 97)) = V at hv hx hbv
          generalize wr.heap.size = s5 at hx hne
          have HGV : Hid (w.heap.size ≤ V.heap.size) := Nat.le_of_lt hv.lt
          have HV := Lib.hid hv
          have HX5 := Lib.hid hx
          have HNE := Lib.hid hne
          have HBV := Lib.hid hbv
          clear hv hx hne hbv
          go_region_held3 (fun w' => w'.cell? ⟨s5, 0, none⟩ = some (.int .i64 xk) ∧ w'.cell? ⟨s5, 1, none⟩ = some (.string xv) ∧ Blk w' s5 97 #[.int .i64 xk, .string xv] ∧ Below w.heap.size V w')
            (first
              | exact box2 (w := V.drew) HX5.out ((Below.refl _ _).drew)
              | (go_split_ands; exact box2_call HGV.out hb1 (by assumption) (by assumption))
              | (go_split_ands; exact box2_alloc HGV.out _ (by assumption) (by assumption))
              | (go_split_ands; exact box2_add HNE.out (by decide) hadd (by assumption) (by assumption)))
            (first
              | (go_at_call 75; refine (cnumber_g w.heap.size (pre2 ++ rowsF (l.take j)) _ _ (by first | assumption | exact HV.out)).mono ?_; rintro e w1 ⟨rfl, hb1, hg1⟩)
              | (go_at_call 77; refine (ctext_g w.heap.size (pre2 ++ rowsF (l.take j)) _ _ (by first | assumption | exact HV.out)).mono ?_; rintro e w1 ⟨rfl, hb1, hg1⟩)
              | (go_at_call 93; refine (add_any w.heap.size (pre2 ++ rowsF (l.take j)) (rowF ⟨xk, xv⟩) _ _ 2 2 _ (hg1.alloc _) (two_rowF _ _ ⟨xk, xv⟩ rfl) HKL.out (by omega)).mono ?_; rintro e w5 ⟨rfl, hadd⟩)
              | fail)
          all_goals (
            have HZ : Hid (GatI w (pre2 ++ rowsF (l.take (j + 1))) w5) := by
              go_split_ands
              have h := hadd.1
              rw [List.append_assoc, ← HTK2.out] at h
              exact ⟨h, HBV.out.trans (by assumption)⟩
            clear hadd hg1 hb1
            go_wp2
            go_roundw
            case rel => exact ⟨j + 1, by omega, by go_num, HZ.out⟩
            case measure => simp [intOf]; omega)
        · have hlk : l.take j = l := List.take_of_length_le (by rw [HLL.out]; omega)
          rw [hlk, ← HEQ.out] at HR2
          clear hlk
          have l2 : ¬ (j : Int) < (n' : Int) := by omega
          go_wp2
          go_roundw
          case rel => exact ⟨k + 1, by omega, by go_num, HR2.out⟩
          case measure => simp [intOf]; omega
    · have hlk : T.take k = T := List.take_of_length_le (by rw [HL.out]; omega)
      rw [hlk, ← HFI.out] at HR
      clear hlk
      obtain ⟨A2, c2, hbg, hog⟩ := HR.out.1
      have k0 : wr.cell? ⟨w.heap.size, 0, none⟩ = some (.slice A2 (fldsI ⟨lsn, T⟩).length c2) := hbg.cell 0
      have HF := Lib.hid (Flds.of_own hog)
      have l1 : ¬ (k : Int) < (n : Int) := by omega
      clear hbg hog
      generalize (fldsI ⟨lsn, T⟩).length = N at k0 HF
      go_wp2
      go_ret
      exact ⟨A2, N, c2, rfl, HF.out, HR.out.2⟩
end Go.Proofs.Ytjicdnknlfpajaa.Img
