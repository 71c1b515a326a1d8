/-
  Contracts of Decode: package field's, and the document's own: both answer what the plain mathematics says of the bytes.
-/
import Derived.Test.YtlkjmdkmcaaihaaFieldReader
namespace Go.Proofs.Ytlkjmdkmcaaihaa.Field
set_option maxRecDepth 100000
open Go.RowKit Base FieldMath

/-- fields that were read, ahead of what is still to be read -/
def after (fs : List Fld) : Except Nat (List Fld × List UInt8) → Except Nat (List Fld × List UInt8)
  | .error e => .error e
  | .ok (gs, r) => .ok (fs ++ gs, r)
theorem after_start (x : Except Nat (List Fld × List UInt8)) : x = after [] x := by
  match x with
  | .error _ => rfl
  | .ok (_, _) => rfl
theorem after_step {fs : List Fld} {f : Fld} {r r' : List UInt8} {n m : Nat} (h : takeF r = .ok (f, r')) (hn : n = m + 1) : after fs (takeN n r) = after (fs ++ [f]) (takeN m r') := by
  subst hn
  rw [takeN, h]
  simp only []
  match takeN m r' with
  | .error _ => rfl
  | .ok (gs, q) => simp [after]
theorem after_err {fs : List Fld} {r : List UInt8} {n e : Nat} (h : takeF r = .error e) (hn : 0 < n) : after fs (takeN n r) = .error e := by
  obtain ⟨m, rfl⟩ : ∃ m, n = m + 1 := ⟨n - 1, by omega⟩
  rw [takeN, h]
  rfl
theorem after_end {fs : List Fld} {r : List UInt8} {n : Nat} (hn : n = 0) : after fs (takeN n r) = .ok (fs, r) := by
  subst hn
  simp [takeN, after]

/-- what Decode answers -/
def Decoded (w : World) (l : List UInt8) (e : Ending) (w' : World) : Prop :=
  ∃ A n c, e = .returned (.tuple #[.slice A n c, .int .i64 (err (dec l))]) ∧ Flds w' w'.heap.size A n c (got (dec l)) ∧ Below w.heap.size w w'
theorem decoded_err {w w' : World} {l : List UInt8} {e : Ending} {k : Nat} (h : dec l = .error k) (he : e = .returned (.tuple #[.slice none 0 0, .int .i64 k])) (hb : Below w.heap.size w w') : Decoded w l e w' := by
  unfold Decoded
  rw [h]
  exact ⟨none, 0, 0, he, Flds.nil_ _ _, hb⟩
theorem dec_short {l : List UInt8} (h : l.length < 2) : dec l = .error 2 := by unfold dec; rw [if_pos h]
theorem dec_many {l : List UInt8} (h : 2 ≤ l.length) (h1 : 32767 < num (l.take 2)) : dec l = .error 3 := by unfold dec; rw [if_neg (by omega), if_pos h1]
theorem dec_err {l : List UInt8} {e : Nat} (h : 2 ≤ l.length) (h1 : num (l.take 2) ≤ 32767) (h2 : takeN (num (l.take 2)) (l.drop 2) = .error e) : dec l = .error e := by unfold dec; rw [if_neg (by omega), if_neg (by omega), h2]
theorem dec_left {l r : List UInt8} {fs : List Fld} (h : 2 ≤ l.length) (h1 : num (l.take 2) ≤ 32767) (h2 : takeN (num (l.take 2)) (l.drop 2) = .ok (fs, r)) : dec l = if 0 < r.length then .error 3 else .ok fs := by unfold dec; rw [if_neg (by omega), if_neg (by omega), h2]

theorem own_far {w w' : World} {g n : Nat} {e : TypeId} {size : Nat} {v : Value} {xs : List Value} (h : w.ownsRow (g + 1) e size v n xs) (hg : w.grownBy w' (some g)) : w'.ownsRow (g + 1) e size v n xs :=
  h.kept hg (.inr fun e => by have := (h.lt g e).1; omega)
/-- one field, laid by 'append(l, f)' -/
theorem one_fld (w : World) (e : TypeId) (f : Fld) {s : Nat} (hs : s = w.heap.size) : Row (w.alloc (.cells #[.int .i64 f.kind, .int .i64 f.n, .string f.s] e)) (w.heap.size + 1) 3 (some ⟨s, 0, none⟩) 1 1 (fv [f]) :=
  Row.lit w #[.int .i64 f.kind, .int .i64 f.n, .string f.s] e (0, 0) hs rfl (by omega)

def DecRel (w : World) (B N : Nat) (l : List UInt8) (v i : Value) (wr : World) : Prop :=
  ∃ (k : Nat) (fs : List Fld) (r : List UInt8) (A : Option Addr) (c : Nat), k ≤ N ∧ i = .int .i64 k ∧ v = .slice A k c ∧ wr.ownsRow (w.heap.size + 1) 59 3 (.slice A k c) k (fv fs) ∧ Reader wr B w.heap.size r ∧ Below w.heap.size w wr ∧
    takeN N l = after fs (takeN (N - k) r)

set_option maxHeartbeats 800000 in
theorem decode_any (B : Nat) (A : Option Addr) (n c : Nat) (l : List UInt8) (w : World) (hr : Bytes w B A n c l) (hB : B ≤ w.heap.size) :
    Calls Try.prog 62 #[.slice A n c] w (Decoded w l) := by
  have HR := Lib.hid hr
  clear hr
  go_enter Try.func62, Try.ntmps62
  go_wp2_with fail
  have hrd : Reader (w.alloc (.cells #[.slice A n c] 110)) B w.heap.size l := ⟨A, n, c, Blk.new _ _ _, HR.out.alloc hB _, hB⟩
  have hbel : Below w.heap.size w (w.alloc (.cells #[.slice A n c] 110)) := (Below.refl _ _).alloc (Nat.le_refl _) _
  have HB0 := Lib.hid hbel
  have HR0 := Lib.hid hrd
  clear hrd hbel
  refine (count_any B w.heap.size l 32767 _ HR0.out (by omega)).mono ?_
  rintro e w1 (⟨hlt, rfl, rfl⟩ | ⟨hle, hbig, rfl, hon⟩ | ⟨hle, hsm, rfl, hrd, hon, hsz⟩)
  · go_wp2
    go_ret2
    exact decoded_err (dec_short hlt) rfl HB0.out
  · have HO := Lib.hid hon
    have HG := Lib.hid hbig
    clear hon hbig
    go_wp2
    go_ret2
    exact decoded_err (dec_many hle HG.out) rfl (HB0.out.trans (below_of_only HO.out (by simp)))
  · have HD := Lib.hid hrd
    have HB1 := Lib.hid (HB0.out.trans (below_of_only hon (by simp)))
    have hz1 : w.heap.size + 1 ≤ w1.heap.size := by rw [hsz]; simp
    clear hrd hon hsz
    generalize hy : num (l.take 2) = N at hsm
    have HY := Lib.hid hy
    clear hy
    go_wp2
    go_loopw [7, 20, 8, 9] (fun v i _ _ wr => DecRel w B N (l.drop 2) v i wr) (fun _ i _ _ _ => N - (intOf i).toNat)
    case atStart => exact ⟨0, [], l.drop 2, none, 0, by omega, rfl, rfl, World.ownsRow_nil _ _ _ _, HD.out, HB1.out, after_start _⟩
    case round =>
      obtain ⟨k, fs, r, A1, c1, hk, rfl, rfl, hown, hrd, hbel, hta⟩ := hrel
      have HO := Lib.hid hown
      have HD1 := Lib.hid hrd
      have HB := Lib.hid hbel
      have HT := Lib.hid hta
      clear hown hrd hbel hta
      by_cases hlt : k < N
      · go_wp2_with fail
        refine (rfield_any B w.heap.size r _ HD1.out).mono ?_
        rintro e w2 (⟨q, hq, rfl, hon2⟩ | ⟨f, r', hq, rfl, hrd2, hon2⟩)
        · have hq0 : q ≠ 0 := by have := takeF_err hq; omega
          have hq' : ((q : Int) != 0) = true := by simp; omega
          have HQ := Lib.hid hq
          have HB2 := Lib.hid (HB.out.trans (below_of_only hon2 (by have := HB.out.size; omega)))
          clear hq hon2 hq0
          go_wp2
          go_ret2
          exact decoded_err (dec_err hle (by rw [HY.out]; exact hsm) (by rw [HY.out, HT.out]; exact after_err HQ.out (by omega))) rfl (HB2.out.alloc (by exact HB2.out.size) _)
        · have HQ := Lib.hid hq
          have HB2 := Lib.hid (HB.out.trans (below_of_only hon2 (by have := HB.out.size; omega)))
          have HO2 := Lib.hid (own_far HO.out hon2)
          have HD2 := Lib.hid hrd2
          have hz2 : w.heap.size + 1 ≤ w2.heap.size := HD2.out.lt
          clear hq hon2 hrd2
          go_wp2_with (first
            | (at_builtin
               refine wpList_append_row rfl (.tmp 29) (.tmp 31) rfl ef (w.heap.size + 1) _ k (fv fs) rfl ((HO2.out.alloc _).alloc _) _ _ 1 1 (fv [f]) rfl (one_fld _ _ f (by simp)) (fv_one _) (by omega) (by omega) (by simp; omega) ?_
               intro A2 c2 w3 hown3 hg3 hb3
               have HO3 := Lib.hid hown3
               have HD3 := Lib.hid (((HD2.out.alloc _).alloc _).only hg3.1 (fun q hq => by have := (HO2.out.lt q hq).1; omega))
               have HB3 := Lib.hid (((HB2.out.alloc (by omega) _).alloc (by simp; omega) _).trans (hb3.mono (by omega)))
               clear hown3 hg3 hb3))
          go_roundw
          case rel =>
            refine ⟨k + 1, fs ++ [f], r', A2, c2, by omega, by go_num, rfl, by rw [fv_append]; exact HO3.out, HD3.out, HB3.out, ?_⟩
            rw [HT.out]
            exact after_step HQ.out (by omega)
          case measure => simp [intOf]; omega
      · have HE := Lib.hid (HT.out.trans (after_end (by omega)))
        clear HT
        obtain ⟨A2, n2, c2, hb2, hy2, _⟩ := HD1.out
        have hcell : wr.cell? ⟨w.heap.size, 0, none⟩ = some (.slice A2 n2 c2) := hb2.cell 0
        have hrl := hy2.len
        have HL := Lib.hid hrl
        have hn2 := hy2.le
        clear hb2 hy2 hrl
        have HF := Lib.hid (dec_left hle (by rw [HY.out]; exact hsm) (by rw [HY.out]; exact HE.out))
        have HO4 := Lib.hid (Flds.of_own HO.out)
        by_cases hpos : 0 < n2
        · go_wp2
          go_ret2
          exact decoded_err (by rw [HF.out, if_pos (by rw [HL.out]; exact hpos)]) rfl HB.out
        · go_wp2
          go_ret2
          refine ⟨A1, k, c1, ?_, ?_, HB.out⟩
          · rw [HF.out, if_neg (by rw [HL.out]; exact hpos)]; rfl
          · rw [HF.out, if_neg (by rw [HL.out]; exact hpos)]; exact HO4.out

/-! ### the document's own -/
theorem drop_of_get {l : List UInt8} {a : Nat} {z : UInt8} (h : l[a]? = some z) : l.drop a = z :: l.drop (a + 1) := by
  obtain ⟨h1, h2⟩ := List.getElem?_eq_some_iff.1 h
  rw [List.drop_eq_getElem_cons h1, h2]
def RefRel (w : World) (n N : Nat) (l : List UInt8) (t v i : Value) (wr : World) : Prop :=
  ∃ (k a : Nat) (fs : List Fld) (A : Option Addr) (c : Nat), k ≤ N ∧ i = .int .i64 k ∧ a ≤ n ∧ t = .int .i64 a ∧ v = .slice A k c ∧ wr.ownsRow w.heap.size 59 3 (.slice A k c) k (fv fs) ∧ Below w.heap.size w wr ∧
    takeN N (l.drop 2) = after fs (takeN (N - k) (l.drop a))

set_option maxRecDepth 100000 in
set_option maxHeartbeats 1600000 in
theorem refdecode_any (B : Nat) (A : Option Addr) (n c : Nat) (l : List UInt8) (w : World) (hr : Bytes w B A n c l) (hB : B ≤ w.heap.size) :
    Calls Try.prog 42 #[.slice A n c] w (Decoded w l) := by
  have hle := hr.le
  have hlen := hr.len
  have HL := Lib.hid hlen
  have HR := Lib.hid hr
  clear hr hlen
  by_cases h2 : n < 2
  · go_enter Try.func42, Try.ntmps42
    go_wp2
    go_ret2
    exact decoded_err (dec_short (by rw [HL.out]; exact h2)) rfl (Below.refl _ _)
  · obtain ⟨b, off, _, rfl, hb, _⟩ := HR.out.at_ (k := 0) (by omega)
    have h2l : 2 ≤ l.length := by rw [HL.out]; omega
    have hN := num2_lt h2l
    generalize hy : num (l.take 2) = N at hN
    have HY := Lib.hid hy
    clear hy
    have hc2 : 2 ≤ c := by omega
    go_enter Try.func42, Try.ntmps42
    go_wp2_with fail
    refine (number_any B _ 2 c (l.take 2) _ (HR.out.front (by omega)) (by omega)).mono ?_
    rintro e w1 ⟨rfl, rfl⟩
    rw [HY.out]
    by_cases hbig : 32767 < N
    · go_wp2
      go_ret2
      exact decoded_err (dec_many h2l (by rw [HY.out]; exact hbig)) rfl (Below.refl _ _)
    · have hsm : N ≤ 32767 := by omega
      clear hbig
      go_wp2
      go_loopw [5, 6, 7] (fun t v i wr => RefRel w n N l t v i wr) (fun _ _ i _ => N - (intOf i).toNat)
      case atStart => exact ⟨0, 2, [], none, 0, by omega, rfl, by omega, rfl, rfl, World.ownsRow_nil _ _ _ _, Below.refl _ _, after_start _⟩
      case round =>
        obtain ⟨k, a, fs, A1, c1, hk, rfl, ha, rfl, rfl, hown, hbel, hta⟩ := hrel
        have HO := Lib.hid hown
        have HB := Lib.hid hbel
        have HT := Lib.hid hta
        clear hown hbel hta
        have HRw := Lib.hid (HR.out.below (HB.out.mono hB))
        by_cases hlt : k < N
        · by_cases hend : n ≤ a
          · go_wp2
            go_ret2
            exact decoded_err (dec_err h2l (by rw [HY.out]; exact hsm) (by rw [HY.out, HT.out]; exact after_err (by rw [List.drop_of_length_le (by rw [HL.out]; exact hend)]; rfl) (by omega))) rfl HB.out
          · have han : a < n := by omega
            obtain ⟨b', off', z, he, _, hcell, hget, _⟩ := HRw.out.at_ han
            simp only [Option.some.injEq, Addr.mk.injEq, and_true] at he
            obtain ⟨rfl, rfl⟩ := he
            have HD := Lib.hid (drop_of_get hget)
            clear hget
            have hz : z.toNat < 256 := z.toNat_lt
            by_cases h1 : z = 1
            · subst h1
              by_cases h8 : n < a + 9
              · have h8i : (n : Int) - (a + 1) < 8 := by omega
                go_wp2
                go_ret2
                exact decoded_err (dec_err h2l (by rw [HY.out]; exact hsm) (by rw [HY.out, HT.out]; exact after_err (by rw [HD.out]; exact takeF_int_short (by rw [List.length_drop, HL.out]; omega)) (by omega))) rfl HB.out
              · have h8i : ¬ (n : Int) - (a + 1) < 8 := by omega
                have h8l : 8 ≤ (l.drop (a + 1)).length := by rw [List.length_drop, HL.out]; omega
                have hca : ¬ c = a + 1 := by omega
                have hcb : a + 1 + 8 ≤ c := by omega
                have HQ := Lib.hid (takeF_int h8l)
                have hx := num8_lt h8l
                have HM := Lib.hid (HRw.out.mid (a := a + 1) (m := 8) (by omega) hca)
                clear h8l
                go_wp2_with fail
                refine (number_any B _ 8 _ ((l.drop (a + 1)).take 8) _ HM.out (by omega)).mono ?_
                rintro e w2 ⟨rfl, rfl⟩
                generalize hq : num ((l.drop (a + 1)).take 8) = q at hx HQ
                clear hq
                go_wp2_with fail
                refine (num_any _ _).mono ?_
                rintro e w2 ⟨rfl, hb2⟩
                have HB2 := Lib.hid (HB.out.trans (hb2.mono HB.out.size))
                have HO2 := Lib.hid (own_keep HO.out hb2)
                have hz2 : w.heap.size ≤ w2.heap.size := HB2.out.size
                clear hb2
                go_wp2_with (first
                  | (at_builtin
                     refine wpList_append_row rfl (.tmp 43) (.tmp 52) rfl ef w.heap.size _ k (fv fs) rfl (HO2.out.alloc _) _ _ 1 1 (fv [⟨1, i64 q, ⟨#[]⟩⟩]) rfl (by rw [wrap_i64 hx]; exact one_fld _ _ ⟨1, i64 q, ⟨#[]⟩⟩ (by simp)) (fv_one _) (by omega) (by omega) (by simp; omega) ?_
                     intro A2 c2 w3 hown3 _ hb3
                     have HO3 := Lib.hid hown3
                     have HB3 := Lib.hid ((HB2.out.alloc (by omega) _).trans hb3)
                     clear hown3 hb3))
                go_roundw
                case rel =>
                  refine ⟨k + 1, a + 9, fs ++ [⟨1, i64 q, ⟨#[]⟩⟩], A2, c2, by omega, by go_num, by omega, by go_num, rfl, by rw [fv_append]; exact HO3.out, HB3.out, ?_⟩
                  rw [HT.out, HD.out]
                  have := after_step (fs := fs) (n := N - k) (m := N - (k + 1)) HQ.out (by omega)
                  rw [this, List.drop_drop]
                case measure => simp [intOf]; omega
            · have h1' : ((z.toNat : Int) == 1) = false := by
                simp only [beq_eq_false_iff_ne, ne_eq]
                intro h
                exact h1 (UInt8.toNat_inj.1 (by simpa using (by omega : z.toNat = 1)))
              by_cases h2z : z = 2
              · subst h2z
                by_cases h3 : n < a + 3
                · have h3i : (n : Int) - (a + 1) < 2 := by omega
                  go_wp2
                  go_ret2
                  exact decoded_err (dec_err h2l (by rw [HY.out]; exact hsm) (by rw [HY.out, HT.out]; exact after_err (by rw [HD.out]; exact takeF_text_short (by rw [List.length_drop, HL.out]; omega)) (by omega))) rfl HB.out
                · have h3i : ¬ (n : Int) - (a + 1) < 2 := by omega
                  have h3l : 2 ≤ (l.drop (a + 1)).length := by rw [List.length_drop, HL.out]; omega
                  have hca : ¬ c = a + 1 := by omega
                  have hcb : a + 1 + 2 ≤ c := by omega
                  have hx := num2_lt h3l
                  have HM := Lib.hid (HRw.out.mid (a := a + 1) (m := 2) (by omega) hca)
                  generalize hm : num ((l.drop (a + 1)).take 2) = m at hx
                  have HMM := Lib.hid hm
                  have HL3 := Lib.hid h3l
                  have hdl : ((l.drop (a + 1)).drop 2).length = n - (a + 3) := by rw [List.drop_drop, List.length_drop, HL.out]
                  have HDL := Lib.hid hdl
                  clear hm h3l hdl
                  go_wp2_with fail
                  refine (number_any B _ 2 _ ((l.drop (a + 1)).take 2) _ HM.out (by omega)).mono ?_
                  rintro e w2 ⟨rfl, rfl⟩
                  rw [HMM.out]
                  by_cases hbig : 4096 < m
                  · go_wp2
                    go_ret2
                    exact decoded_err (dec_err h2l (by rw [HY.out]; exact hsm) (by rw [HY.out, HT.out]; exact after_err (by rw [HD.out]; exact takeF_text_long HL3.out (by rw [HMM.out]; exact hbig)) (by omega))) rfl HB.out
                  · by_cases hlk : n < a + 3 + m
                    · have hlki : (n : Int) - (a + 1 + 2) < m := by omega
                      go_wp2
                      go_ret2
                      exact decoded_err (dec_err h2l (by rw [HY.out]; exact hsm) (by rw [HY.out, HT.out]; exact after_err (by rw [HD.out]; exact takeF_text_lacks HL3.out (by rw [HMM.out]; omega) (by rw [HMM.out, HDL.out]; omega)) (by omega))) rfl HB.out
                    · have hlki : ¬ (n : Int) - (a + 1 + 2) < m := by omega
                      have HQ0 := takeF_text HL3.out (by rw [HMM.out]; omega) (by rw [HMM.out, HDL.out]; omega)
                      rw [HMM.out, List.drop_drop, List.drop_drop, show a + 1 + 2 = a + 3 by omega] at HQ0
                      have HQ := Lib.hid HQ0
                      clear HQ0
                      by_cases hce : c = a + 1 + 2
                      · have hm0 : m = 0 := by omega
                        subst hm0
                        subst hce
                        have hcv := Bytes.str (show Bytes wr B (some ⟨b, off, none⟩) 0 0 [] from Row.none_ wr B 1 _ (by omega)) (P := Try.prog) Try.underlying35 Try.underlying5 Try.underlying9
                        generalize hs : (l.drop (a + 3)).take 0 = s at HQ
                        rw [List.take_zero] at hs
                        rw [hs] at hcv
                        clear hs
                        go_wp2_with fail
                        refine (text_any _ _).mono ?_
                        rintro e w2 ⟨rfl, hb2⟩
                        have HB2 := Lib.hid (HB.out.trans (hb2.mono HB.out.size))
                        have HO2 := Lib.hid (own_keep HO.out hb2)
                        have hz2 : w.heap.size ≤ w2.heap.size := HB2.out.size
                        clear hb2 hcv
                        go_wp2_with (first
                          | (at_builtin
                             refine wpList_append_row rfl (.tmp 80) (.tmp 89) rfl ef w.heap.size _ k (fv fs) rfl (HO2.out.alloc _) _ _ 1 1 (fv [⟨2, 0, str s⟩]) rfl (one_fld _ _ ⟨2, 0, str s⟩ (by simp)) (fv_one _) (by omega) (by omega) (by simp; omega) ?_
                             intro A2 c2 w3 hown3 _ hb3
                             have HO3 := Lib.hid hown3
                             have HB3 := Lib.hid ((HB2.out.alloc (by omega) _).trans hb3)
                             clear hown3 hb3))
                        go_roundw
                        case rel =>
                          refine ⟨k + 1, a + 3, fs ++ [⟨2, 0, str s⟩], A2, c2, by omega, by go_num, by omega, by go_num, rfl, by rw [fv_append]; exact HO3.out, HB3.out, ?_⟩
                          rw [HT.out, HD.out]
                          have := after_step (fs := fs) (n := N - k) (m := N - (k + 1)) HQ.out (by omega)
                          rw [this]
                          rfl
                        case measure => simp [intOf]; omega
                      · have hcv := (HRw.out.mid (a := a + 1 + 2) (m := m) (by omega) hce).str (P := Try.prog) Try.underlying35 Try.underlying5 Try.underlying9
                        generalize hs : (l.drop (a + 1 + 2)).take m = s at hcv
                        have HS := Lib.hid (show (l.drop (a + 3)).take m = s from hs)
                        rw [HS.out] at HQ
                        clear hs
                        have hch : a + 1 + 2 + m ≤ c := by omega
                        go_wp2_with fail
                        refine (text_any _ _).mono ?_
                        rintro e w2 ⟨rfl, hb2⟩
                        have HB2 := Lib.hid (HB.out.trans (hb2.mono HB.out.size))
                        have HO2 := Lib.hid (own_keep HO.out hb2)
                        have hz2 : w.heap.size ≤ w2.heap.size := HB2.out.size
                        clear hb2 hcv
                        go_wp2_with (first
                          | (at_builtin
                             refine wpList_append_row rfl (.tmp 80) (.tmp 89) rfl ef w.heap.size _ k (fv fs) rfl (HO2.out.alloc _) _ _ 1 1 (fv [⟨2, 0, str s⟩]) rfl (one_fld _ _ ⟨2, 0, str s⟩ (by simp)) (fv_one _) (by omega) (by omega) (by simp; omega) ?_
                             intro A2 c2 w3 hown3 _ hb3
                             have HO3 := Lib.hid hown3
                             have HB3 := Lib.hid ((HB2.out.alloc (by omega) _).trans hb3)
                             clear hown3 hb3))
                        go_roundw
                        case rel =>
                          refine ⟨k + 1, a + 3 + m, fs ++ [⟨2, 0, str s⟩], A2, c2, by omega, by go_num, by omega, by go_num, rfl, by rw [fv_append]; exact HO3.out, HB3.out, ?_⟩
                          rw [HT.out, HD.out]
                          have := after_step (fs := fs) (n := N - k) (m := N - (k + 1)) HQ.out (by omega)
                          rw [this]
                          rfl
                        case measure => simp [intOf]; omega
              · have h2' : ((z.toNat : Int) == 2) = false := by
                  simp only [beq_eq_false_iff_ne, ne_eq]
                  intro h
                  exact h2z (UInt8.toNat_inj.1 (by simpa using (by omega : z.toNat = 2)))
                go_wp2
                go_ret2
                exact decoded_err (dec_err h2l (by rw [HY.out]; exact hsm) (by rw [HY.out, HT.out]; exact after_err (by rw [HD.out]; exact takeF_other h1 h2z) (by omega))) rfl HB.out
        · have HE := Lib.hid (HT.out.trans (after_end (by omega)))
          clear HT
          have HF := Lib.hid (dec_left h2l (by rw [HY.out]; exact hsm) (by rw [HY.out]; exact HE.out))
          have HO4 := Lib.hid (Flds.of_own HO.out)
          by_cases hpos : a < n
          · go_wp2
            go_ret2
            exact decoded_err (by rw [HF.out, if_pos (by rw [List.length_drop, HL.out]; omega)]) rfl HB.out
          · go_wp2
            go_ret2
            refine ⟨A1, k, c1, ?_, ?_, HB.out⟩
            · rw [HF.out, if_neg (by rw [List.length_drop, HL.out]; omega)]; rfl
            · rw [HF.out, if_neg (by rw [List.length_drop, HL.out]; omega)]; exact HO4.out
end Go.Proofs.Ytlkjmdkmcaaihaa.Field
