/-
  The walk of the law IndexWalk: read piece by piece, each behind the last key of the one ahead, all rows come, once, rising.
-/
import Derived.Test.YtpklgbpgmeeeoaaIdxHelp
import Derived.Test.YtpklgbpgmeeeoaaIdxOpen
import Derived.Test.YtpklgbpgmeeeoaaPlayMod
namespace Go.Proofs.Ytpklgbpgmeeeoaa.Idx
set_option linter.unusedVariables false
set_option maxRecDepth 100000
open Go.RowKit Base IdxMath Foot
open Go.Sort (grow)
open Go.Proofs.Ytpklgbpgmeeeoaa.Field (modZ modZ_lt mod_any)
set_option linter.ambiguousOpen false
set_option linter.unusedSimpArgs false

theorem aft_at {l : List Rw} (h : Rise l) {p : Nat} {x : Rw} (hx : l[p]? = some x) : aft l x.key = p + 1 := by
  have hp : p < l.length := (List.getElem?_eq_some_iff.1 hx).1
  have e : pos l x.key = p := pos_of (by omega) (fun q y hq hy => h.get hq hy hx) (fun q y hq hy => by
    rcases Nat.lt_or_ge p q with h1 | h1
    · exact Int.le_of_lt (h.get h1 hx hy)
    · obtain rfl : p = q := by omega
      rw [hx] at hy
      injection hy with hy
      rw [hy]; exact Int.le_refl _)
  unfold aft
  rw [if_pos (there_yes (by rw [e]; exact hx) rfl), e]
theorem aft_min {l : List Rw} (h : Rise l) {m : Int} (hm : ∀ x ∈ l, m ≤ x.key) :
    ((IdxMath.get l m).isSome = true ∧ aft l m = 1 ∧ l.take 1 = [⟨m, getV l m⟩]) ∨ ((IdxMath.get l m).isSome = false ∧ aft l m = 0) := by
  cases l with
  | nil => exact .inr ⟨rfl, rfl⟩
  | cons x r =>
    by_cases e : x.key = m
    · subst e
      have hg : IdxMath.get (x :: r) x.key = some x.val := get_head
      refine .inl ⟨by rw [hg]; rfl, aft_at h rfl, ?_⟩
      unfold getV
      rw [hg]
      rfl
    · have hx := hm x List.mem_cons_self
      have hg : IdxMath.get (x :: r) m = none := get_none fun z hz => by
        rcases List.mem_cons.1 hz with rfl | hz
        · exact e
        · have := List.rel_of_pairwise_cons h hz; omega
      refine .inr ⟨by rw [hg]; rfl, ?_⟩
      have hlt : ¬ x.key < m := by omega
      simp [aft, there, pos, hlt, e]
theorem after_len {l : List Rw} (h : Rise l) (k : Int) (n : Nat) : after l k n = (l.drop (aft l k)).take n ∧ (after l k n).length = min n (l.length - aft l k) := by
  rw [after_eq h]
  refine ⟨rfl, ?_⟩
  rw [List.length_take, List.length_drop]
  rfl
theorem mem_make {l : List Rw} {x : Rw} (h : x ∈ make l) : ∃ y ∈ l, y.key = x.key := by
  have hs : (IdxMath.get (make l) x.key).isSome = true := by
    unfold IdxMath.get
    rw [Option.isSome_map, List.find?_isSome]
    exact ⟨x, h, by simp⟩
  rw [get_make] at hs
  unfold IdxMath.get at hs
  rw [Option.isSome_map, List.find?_isSome] at hs
  obtain ⟨y, hy, hyk⟩ := hs
  exact ⟨y, List.mem_reverse.1 hy, of_decide_eq_true hyk⟩
def WalkRel (w2 : World) (M : List Rw) (vi va vk : Value) (wr : World) : Prop :=
  ∃ (i j : Nat) (A : Option Addr) (c : Nat) (a : Int), vi = .int .i64 i ∧ va = .slice A j c ∧ vk = .int .i64 a ∧ i ≤ j ∧ j ≤ M.length ∧ aft M a = j ∧ wr.ownsRow w2.heap.size 38 2 (.slice A j c) j (rv (M.take j)) ∧ Below w2.heap.size w2 wr
theorem walkRel_start {w2 wx : World} {M : List Rw} {A3 : Option Addr} {j0 c3 : Nat} {a : Int} (h1 : aft M a = j0) (h2 : wx.ownsRow w2.heap.size 38 2 (.slice A3 j0 c3) j0 (rv (M.take j0))) (h3 : Below w2.heap.size w2 wx) : WalkRel w2 M (.int .i64 0) (.slice A3 j0 c3) (.int .i64 a) wx :=
  ⟨0, j0, A3, c3, a, rfl, rfl, rfl, Nat.zero_le _, by rw [← h1]; exact aft_le _ _, h1, h2, h3⟩
set_option maxHeartbeats 6400000 in
theorem walk_walk (A : Option Addr) (n c : Nat) (l : List Rw) (nn : Int) (w : World) (h : Rz w w.heap.size A n c l) (hi64 : I64s l) :
    Calls Try.prog 4 #[.slice A n c, .int .i64 nn] w fun e w' => e = .returned (.bool true) ∧ Below w.heap.size w w' := by
  have hle := h.1.le
  have HR := Lib.hid h
  have HL := Lib.hid h.1.len
  have HI := Lib.hid hi64
  clear h hi64
  by_cases h200 : 200 < n
  · go_enter Try.func4, Try.ntmps4
    go_wp2_with fail
    refine (awake_any _).mono ?_
    rintro e w1 ⟨rfl, hb⟩
    have HB := Lib.hid hb
    clear hb
    go_wp2
    go_ret
    exact ⟨rfl, HB.out⟩
  · have h200' : ¬ (200 : Int) < (n : Int) := by omega
    have h200'' : decide ((n : Int) > 200) = false := decide_eq_false (by omega)
    obtain ⟨M, hM⟩ : ∃ M, M = make l := ⟨_, rfl⟩
    have HRM : Hid (Rise M) := by rw [hM]; exact Rise.make l
    have hml : M.length ≤ 200 := by rw [hM]; have := make_length l; have := HL.out; omega
    have HMIN := Lib.hid (aft_min (l := M) HRM.out (m := -9223372036854775808) (by
      intro x hx
      rw [hM] at hx
      obtain ⟨y, hy, hyk⟩ := mem_make hx
      have := (HI.out y hy).1
      omega))
    obtain ⟨k, hk⟩ : ∃ k, k = modZ nn 9 := ⟨_, rfl⟩
    have hk9 : k < 9 := by rw [hk]; exact modZ_lt nn (by omega)
    have HK := Lib.hid hk
    obtain ⟨kk, hkk⟩ : ∃ kk, kk = 1 + k := ⟨_, rfl⟩
    have ekk : (1 : Int) + (k : Int) = (kk : Int) := by omega
    have hkk9 : 1 ≤ kk ∧ kk ≤ 9 := by omega
    clear hk hkk hk9
    go_enter Try.func4, Try.ntmps4
    go_wp2_with fail
    refine (new_any _ _ n c l _ HR.out.1 (Nat.le_refl _) (by omega)).mono ?_
    intro e w1 h1
    obtain ⟨p, rfl, hx, hb⟩ := h1.at_
    rw [← hM] at hx
    have HX := Lib.hid hx
    have HB := Lib.hid hb
    clear h1 hx hb hM
    go_wp2_with fail
    refine (mod_any nn 9 _ (by omega) (by omega)).mono ?_
    rintro e w1' ⟨rfl, rfl⟩
    rw [← HK.out]
    go_wp2_with fail
    refine (get_any _ p M (-9223372036854775808) w1 HX.out (by omega)).mono ?_
    rintro e w2 ⟨rfl, hb2⟩
    have HX2 := Lib.hid (HX.out.new hb2)
    have HB2 := Lib.hid (HB.out.trans (hb2.mono HB.out.size))
    have hs12 := hb2.size
    clear hb2 HX HB
    generalize getV M (-9223372036854775808) = gv at *
    generalize (IdxMath.get M (-9223372036854775808)).isSome = bt at *
    clear ekk
    go_upto_if 31 with fail
    go_cut [7] (fun va wx => ∃ (A3 : Option Addr) (j0 c3 : Nat), va = .slice A3 j0 c3 ∧ aft M (-9223372036854775808) = j0 ∧ wx.ownsRow w2.heap.size 38 2 (.slice A3 j0 c3) j0 (rv (M.take j0)) ∧ Below w2.heap.size w2 wx)
    case first =>
      rcases HMIN.out with ⟨rfl, h2, h3⟩ | ⟨rfl, h2⟩
      · have H23 := Lib.hid (And.intro h2 h3)
        clear h2 h3
        go_wp2_with (first
          | (at_builtin
             refine wpList_append_row rfl (.tmp 32) (.tmp 36) rfl er w2.heap.size (.slice none 0 0) 0 [] rfl (World.ownsRow_nil _ _ _ _) (w2.heap.size + 1) (some ⟨w2.heap.size, 0, none⟩) 1 1 (rv [(⟨-9223372036854775808, gv⟩ : Rw)]) rfl (one_row w2 _ gv rfl) (rv_one _) (by omega) (by omega) (by simp) ?_
             intro A3 c3 w3 hown3 _ hb3
             rw [Nat.zero_add, List.nil_append] at hown3
             rw [Nat.zero_add]
             have HO3 := Lib.hid hown3
             have HB3 := Lib.hid (((Below.refl w2.heap.size w2).alloc (Nat.le_refl _) (.cells #[.int .i64 (-9223372036854775808), .string gv] 38)).trans hb3)
             clear hown3 hb3)
          | fail)
        go_meet
        exact ⟨A3, 1, c3, rfl, H23.out.1, by rw [H23.out.2]; exact HO3.out, HB3.out⟩
      · have H2 := Lib.hid h2
        clear h2
        go_wp2_with fail
        go_meet
        exact ⟨none, 0, 0, rfl, H2.out, by rw [List.take_zero]; exact World.ownsRow_nil _ _ _ _, Below.refl _ _⟩
    case rest =>
      obtain ⟨A3, j0, c3, rfl, h1, h2, h3⟩ := hcut
      have S1 := Lib.hid (walkRel_start h1 h2 h3)
      clear h1 h2 h3
      go_wp2
      go_loopw [11, 7, 8] (fun vi va vk wr => WalkRel w2 M vi va vk wr) (fun vi _ _ _ => 300 - (RowKit.intOf vi).toNat)
      case atStart => exact S1.out
      case round =>
        obtain ⟨i, j, A4, c4, a, rfl, rfl, rfl, hij, hjM, haft, hown, hbr⟩ := hrel
        have HO := Lib.hid hown
        have HBR := Lib.hid hbr
        have HXr := Lib.hid (HX2.out.new hbr)
        have l1 : (i : Int) < 300 := by omega
        have l1' : i < 300 := by omega
        obtain ⟨hr1, hr2⟩ := after_len HRM.out a kk
        rw [haft] at hr1 hr2
        have HAFT := Lib.hid haft
        have HR12 := Lib.hid (And.intro hr1 hr2)
        have HR2 := Lib.hid hr2
        clear hown hbr haft hr1 hr2
        go_wp2_with fail
        refine (after_any _ p M a (kk : Int) wr HXr.out (by omega)).mono ?_
        have hr2 := HR2.out
        clear HR2
        generalize after M a (kk : Int) = r at *
        rintro e w5 ⟨A5, c5, rfl, ho5, hb5⟩
        obtain ⟨m, hm⟩ : ∃ m, m = r.length := ⟨_, rfl⟩
        rw [← hm] at ho5 hr2 ⊢
        have HM := Lib.hid hm
        have HO5 := Lib.hid (own_keep HO.out hb5)
        have HB5 := Lib.hid (HBR.out.trans (hb5.mono HBR.out.size))
        have HN5 := Lib.hid ho5
        have HHI := Lib.hid hr2
        have hmk : m ≤ kk := by omega
        have hs5 := hb5.size
        clear hm hb5 ho5
        have hmk2 : ¬ (kk : Int) < (m : Int) := by omega
        by_cases hm0 : m = 0
        · subst hm0
          have hj : j = M.length := by omega
          subst hj
          have HT : Hid (M.take M.length = M) := List.take_length
          have HX5 := Lib.hid (HX2.out.new HB5.out)
          have hrs : Rs w5 w5.heap.size A4 M.length c4 M := by have := HO5.out; rw [HT.out] at this; exact Rs.of_own this
          have HRS := Lib.hid hrs
          clear hrs hr2
          generalize hN : M.length = N at *
          have HNN := Lib.hid hN
          clear hN
          go_wp2
          go_loopw [13] (fun v wr => ∃ (i : Nat) (q : Nat), v = .int .i64 i ∧ 1 ≤ i ∧ wr = w5.drewN q) (fun v _ => N - (RowKit.intOf v).toNat)
          case atStart => exact ⟨1, 0, rfl, Nat.le_refl _, rfl⟩
          case round =>
            obtain ⟨i2, q, rfl, hi2, rfl⟩ := hrel
            by_cases hlt : i2 < N
            · obtain ⟨ip, rfl⟩ : ∃ ip, i2 = ip + 1 := ⟨i2 - 1, by omega⟩
              obtain ⟨b, off, x, rfl, _, d0, _, hx, _⟩ := HRS.out.at_ (k := ip) (by omega)
              obtain ⟨b', off', y, hA, _, e0, _, hy, _⟩ := HRS.out.at_ (k := ip + 1) hlt
              simp only [Option.some.injEq, Addr.mk.injEq, and_true] at hA
              obtain ⟨rfl, rfl⟩ := hA
              have hxy := HRM.out.get (by omega) hx hy
              have hxy2 : decide (y.key ≤ x.key) = false := decide_eq_false (by omega)
              have q1 : (ip : Int) + 1 < (N : Int) := by omega
              have q2 : (ip : Int) < (N : Int) := by omega
              have q3 : (0 : Int) ≤ (ip : Int) + 1 := by omega
              have q4 : ((ip : Int) + 1).toNat = ip + 1 := by omega
              have q5 : IntKind.i64.wrap (ip : Int) = (ip : Int) := by rw [IntKind.wrap_i64]; omega
              clear hx hy
              go_wp2_with fail
              go_quiet (fail)
              go_wp2
              go_roundw
              case rel => exact ⟨ip + 1 + 1, q + nq, by go_num, by omega, by first | rfl | rw [World.drewN_drewN]⟩
              case measure => simp [RowKit.intOf]; omega
            · have HXq := Lib.hid (HX5.out.drewN q)
              have HRq : Hid (Rs (w5.drewN q) w5.heap.size A4 N c4 M) := HRS.out
              have HBq := Lib.hid (HB2.out.trans ((below_drewN HB5.out q).mono HB2.out.size))
              have q1 : ¬ (i2 : Int) < (N : Int) := by omega
              go_wp2_with fail
              refine (awake_any _).mono ?_
              rintro e wa ⟨rfl, hba⟩
              have HXa := Lib.hid (HXq.out.new hba)
              have HRa := Lib.hid (HRq.out.below hba)
              have HBa := Lib.hid (HBq.out.trans (hba.mono HBq.out.size))
              have hsa : w5.heap.size ≤ wa.heap.size := hba.size
              clear hba HXq HRq HBq
              go_wp2_with fail
              refine (all_any _ p _ wa HXa.out (by have := HNN.out; omega)).mono ?_
              rintro e wb ⟨Ab, cb, rfl, hob, hbb⟩
              have HXb := Lib.hid (HXa.out.new hbb)
              have HRb := Lib.hid (HRa.out.below (hbb.mono hsa))
              have HBb := Lib.hid (HBa.out.trans (hbb.mono HBa.out.size))
              have HOb := Lib.hid (Rs.of_own hob)
              have hsb : w5.heap.size ≤ wb.heap.size := Nat.le_trans hsa hbb.size
              clear hob hbb HXa HRa HBa
              go_wp2_with fail
              refine (rplain_same w5.heap.size wb.heap.size A4 Ab N _ c4 cb M wb HRb.out HOb.out hsb (Nat.le_refl _)).mono ?_
              rintro e wc ⟨rfl, hbc⟩
              have HXc := Lib.hid (HXb.out.new hbc)
              have HBc := Lib.hid (HBb.out.trans (hbc.mono HBb.out.size))
              clear hbc HXb HRb HBb HOb
              go_wp2_with fail
              refine (len_any _ p _ wc HXc.out).mono ?_
              rintro e wd ⟨rfl, rfl⟩
              rw [HNN.out]
              go_wp2
              go_ret
              exact ⟨ret_bool' (by simp), HBc.out⟩
        · obtain ⟨mp, rfl⟩ : ∃ mp, m = mp + 1 := ⟨m - 1, by omega⟩
          have hjm : j + (mp + 1) ≤ M.length := by omega
          obtain ⟨y, hy⟩ : ∃ y, r[mp]? = some y := ⟨_, List.getElem?_eq_getElem (by rw [← HM.out]; omega)⟩
          have hyM : M[j + mp]? = some y := by
            have e := HR12.out.1
            rw [e, List.getElem?_take_of_lt (by omega), List.getElem?_drop] at hy
            exact hy
          have HAY := Lib.hid (aft_at HRM.out hyM)
          have HTK : Hid (M.take j ++ r = M.take (j + (mp + 1))) := by
            show _ = _
            have e := HR12.out.1
            have e2 : r = (M.drop j).take (mp + 1) := by
              have hr3 := HHI.out
              rw [e]
              rcases Nat.le_total kk (M.length - j) with h | h
              · rw [show mp + 1 = kk by omega]
              · rw [List.take_of_length_le (by rw [List.length_drop]; exact h), List.take_of_length_le (by rw [List.length_drop]; omega)]
            rw [e2]
            exact (List.take_add ..).symm
          have HRS := Lib.hid (Rs.of_own HN5.out)
          obtain ⟨b5, off5, y', hA5, hb5b, d0, _, hy', _⟩ := HRS.out.at_ (k := mp) (by omega)
          obtain rfl : y = y' := by rw [hy] at hy'; injection hy'
          have hnew : wr.heap.size ≤ b5 := by
            have := (HN5.out.lt b5 (by rw [hA5]; rfl)).1
            exact this
          have HOL := Lib.hid (fun g hg => own_lt (g := g) HO.out hg)
          subst hA5
          have q1 : (mp : Int) < (mp : Int) + 1 := by omega
          clear hy hyM hy' hr2
          go_wp2_with (first
            | (at_builtin
               refine wpList_append_row rfl (.tmp 53) (.tmp 54) rfl er w2.heap.size (.slice A4 j c4) j (rv (M.take j)) rfl HO5.out w5.heap.size (some ⟨b5, off5, none⟩) (mp + 1) c5 (rv r) rfl HRS.out (rv_one _) (by omega) (by omega) HB5.out.size ?_
               intro A6 c6 w6 hown6 hgr6 hb6
               rw [← rv_append, HTK.out] at hown6
               have HO6 := Lib.hid hown6
               have HB6 := Lib.hid (HB5.out.trans hb6)
               have d6 := (hgr6.cell (p := ⟨b5, off5 + mp * 2, none⟩) hb5b (by intro e; have := HOL.out b5 e.symm; omega)).trans d0
               clear hown6 hgr6 hb6)
            | fail)
          go_roundw
          case rel => exact ⟨i + 1, j + (mp + 1), A6, c6, y.key, by go_num, rfl, rfl, by omega, hjm, by rw [HAY.out]; omega, HO6.out, HB6.out⟩
          case measure => simp [RowKit.intOf]; omega
end Go.Proofs.Ytpklgbpgmeeeoaa.Idx
