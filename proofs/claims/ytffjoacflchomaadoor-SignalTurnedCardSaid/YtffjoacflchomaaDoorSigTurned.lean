/-
  The walk of SignalTurned. No condition.
-/
import Derived.Test.YtffjoacflchomaaDoorSigLaw
import Derived.Test.YtffjoacflchomaaDoorPlayMod
import Derived.BigQuiet
import Derived.BigRegion
import Derived.Lib.ConvBytes
import Derived.Deep.DeepCutAuto
import Derived.Deep.RegionHeld3
import Derived.Lib.ConvBytes
namespace Go.Proofs.YtffjoacflchomaaDoor.Sig
set_option linter.unusedVariables false
set_option maxRecDepth 100000
set_option linter.unusedSimpArgs false
open Go.RowKit Base
open Go.Proofs.YtffjoacflchomaaDoor.Field (modZ modZ_lt mod_any)

theorem one_byte_str (x : Int) (w : World) (s : Nat) (hs : s = w.heap.size) : (convert 34 9 (.slice (some ⟨s, 0, none⟩) 1 1)).run Tryd.prog (w.alloc (.cells #[.int .u8 x] 5)) = .ok (.string (strOfNums [x])) (w.alloc (.cells #[.int .u8 x] 5)) := by
  subst hs
  exact run_convert_bytes_arg (P := Tryd.prog) _ 34 5 Tryd.underlying34 Tryd.underlying5 w.heap.size 0 1 1 [x] rfl (fun i hi => by
    obtain rfl : i = 0 := by omega
    simp) 9 Tryd.underlying9
theorem one_byte (w : World) (s : Nat) (x : Int) (hs : w.cell? ⟨s, 0, none⟩ = some (.int .u8 x)) : (convert 34 9 (.slice (some ⟨s, 0, none⟩) 1 1)).run Tryd.prog w = .ok (.string (strOfNums [x])) w :=
  run_convert_bytes_arg (P := Tryd.prog) w 34 5 Tryd.underlying34 Tryd.underlying5 s 0 1 1 [x] rfl (fun i hi => by
    obtain rfl : i = 0 := by omega
    simpa using hs) 9 Tryd.underlying9
theorem strOfNums_one (x : Int) : (strOfNums [x]).size = 1 := rfl
theorem back_any (w : World) (h c k n : Nat) (l : List UInt8) (hl : l.length = n) (hc : ∀ j (hj : j < l.length), w.cell? ⟨h, j, none⟩ = some (.int .u8 (l[j].toNat : Int))) :
    (convert 34 9 (.slice (some ⟨h, 0, none⟩) n c)).run Tryd.prog w = .ok (.string ⟨l.toArray⟩) w := by
  subst hl
  exact run_convert_bytes_back w 34 9 5 ⟨h, 0, none⟩ c l Tryd.underlying34 Tryd.underlying5 Tryd.underlying9 (fun j hj => by rw [add_none, Nat.zero_add]; exact hc j hj)

/-- a string's bytes in a new row, of which one is turned: what the walk wants of it -/
theorem bytes_turned (w : World) (x : ByteArray) (n : Nat) (hx : x.size = n) :
    ∃ (w2 : World) (c : Nat), (convert 9 34 (.string x)).run Tryd.prog w = .ok (.slice (some ⟨w.heap.size, 0, none⟩) n c) w2 ∧ Below w.heap.size w w2 ∧ w2.heap.size = w.heap.size + 1 ∧
      (∀ j, j < n → ∃ v : UInt8, w2.cell? ⟨w.heap.size, j, none⟩ = some (.int .u8 v.toNat)) ∧ ∀ j, j < n → w2.frozen? ⟨w.heap.size, j, none⟩ = false := by
  subst hx
  have hnew := Lib.bytesWorld_at_new w 5 x
  refine ⟨Lib.bytesWorld w 5 x, _, Lib.run_convert_string_bytes w 9 34 5 x Tryd.underlying9 Tryd.underlying34 Tryd.underlying5, ⟨rfl, rfl, rfl, by rw [Lib.bytesWorld_size]; omega, fun i hi => Lib.bytesWorld_at_old w _ x i hi⟩, Lib.bytesWorld_size .., fun j hj => ⟨_, Lib.bytesWorld_cell w _ x j hj⟩, fun j hj => ?_⟩
  have hs : x.size ≤ (Lib.bytesCells w 5 x).size := by simp [Lib.bytesCells]
  simp only [World.frozen?, hnew]
  simp
  omega

theorem row_turned (w : World) (h k n c : Nat) (y : Int) (hy : 0 ≤ y ∧ y < 256) (hh : h < w.heap.size) (hc : ∀ j, j < n → ∃ v : UInt8, w.cell? ⟨h, j, none⟩ = some (.int .u8 v.toNat)) :
    ∃ z : ByteArray, z.size = n ∧ ∀ V, Below (w.setCell ⟨h, k, none⟩ (.int .u8 y)).heap.size (w.setCell ⟨h, k, none⟩ (.int .u8 y)) V → (convert 34 9 (.slice (some ⟨h, 0, none⟩) n c)).run Tryd.prog V = .ok (.string z) V := by
  have hc2 : ∀ j, j < n → ∃ v : UInt8, (w.setCell ⟨h, k, none⟩ (.int .u8 y)).cell? ⟨h, j, none⟩ = some (.int .u8 v.toNat) := fun j hj => by
    obtain ⟨v, hv⟩ := hc j hj
    by_cases hjk : j = k
    · subst hjk
      refine ⟨y.toNat.toUInt8, ?_⟩
      rw [show ((y.toNat.toUInt8.toNat : Nat) : Int) = y by rw [UInt8.toNat_ofNat', Nat.mod_eq_of_lt (by omega)]; omega]
      simp only [World.cell?, World.setCell, Array.getElem?_modify, if_pos rfl] at hv ⊢
      cases hw : w.heap[h]? with
      | none => rw [hw] at hv; simp at hv
      | some o =>
        rw [hw] at hv
        cases o with
        | cells cs ty fr =>
          simp only [Option.bind_some] at hv
          have : j < cs.size := (Array.getElem?_eq_some_iff.1 hv).1
          simp [this]
        | _ => simp at hv
    · exact ⟨v, (World.cell?_setCell_other w _ _ _ (fun e => hjk (by injection e with _ e2 _; omega))).trans hv⟩
  have hl : ∃ l : List UInt8, l.length = n ∧ ∀ j (hj : j < l.length), (w.setCell ⟨h, k, none⟩ (.int .u8 y)).cell? ⟨h, j, none⟩ = some (.int .u8 (l[j].toNat : Int)) :=
    ⟨(List.range n).map fun j => if hj : j < n then Classical.choose (hc2 j hj) else 0, by simp, fun j hj => by
      have hj' : j < n := by simpa using hj
      simp only [List.getElem_map, List.getElem_range, hj', dif_pos]
      exact Classical.choose_spec (hc2 j hj')⟩
  obtain ⟨l, hl, hcell⟩ := hl
  refine ⟨⟨l.toArray⟩, by rw [← hl]; rfl, fun V hV => back_any V h c k n l hl fun j hj => (hV.cell (by simpa [World.setCell] using hh)).trans (hcell j hj)⟩

set_option maxHeartbeats 1600000 in
theorem turned_walk (a b c : Int) (y : Int) (long : Bool) (w : World) (hy : 0 ≤ y ∧ y < 256) :
    Calls Tryd.prog 5 #[.int .i64 a, .int .i64 b, .int .i64 c, .int .u8 y, .bool long] w fun e w' => e = .returned (.bool true) ∧ Below w.heap.size w w' := by
  have hm1 := modZ_lt a (n := 8) (by omega)
  have hm2 := modZ_lt b (n := 8) (by omega)
  generalize hq1 : modZ a 8 = m1 at hm1
  generalize hq2 : modZ b 8 = m2 at hm2
  have HQ1 := Lib.hid hq1
  have HQ2 := Lib.hid hq2
  clear hq1 hq2
  go_enter Tryd.func5, Tryd.ntmps5
  go_wp2_with fail
  refine (mod_any _ 8 _ (by omega) (by omega)).mono ?_
  rintro e w2 ⟨rfl, rfl⟩
  rw [HQ1.out]
  have hcv := one_byte_str (48 + (m1 : Int)) w _ rfl
  have hs1 := strOfNums_one (48 + (m1 : Int))
  generalize strOfNums [48 + (m1 : Int)] = z1 at hcv hs1
  cases long
  · go_wp2_with fail
    have hx : ((⟨#[115, 110, 97, 112, 115, 104, 111, 116, 32]⟩ : ByteArray) ++ z1).size = 10 := by rw [ByteArray.size_append, hs1]; rfl
    generalize (⟨#[115, 110, 97, 112, 115, 104, 111, 116, 32]⟩ : ByteArray) ++ z1 = x at hx
    have HB1 : Hid (Below w.heap.size w (w.alloc (.cells #[.int .u8 (48 + (m1 : Int))] 5))) := (Below.refl _ _).alloc (Nat.le_refl _) _
    clear hcv
    generalize w.alloc (.cells #[.int .u8 (48 + (m1 : Int))] 5) = W1 at HB1
    refine (mod_any _ 10 _ (by omega) (by omega)).mono ?_
    rintro e w2 ⟨rfl, rfl⟩
    have hk := modZ_lt c (n := 10) (by omega)
    generalize modZ c 10 = k at hk
    obtain ⟨W2, cap, kc, hb2, hz2, hcs, hfs⟩ := bytes_turned W1 x 10 hx
    obtain ⟨v, hv⟩ := hcs k hk
    have hfk := hfs k hk
    have HC := Lib.hid hcs
    have HB2 := Lib.hid hb2
    have hlt2 : W1.heap.size < W2.heap.size := by omega
    clear hcs hfs hb2
    go_upto_region 7 with fail
    obtain ⟨z, hz, HZ⟩ := row_turned W2 W1.heap.size k 10 cap (((v.toNat : Int) + y) % 256) (by omega) hlt2 HC.out
    have HB3 := Lib.hid ((HB1.out.trans (HB2.out.mono HB1.out.size)).setCell (p := ⟨W1.heap.size, k, none⟩) (by exact HB1.out.size) (.int .u8 (((v.toNat : Int) + y) % 256)))
    generalize W2.setCell ⟨W1.heap.size, k, none⟩ (.int .u8 (((v.toNat : Int) + y) % 256)) = W3 at HB3 HZ
    have o1 := fun (V : World) (s : Nat) hs => one_byte V s y hs
    have o2 := strOfNums_one y
    generalize strOfNums [y] = z2 at o1 o2
    clear kc hv hfk
    have d0 := HZ W3.drew (below_drewN (Below.refl _ _) 1)
    have d1 := HZ (W3.alloc (.cells #[.int .u8 y] 5)).drew (below_drewN ((Below.refl _ _).alloc (Nat.le_refl _) _) 1)
    have d2 := HZ ((W3.alloc (.cells #[.int .u8 y] 5)).alloc (.cells #[.int .u8 y] 5)).drew (below_drewN (((Below.refl _ _).alloc (Nat.le_refl _) _).alloc (by simp) _) 1)
    have d3 := o1 (W3.alloc (.cells #[.int .u8 y] 5)).drew W3.heap.size (by simp)
    have d4 := o1 ((W3.alloc (.cells #[.int .u8 y] 5)).alloc (.cells #[.int .u8 y] 5)).drew W3.heap.size (by simp)
    have d5 := o1 ((W3.alloc (.cells #[.int .u8 y] 5)).alloc (.cells #[.int .u8 y] 5)).drew (W3.heap.size + 1) (by simp)
    clear o1
    have hls : ∀ q ∈ [x, z, x.extract 0 k ++ x.extract (k + 1) 10, x.extract 0 k ++ z2 ++ x.extract k 10, x ++ ⟨#[32]⟩, x ++ z2], q.size ≤ 9223372036854775806 := by
      have z1 : (⟨#[32]⟩ : ByteArray).size = 1 := rfl
      intro q hq
      simp only [List.mem_cons, List.not_mem_nil, or_false] at hq
      rcases hq with rfl | rfl | rfl | rfl | rfl | rfl <;> (try simp only [ByteArray.size_append, ByteArray.size_extract, z1]) <;> omega
    have HLS := Lib.hid hls
    clear hls
    go_region
    all_goals
      have hb4 := (HB3.out.alloc HB3.out.size (.cells #[.int .u8 y] 5)).alloc (by simp; have := HB3.out.size; omega) (.cells #[.int .u8 y] 5)
      have e4 : ((W3.alloc (.cells #[.int .u8 y] 5)).alloc (.cells #[.int .u8 y] 5)).heap.size = W3.heap.size + 1 + 1 := by simp
      generalize (W3.alloc (.cells #[.int .u8 y] 5)).alloc (.cells #[.int .u8 y] 5) = W4 at hb4 e4
      have HX0 : Hid (Texts (W4.alloc (.cells #[.string x, .string z, .string (x.extract 0 k ++ x.extract (k + 1) 10), .string (x.extract 0 k ++ z2 ++ x.extract k 10), .string (x ++ ⟨#[32]⟩), .string (x ++ z2)] 9)).drew (W4.heap.size + 1) W4.heap.size 6 [x, z, x.extract 0 k ++ x.extract (k + 1) 10, x.extract 0 k ++ z2 ++ x.extract k 10, x ++ ⟨#[32]⟩, x ++ z2]) := Texts.new W4 9 6 [x, z, x.extract 0 k ++ x.extract (k + 1) 10, x.extract 0 k ++ z2 ++ x.extract k 10, x ++ ⟨#[32]⟩, x ++ z2] #[.string x, .string z, .string (x.extract 0 k ++ x.extract (k + 1) 10), .string (x.extract 0 k ++ z2 ++ x.extract k 10), .string (x ++ ⟨#[32]⟩), .string (x ++ z2)] rfl rfl HLS.out
      have HB4 := Lib.hid (below_drewN (hb4.alloc hb4.size (.cells #[.string x, .string z, .string (x.extract 0 k ++ x.extract (k + 1) 10), .string (x.extract 0 k ++ z2 ++ x.extract k 10), .string (x ++ ⟨#[32]⟩), .string (x ++ z2)] 9)) 1)
      clear hb4
      have hZ5 : W4.heap.size + 1 ≤ (W4.alloc (.cells #[.string x, .string z, .string (x.extract 0 k ++ x.extract (k + 1) 10), .string (x.extract 0 k ++ z2 ++ x.extract k 10), .string (x ++ ⟨#[32]⟩), .string (x ++ z2)] 9)).drew.heap.size := by simp
      generalize W4.alloc (.cells #[.string x, .string z, .string (x.extract 0 k ++ x.extract (k + 1) 10), .string (x.extract 0 k ++ z2 ++ x.extract k 10), .string (x ++ ⟨#[32]⟩), .string (x ++ z2)] 9) = W5 at HX0 HB4 hZ5
      have hz5 : W4.heap.size + 1 ≤ W5.drew.heap.size := hZ5
      rw [e4] at HX0 hz5
      clear e4
      generalize W3.heap.size + 1 + 1 = h4 at HX0 hz5 ⊢
      generalize hls2 : [x, z, x.extract 0 k ++ x.extract (k + 1) 10, x.extract 0 k ++ z2 ++ x.extract k 10, x ++ ⟨#[32]⟩, x ++ z2] = ls at HX0
      clear d0 d1 d2 d3 d4 d5 HZ HLS hls2
      go_wp2_with fail
      go_loopw [81] (fun i wr => ∃ q : Nat, q ≤ 6 ∧ i = .int .i64 q ∧ Below w.heap.size w wr ∧ Texts wr (h4 + 1) h4 6 ls ∧ h4 + 1 ≤ wr.heap.size) (fun i _ => 6 - (intOf i).toNat)
      case atStart => exact ⟨0, by omega, rfl, HB4.out, HX0.out, by omega⟩
      case round =>
        obtain ⟨q, hq, rfl, hbel, htx, hbw⟩ := hrel
        have HB6 := Lib.hid hbel
        have HX1 := Lib.hid htx
        have hz1 := hbel.size
        clear hbel htx
        by_cases hlt : q < 6
        · obtain ⟨g, hcx, hxs⟩ := HX1.out.at_ hlt
          have HXS := Lib.hid hxs
          obtain ⟨tt, kk, bb, hsv⟩ := says_parts (sg g.data.toList)
          have HSV := Lib.hid hsv
          clear hxs hsv
          go_wp2_with fail
          refine (parse_any g _ HXS.out).mono ?_
          rintro e v2 ⟨rfl, hb⟩
          rw [HSV.out]
          have hz2 := hb.size
          have HB7 := Lib.hid (HB6.out.trans (hb.mono hz1))
          have HX2 := Lib.hid (HX1.out.below (hb.mono hbw))
          clear hb
          go_wp2_with fail
          refine (refparse_any g _).mono ?_
          rintro e v3 ⟨rfl, hb⟩
          rw [HSV.out]
          have c0 : v3.cell? ⟨v2.heap.size, 0, none⟩ = some (.int .i64 tt) := (hb.cell (by simp)).trans (by simp)
          have c1 : v3.cell? ⟨v2.heap.size, 1, none⟩ = some (.int .i64 kk) := (hb.cell (by simp)).trans (by simp)
          have hz3 := hb.size
          simp only [World.size_alloc] at hz3
          have HB8 := Lib.hid ((HB7.out.alloc (by omega) (.cells #[.int .i64 tt, .int .i64 kk] 25)).trans (hb.mono (by simp; omega)))
          have HX3 := Lib.hid ((HX2.out.below ((Below.refl _ _).alloc (by omega) (.cells #[.int .i64 tt, .int .i64 kk] 25))).below (hb.mono (by simp; omega)))
          clear hb
          have hlt3 : v2.heap.size < v3.heap.size := by omega
          go_wp2
          exact ⟨⟨q + 1, by omega, by go_num, HB8.out.alloc HB8.out.size _, HX3.out.below ((Below.refl _ _).alloc (by omega) _), by simp; omega⟩, by simp [intOf]; omega⟩
        · obtain rfl : q = 6 := by omega
          go_wp2_with fail
          refine (awake_any wr).mono ?_
          rintro e v2 ⟨rfl, hb⟩
          have HB7 := Lib.hid (HB6.out.trans (hb.mono hz1))
          clear hb
          go_wp2
          go_ret
          exact ⟨rfl, HB7.out⟩
  · go_wp2_with fail
    refine (mod_any _ 8 _ (by omega) (by omega)).mono ?_
    rintro e w2 ⟨rfl, rfl⟩
    rw [HQ2.out]
    have HB1 : Hid (Below w.heap.size w (w.alloc (.cells #[.int .u8 (48 + (m1 : Int))] 5))) := (Below.refl _ _).alloc (Nat.le_refl _) _
    clear hcv
    generalize w.alloc (.cells #[.int .u8 (48 + (m1 : Int))] 5) = W0 at HB1
    have hcv := one_byte_str (49 + (m2 : Int)) W0 _ rfl
    have hs2 := strOfNums_one (49 + (m2 : Int))
    generalize strOfNums [49 + (m2 : Int)] = z2 at hcv hs2
    go_wp2_with fail
    have HB1 := Lib.hid (HB1.out.alloc HB1.out.size (.cells #[.int .u8 (49 + (m2 : Int))] 5))
    clear hcv
    generalize W0.alloc (.cells #[.int .u8 (49 + (m2 : Int))] 5) = W1 at HB1
    have hx : ((⟨#[115, 110, 97, 112, 115, 104, 111, 116, 32]⟩ : ByteArray) ++ z1 ++ ⟨#[32]⟩ ++ z2).size = 12 := by rw [ByteArray.size_append, ByteArray.size_append, ByteArray.size_append, hs1, hs2]; rfl
    generalize (⟨#[115, 110, 97, 112, 115, 104, 111, 116, 32]⟩ : ByteArray) ++ z1 ++ ⟨#[32]⟩ ++ z2 = x at hx
    clear hs1 hs2
    refine (mod_any _ 12 _ (by omega) (by omega)).mono ?_
    rintro e w2 ⟨rfl, rfl⟩
    have hk := modZ_lt c (n := 12) (by omega)
    generalize modZ c 12 = k at hk
    obtain ⟨W2, cap, kc, hb2, hz3, hcs, hfs⟩ := bytes_turned W1 x 12 hx
    obtain ⟨v, hv⟩ := hcs k hk
    have hfk := hfs k hk
    have HC := Lib.hid hcs
    have HB2 := Lib.hid hb2
    have hlt2 : W1.heap.size < W2.heap.size := by omega
    clear hcs hfs hb2
    go_upto_region 7 with fail
    obtain ⟨z, hz, HZ⟩ := row_turned W2 W1.heap.size k 12 cap (((v.toNat : Int) + y) % 256) (by omega) hlt2 HC.out
    have HB3 := Lib.hid ((HB1.out.trans (HB2.out.mono HB1.out.size)).setCell (p := ⟨W1.heap.size, k, none⟩) (by exact HB1.out.size) (.int .u8 (((v.toNat : Int) + y) % 256)))
    generalize W2.setCell ⟨W1.heap.size, k, none⟩ (.int .u8 (((v.toNat : Int) + y) % 256)) = W3 at HB3 HZ
    have o1 := fun (V : World) (s : Nat) hs => one_byte V s y hs
    have o2 := strOfNums_one y
    generalize strOfNums [y] = z3 at o1 o2
    clear kc hv hfk
    have d0 := HZ W3.drew (below_drewN (Below.refl _ _) 1)
    have d1 := HZ (W3.alloc (.cells #[.int .u8 y] 5)).drew (below_drewN ((Below.refl _ _).alloc (Nat.le_refl _) _) 1)
    have d2 := HZ ((W3.alloc (.cells #[.int .u8 y] 5)).alloc (.cells #[.int .u8 y] 5)).drew (below_drewN (((Below.refl _ _).alloc (Nat.le_refl _) _).alloc (by simp) _) 1)
    have d3 := o1 (W3.alloc (.cells #[.int .u8 y] 5)).drew W3.heap.size (by simp)
    have d4 := o1 ((W3.alloc (.cells #[.int .u8 y] 5)).alloc (.cells #[.int .u8 y] 5)).drew W3.heap.size (by simp)
    have d5 := o1 ((W3.alloc (.cells #[.int .u8 y] 5)).alloc (.cells #[.int .u8 y] 5)).drew (W3.heap.size + 1) (by simp)
    clear o1
    have hls : ∀ q ∈ [x, z, x.extract 0 k ++ x.extract (k + 1) 12, x.extract 0 k ++ z3 ++ x.extract k 12, x ++ ⟨#[32]⟩, x ++ z3], q.size ≤ 9223372036854775806 := by
      have z1 : (⟨#[32]⟩ : ByteArray).size = 1 := rfl
      intro q hq
      simp only [List.mem_cons, List.not_mem_nil, or_false] at hq
      rcases hq with rfl | rfl | rfl | rfl | rfl | rfl <;> (try simp only [ByteArray.size_append, ByteArray.size_extract, z1]) <;> omega
    have HLS := Lib.hid hls
    clear hls
    go_region
    all_goals
      have hb4 := (HB3.out.alloc HB3.out.size (.cells #[.int .u8 y] 5)).alloc (by simp; have := HB3.out.size; omega) (.cells #[.int .u8 y] 5)
      have e4 : ((W3.alloc (.cells #[.int .u8 y] 5)).alloc (.cells #[.int .u8 y] 5)).heap.size = W3.heap.size + 1 + 1 := by simp
      generalize (W3.alloc (.cells #[.int .u8 y] 5)).alloc (.cells #[.int .u8 y] 5) = W4 at hb4 e4
      have HX0 : Hid (Texts (W4.alloc (.cells #[.string x, .string z, .string (x.extract 0 k ++ x.extract (k + 1) 12), .string (x.extract 0 k ++ z3 ++ x.extract k 12), .string (x ++ ⟨#[32]⟩), .string (x ++ z3)] 9)).drew (W4.heap.size + 1) W4.heap.size 6 [x, z, x.extract 0 k ++ x.extract (k + 1) 12, x.extract 0 k ++ z3 ++ x.extract k 12, x ++ ⟨#[32]⟩, x ++ z3]) := Texts.new W4 9 6 [x, z, x.extract 0 k ++ x.extract (k + 1) 12, x.extract 0 k ++ z3 ++ x.extract k 12, x ++ ⟨#[32]⟩, x ++ z3] #[.string x, .string z, .string (x.extract 0 k ++ x.extract (k + 1) 12), .string (x.extract 0 k ++ z3 ++ x.extract k 12), .string (x ++ ⟨#[32]⟩), .string (x ++ z3)] rfl rfl HLS.out
      have HB4 := Lib.hid (below_drewN (hb4.alloc hb4.size (.cells #[.string x, .string z, .string (x.extract 0 k ++ x.extract (k + 1) 12), .string (x.extract 0 k ++ z3 ++ x.extract k 12), .string (x ++ ⟨#[32]⟩), .string (x ++ z3)] 9)) 1)
      clear hb4
      have hZ5 : W4.heap.size + 1 ≤ (W4.alloc (.cells #[.string x, .string z, .string (x.extract 0 k ++ x.extract (k + 1) 12), .string (x.extract 0 k ++ z3 ++ x.extract k 12), .string (x ++ ⟨#[32]⟩), .string (x ++ z3)] 9)).drew.heap.size := by simp
      generalize W4.alloc (.cells #[.string x, .string z, .string (x.extract 0 k ++ x.extract (k + 1) 12), .string (x.extract 0 k ++ z3 ++ x.extract k 12), .string (x ++ ⟨#[32]⟩), .string (x ++ z3)] 9) = W5 at HX0 HB4 hZ5
      have hz5 : W4.heap.size + 1 ≤ W5.drew.heap.size := hZ5
      rw [e4] at HX0 hz5
      clear e4
      generalize W3.heap.size + 1 + 1 = h4 at HX0 hz5 ⊢
      generalize hls2 : [x, z, x.extract 0 k ++ x.extract (k + 1) 12, x.extract 0 k ++ z3 ++ x.extract k 12, x ++ ⟨#[32]⟩, x ++ z3] = ls at HX0
      clear d0 d1 d2 d3 d4 d5 HZ HLS hls2
      go_wp2_with fail
      go_loopw [81] (fun i wr => ∃ q : Nat, q ≤ 6 ∧ i = .int .i64 q ∧ Below w.heap.size w wr ∧ Texts wr (h4 + 1) h4 6 ls ∧ h4 + 1 ≤ wr.heap.size) (fun i _ => 6 - (intOf i).toNat)
      case atStart => exact ⟨0, by omega, rfl, HB4.out, HX0.out, by omega⟩
      case round =>
        obtain ⟨q, hq, rfl, hbel, htx, hbw⟩ := hrel
        have HB6 := Lib.hid hbel
        have HX1 := Lib.hid htx
        have hz1 := hbel.size
        clear hbel htx
        by_cases hlt : q < 6
        · obtain ⟨g, hcx, hxs⟩ := HX1.out.at_ hlt
          have HXS := Lib.hid hxs
          obtain ⟨tt, kk, bb, hsv⟩ := says_parts (sg g.data.toList)
          have HSV := Lib.hid hsv
          clear hxs hsv
          go_wp2_with fail
          refine (parse_any g _ HXS.out).mono ?_
          rintro e v2 ⟨rfl, hb⟩
          rw [HSV.out]
          have hz3 := hb.size
          have HB7 := Lib.hid (HB6.out.trans (hb.mono hz1))
          have HX2 := Lib.hid (HX1.out.below (hb.mono hbw))
          clear hb
          go_wp2_with fail
          refine (refparse_any g _).mono ?_
          rintro e v3 ⟨rfl, hb⟩
          rw [HSV.out]
          have c0 : v3.cell? ⟨v2.heap.size, 0, none⟩ = some (.int .i64 tt) := (hb.cell (by simp)).trans (by simp)
          have c1 : v3.cell? ⟨v2.heap.size, 1, none⟩ = some (.int .i64 kk) := (hb.cell (by simp)).trans (by simp)
          have hz3 := hb.size
          simp only [World.size_alloc] at hz3
          have HB8 := Lib.hid ((HB7.out.alloc (by omega) (.cells #[.int .i64 tt, .int .i64 kk] 25)).trans (hb.mono (by simp; omega)))
          have HX3 := Lib.hid ((HX2.out.below ((Below.refl _ _).alloc (by omega) (.cells #[.int .i64 tt, .int .i64 kk] 25))).below (hb.mono (by simp; omega)))
          clear hb
          have hlt3 : v2.heap.size < v3.heap.size := by omega
          go_wp2
          exact ⟨⟨q + 1, by omega, by go_num, HB8.out.alloc HB8.out.size _, HX3.out.below ((Below.refl _ _).alloc (by omega) _), by simp; omega⟩, by simp [intOf]; omega⟩
        · obtain rfl : q = 6 := by omega
          go_wp2_with fail
          refine (awake_any wr).mono ?_
          rintro e v2 ⟨rfl, hb⟩
          have HB7 := Lib.hid (HB6.out.trans (hb.mono hz1))
          clear hb
          go_wp2
          go_ret
          exact ⟨rfl, HB7.out⟩
end Go.Proofs.YtffjoacflchomaaDoor.Sig
