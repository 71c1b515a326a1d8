/-
  The laws on signals: what is walked of each. No condition but that a text is no longer than one may be.
-/
import Derived.Test.YtffjoacflchomaaDoorSigRef
namespace Go.Proofs.YtffjoacflchomaaDoor.Sig
set_option linter.unusedVariables false
set_option maxRecDepth 100000
open Go.RowKit Base

theorem says_parts (o : Option (Nat × Nat)) : ∃ (t k : Int) (b : Bool), Says o = .tuple #[.agg #[.int .i64 t, .int .i64 k], .bool b] := ⟨_, _, _, rfl⟩

set_option maxHeartbeats 1600000 in
theorem awake_any (w : World) :
    Calls Tryd.prog 6 #[] w fun e w' => e = .returned (.bool true) ∧ Below w.heap.size w w' := by
  go_enter Tryd.func6, Tryd.ntmps6
  go_wp2_with fail
  refine (parse_any ⟨#[115, 110, 97, 112, 115, 104, 111, 116, 32, 51]⟩ _ (by decide)).mono ?_
  rintro e w1 ⟨rfl, hb⟩
  rw [show Says (sg (⟨#[115, 110, 97, 112, 115, 104, 111, 116, 32, 51]⟩ : ByteArray).data.toList) = .tuple #[.agg #[.int .i64 3, .int .i64 1], .bool true] from rfl]
  have HB := Lib.hid hb
  have hz := hb.size
  clear hb
  go_wp2_with fail
  refine (text_any 3 2 _).mono ?_
  rintro e w2 ⟨rfl, hb⟩
  rw [show TextAns 3 2 = .tuple #[.string ⟨#[115, 110, 97, 112, 115, 104, 111, 116, 32, 51, 32, 50]⟩, .bool true] from rfl]
  have c0 : w2.cell? ⟨w1.heap.size, 0, none⟩ = some (.int .i64 3) := (hb.cell (by simp)).trans (by simp)
  have c1 : w2.cell? ⟨w1.heap.size, 1, none⟩ = some (.int .i64 1) := (hb.cell (by simp)).trans (by simp)
  have HB2 := Lib.hid ((HB.out.alloc hz _).trans (hb.mono (by simp; omega)))
  clear hb
  go_wp2
  go_ret
  exact ⟨rfl, HB2.out⟩

/-- texts in memory, none too long -/
def Texts (w : World) (B b n : Nat) (xs : List ByteArray) : Prop := xs.length = n ∧ b < B ∧ (∀ (i : Nat) (x : ByteArray), xs[i]? = some x → w.cell? ⟨b, i, none⟩ = some (.string x)) ∧ ∀ x ∈ xs, x.size ≤ 9223372036854775806
theorem Texts.below {w w' : World} {B b n : Nat} {xs : List ByteArray} (h : Texts w B b n xs) (hb : Below B w w') : Texts w' B b n xs :=
  ⟨h.1, h.2.1, fun i x hx => (hb.cell (by exact h.2.1)).trans (h.2.2.1 i x hx), h.2.2.2⟩
theorem Texts.new (w : World) (e : TypeId) (n : Nat) (xs : List ByteArray) (cs : Array Value) (hc : cs = (xs.map Value.string).toArray) (hn : xs.length = n) (h : ∀ x ∈ xs, x.size ≤ 9223372036854775806) : Texts (w.alloc (.cells cs e)) (w.heap.size + 1) w.heap.size n xs := by
  subst hc
  refine ⟨hn, by omega, fun i x hx => ?_, h⟩
  rw [(Blk.new w e _).cell i]
  simp [hx]
theorem Texts.at_ {w : World} {B b n : Nat} {xs : List ByteArray} (h : Texts w B b n xs) {k : Nat} (hk : k < n) : ∃ x, w.cell? ⟨b, k, none⟩ = some (.string x) ∧ x.size ≤ 9223372036854775806 :=
  ⟨xs[k]'(by rw [h.1]; exact hk), h.2.2.1 k _ (List.getElem?_eq_getElem _), h.2.2.2 _ (List.getElem_mem _)⟩

set_option maxHeartbeats 1600000 in
theorem reads_walk (s t : ByteArray) (hs : s.size ≤ 140737488351232) (ht : t.size ≤ 140737488351232) (w : World) :
    Calls Tryd.prog 3 #[.string s, .string t] w fun e w' => e = .returned (.bool true) ∧ Below w.heap.size w w' := by
  go_enter Tryd.func3, Tryd.ntmps3
  go_wp2_with fail
  refine (awake_any w).mono ?_
  rintro e w1 ⟨rfl, hb⟩
  have HB := Lib.hid hb
  clear hb
  go_wp2_with fail
  have hx : Texts (w1.alloc (.cells #[.string s, .string (⟨#[115, 110, 97, 112, 115, 104, 111, 116, 32]⟩ ++ s), .string (⟨#[115, 110, 97, 112, 115, 104, 111, 116, 32]⟩ ++ t ++ ⟨#[32]⟩ ++ s), .string (⟨#[115, 110, 97, 112, 115, 104, 111, 116, 32, 49]⟩ ++ s), .string (s ++ ⟨#[115, 110, 97, 112, 115, 104, 111, 116, 32, 50]⟩)] 9)) (w1.heap.size + 1) w1.heap.size 5 [s, ⟨#[115, 110, 97, 112, 115, 104, 111, 116, 32]⟩ ++ s, ⟨#[115, 110, 97, 112, 115, 104, 111, 116, 32]⟩ ++ t ++ ⟨#[32]⟩ ++ s, ⟨#[115, 110, 97, 112, 115, 104, 111, 116, 32, 49]⟩ ++ s, s ++ ⟨#[115, 110, 97, 112, 115, 104, 111, 116, 32, 50]⟩] := by
    refine Texts.new _ _ _ _ _ rfl rfl ?_
    have z9 : (⟨#[115, 110, 97, 112, 115, 104, 111, 116, 32]⟩ : ByteArray).size = 9 := rfl
    have z10 : (⟨#[115, 110, 97, 112, 115, 104, 111, 116, 32, 49]⟩ : ByteArray).size = 10 := rfl
    have z11 : (⟨#[115, 110, 97, 112, 115, 104, 111, 116, 32, 50]⟩ : ByteArray).size = 10 := rfl
    have z1 : (⟨#[32]⟩ : ByteArray).size = 1 := rfl
    intro x hx
    simp only [List.mem_cons, List.not_mem_nil, or_false] at hx
    rcases hx with rfl | rfl | rfl | rfl | rfl <;> (try simp only [ByteArray.size_append, z9, z10, z11, z1]) <;> omega
  have HX0 := Lib.hid hx
  have HB0 := Lib.hid (HB.out.alloc HB.out.size (.cells #[.string s, .string (⟨#[115, 110, 97, 112, 115, 104, 111, 116, 32]⟩ ++ s), .string (⟨#[115, 110, 97, 112, 115, 104, 111, 116, 32]⟩ ++ t ++ ⟨#[32]⟩ ++ s), .string (⟨#[115, 110, 97, 112, 115, 104, 111, 116, 32, 49]⟩ ++ s), .string (s ++ ⟨#[115, 110, 97, 112, 115, 104, 111, 116, 32, 50]⟩)] 9))
  clear hx
  go_loopw [27] (fun i wr => ∃ k : Nat, k ≤ 5 ∧ i = .int .i64 k ∧ Below w.heap.size w wr ∧ Texts wr (w1.heap.size + 1) w1.heap.size 5 [s, ⟨#[115, 110, 97, 112, 115, 104, 111, 116, 32]⟩ ++ s, ⟨#[115, 110, 97, 112, 115, 104, 111, 116, 32]⟩ ++ t ++ ⟨#[32]⟩ ++ s, ⟨#[115, 110, 97, 112, 115, 104, 111, 116, 32, 49]⟩ ++ s, s ++ ⟨#[115, 110, 97, 112, 115, 104, 111, 116, 32, 50]⟩] ∧ w1.heap.size + 1 ≤ wr.heap.size) (fun i _ => 5 - (intOf i).toNat)
  case atStart => exact ⟨0, by omega, rfl, HB0.out, HX0.out, by simp⟩
  case round =>
    obtain ⟨k, hk, rfl, hbel, htx, hbw⟩ := hrel
    have HB1 := Lib.hid hbel
    have HX1 := Lib.hid htx
    have hz1 := hbel.size
    clear hbel htx
    by_cases hlt : k < 5
    · obtain ⟨x, hcx, hxs⟩ := HX1.out.at_ hlt
      have HXS := Lib.hid hxs
      obtain ⟨tt, kk, bb, hsv⟩ := says_parts (sg x.data.toList)
      have HSV := Lib.hid hsv
      clear hxs hsv
      go_wp2_with fail
      refine (parse_any x _ HXS.out).mono ?_
      rintro e w2 ⟨rfl, hb⟩
      rw [HSV.out]
      have hz2 := hb.size
      have HB2 := Lib.hid (HB1.out.trans (hb.mono hz1))
      have HX2 := Lib.hid (HX1.out.below (hb.mono hbw))
      clear hb
      go_wp2_with fail
      refine (refparse_any x _).mono ?_
      rintro e w3 ⟨rfl, hb⟩
      rw [HSV.out]
      have c0 : w3.cell? ⟨w2.heap.size, 0, none⟩ = some (.int .i64 tt) := (hb.cell (by simp)).trans (by simp)
      have c1 : w3.cell? ⟨w2.heap.size, 1, none⟩ = some (.int .i64 kk) := (hb.cell (by simp)).trans (by simp)
      have hz3 := hb.size
      simp only [World.size_alloc] at hz3
      have HB3 := Lib.hid ((HB2.out.alloc (by omega) (.cells #[.int .i64 tt, .int .i64 kk] 25)).trans (hb.mono (by simp; omega)))
      have HX3 := Lib.hid ((HX2.out.below ((Below.refl _ _).alloc (by omega) (.cells #[.int .i64 tt, .int .i64 kk] 25))).below (hb.mono (by simp; omega)))
      clear hb
      have hlt3 : w2.heap.size < w3.heap.size := by omega
      go_wp2
      exact ⟨⟨k + 1, by omega, by go_num, HB3.out.alloc HB3.out.size _, HX3.out.below ((Below.refl _ _).alloc (by omega) _), by simp; omega⟩, by simp [intOf]; omega⟩
    · obtain rfl : k = 5 := by omega
      go_wp2
      go_ret
      exact ⟨rfl, HB1.out⟩
end Go.Proofs.YtffjoacflchomaaDoor.Sig
