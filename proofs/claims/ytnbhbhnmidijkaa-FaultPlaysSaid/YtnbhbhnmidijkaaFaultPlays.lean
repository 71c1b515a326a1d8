/-
  The walk of the statement FaultPlays.
-/
import Derived.Test.YtnbhbhnmidijkaaFaultLaw
import Derived.Test.YtnbhbhnmidijkaaFaultOpens
import Derived.Deep.CutBlock
import Derived.Deep.DeepCutAuto
namespace Go.Proofs.Ytnbhbhnmidijkaa.Flt
set_option linter.unusedVariables false
set_option maxRecDepth 100000
open Go.RowKit Base FaultMath Foot
open Lsts (Lsts)
set_option linter.ambiguousOpen false
set_option linter.unusedSimpArgs false

def pick (k : Nat) (f : Ft) : Ft := if k % 3 = 0 then f else small f.kind f.keep
/-- the first k of l, as they are handed in -/
def ins (l : List Ft) : Nat → List Ft
  | 0 => []
  | k + 1 => ins l k ++ (match l[k]? with | some f => [pick k f] | none => [])
theorem ins_succ {l : List Ft} {k : Nat} {f : Ft} (h : l[k]? = some f) : ins l (k + 1) = ins l k ++ [pick k f] := by
  show ins l k ++ _ = _
  rw [h]

/-- the plan and the document's list, in one memory, apart -/
def Both (w : World) (g : Nat) (wr : World) (A : Option Addr) (m c : Nat) (L : List Ft) : Prop :=
  ∃ F, PlanAt F wr g L ∧ (∀ i, F i → w.heap.size ≤ i ∧ i < wr.heap.size) ∧ Fts wr wr.heap.size A m c L ∧ (∀ b, A.map (·.block) = some b → ¬ F b ∧ b < wr.heap.size) ∧ Below w.heap.size w wr
section
variable {w wr w2 : World} {g m c : Nat} {A : Option Addr} {L : List Ft}
theorem Both.new (h : Both w g wr A m c L) (hb : Below wr.heap.size wr w2) : Both w g w2 A m c L := by
  obtain ⟨F, h1, h2, h3, h4, h5⟩ := h
  have hz := hb.size
  exact ⟨F, h1.below hb, fun i hi => ⟨(h2 i hi).1, by have := (h2 i hi).2; omega⟩, (h3.below hb).more hz, fun b hb' => ⟨(h4 b hb').1, by have := (h4 b hb').2; omega⟩, held_two h5 hb⟩
theorem Both.base (h : Both w g wr A m c L) : Below w.heap.size w wr := by
  obtain ⟨F, h1, h2, h3, h4, h5⟩ := h
  exact h5
theorem Both.len (h : Both w g wr A m c L) : L.length = m ∧ m ≤ 1024 ∧ m ≤ c ∧ c ≤ 9223372036854775807 := by
  obtain ⟨F, h1, h2, h3, h4, h5⟩ := h
  exact ⟨h3.len, by rw [← h3.len]; exact h1.2.1, h3.le⟩
theorem Both.fts (h : Both w g wr A m c L) : Fts wr wr.heap.size A m c L := by
  obtain ⟨F, h1, h2, h3, h4, h5⟩ := h
  exact h3
theorem both_new (w : World) : Both w w.heap.size (w.alloc (.cells #[.slice none 0 0] 44)) none 0 0 [] :=
  ⟨_, plan_new w, fun i hi => out_none hi, Fts.nil_ _ _, fun b hb => (by cases hb), (Below.refl _ _).alloc (Nat.le_refl _) _⟩
theorem both_len (h : Both w g wr A m c L) : Calls Try.prog 14 #[.pointer (some ⟨g, 0, none⟩)] wr fun e w' => e = .returned (.int .i64 m) ∧ wr = w' := by
  have hl := h.len.1
  obtain ⟨F, h1, h2, h3, h4, h5⟩ := h
  rw [← hl]
  exact len_any F g L wr h1
/-- what both Pushes leave -/
def BPushed (w : World) (g : Nat) (L : List Ft) (m : Nat) (A2 : Option Addr) (m2 c2 : Nat) (w2 : World) (e : Ending) (w' : World) : Prop := e = .returned (.int .i64 (m2 - m : Nat)) ∧ Both w g w' A2 m2 c2 L
theorem both_push {wi : World} {Ai A2 : Option Addr} {k ci c2 : Nat} {ls : List Ft} (h : Both w g wi A m c L) (hi : Fts wi wi.heap.size Ai k ci ls) (hn : ∀ b, Ai.map (·.block) = some b → wr.heap.size ≤ b) (hw : Both w g wr A m c L) (hz : wr.heap.size ≤ wi.heap.size) (hbi : Below wr.heap.size wr wi)
    (hb : Below wi.heap.size wi w2) (hx : Fts w2 w2.heap.size A2 (push L ls).length c2 (push L ls)) (hp : ∀ b, A2.map (·.block) = some b → A.map (·.block) = some b ∨ (wi.heap.size ≤ b ∧ b < w2.heap.size)) :
    Calls Try.prog 13 #[.pointer (some ⟨g, 0, none⟩), .slice Ai k ci] w2 fun e w' => e = .returned (.int .i64 ((push L ls).length - m : Nat)) ∧ Both w g w' A2 (push L ls).length c2 (push L ls) := by
  obtain ⟨F, h1, h2, h3, h4, h5⟩ := hw
  have hl := h3.len
  have hz2 := hb.size
  refine (push_any F g _ Ai k ci L ls w2 ((h1.below hbi).below hb) ((hi.below hb).more hz2) (Nat.le_refl _) (fun _ b hb' hF => by have := hn b hb'; have := (h2 b hF).2; omega)).mono ?_
  rintro e w' ⟨rfl, hp', ht'⟩
  have hz' := ht'.size
  have hF : ∀ b, A2.map (·.block) = some b → ¬ F b ∧ b < w2.heap.size := fun b hb' => by
    rcases hp b hb' with h6 | h6
    · have := h4 b h6
      exact ⟨this.1, by omega⟩
    · exact ⟨fun hF => by have := (h2 b hF).2; omega, h6.2⟩
  refine ⟨by rw [hl], Out F w2 w', hp', fun i hi' => ?_, (Fts.turn hx (Nat.le_refl _) (fun _ b hb' => (hF b hb').1) ht').more hz', fun b hb' => ⟨fun ho => ?_, by have := (hF b hb').2; omega⟩, ?_⟩
  · have h6 := h5.size
    rcases hi' with h7 | h7
    · have := h2 i h7; omega
    · omega
  · rcases ho with h7 | h7
    · exact (hF b hb').1 h7
    · have := (hF b hb').2; omega
  · exact ((h5.trans (hbi.mono h5.size)).trans (hb.mono (by have := h5.size; omega))).trans (ht'.below (fun i hi' => (h2 i hi').1) (by have := h5.size; omega))
theorem both_next {f : Ft} {r : List Ft} (h : Both w g wr A m c (f :: r)) (hc : c ≠ 1) :
    Calls Try.prog 15 #[.pointer (some ⟨g, 0, none⟩)] wr fun e w' => e = .returned (.tuple #[.agg #[.int .i64 f.kind, .int .i64 f.keep], .bool true]) ∧ Both w g w' (A.map (·.add 2)) (m - 1) (c - 1) r ∧ Fts w' w'.heap.size A m c (f :: r) := by
  obtain ⟨F, h1, h2, h3, h4, h5⟩ := h
  have hl : r.length + 1 = m := h3.len
  refine (next_some F g f r wr h1).mono ?_
  rintro e w' ⟨rfl, hp', ht'⟩
  have hz := ht'.size
  have h3' := (Fts.turn h3 (Nat.le_refl _) (fun _ b hb' => (h4 b hb').1) ht').more hz
  have hcut := h3'.cut (k := 1) (by omega)
  rw [if_neg hc] at hcut
  refine ⟨rfl, ⟨F, hp', fun i hi => ⟨(h2 i hi).1, by have := (h2 i hi).2; omega⟩, hcut, fun b hb' => ?_, h5.trans (ht'.below (fun i hi => (h2 i hi).1) h5.size)⟩, h3'⟩
  have hb2 : A.map (·.block) = some b := by
    cases A with
    | none => cases hb'
    | some a =>
      rw [← hb']
      show _ = some (a.add _).block
      congr 1
  exact ⟨(h4 b hb2).1, by have := (h4 b hb2).2; omega⟩
end
/-- the plan has what the document's list has from number i on -/
def Rest (w : World) (g : Nat) (wr : World) (A : Option Addr) (m c : Nat) (L : List Ft) (i : Nat) : Prop :=
  ∃ F, PlanAt F wr g (L.drop i) ∧ (∀ j, F j → w.heap.size ≤ j ∧ j < wr.heap.size) ∧ Fts wr wr.heap.size A m c L ∧ (∀ b, A.map (·.block) = some b → ¬ F b ∧ b < wr.heap.size) ∧ Below w.heap.size w wr
section
variable {w wr w2 : World} {g m c i : Nat} {A : Option Addr} {L : List Ft}
theorem Both.rest (h : Both w g wr A m c L) : Rest w g wr A m c L 0 := h
theorem Rest.new (h : Rest w g wr A m c L i) (hb : Below wr.heap.size wr w2) : Rest w g w2 A m c L i := by
  obtain ⟨F, h1, h2, h3, h4, h5⟩ := h
  have hz := hb.size
  exact ⟨F, h1.below hb, fun i hi => ⟨(h2 i hi).1, by have := (h2 i hi).2; omega⟩, (h3.below hb).more hz, fun b hb' => ⟨(h4 b hb').1, by have := (h4 b hb').2; omega⟩, held_two h5 hb⟩
theorem Rest.fts (h : Rest w g wr A m c L i) : Fts wr wr.heap.size A m c L := by
  obtain ⟨F, h1, h2, h3, h4, h5⟩ := h
  exact h3
theorem Rest.base (h : Rest w g wr A m c L i) : Below w.heap.size w wr := by
  obtain ⟨F, h1, h2, h3, h4, h5⟩ := h
  exact h5
theorem rest_next {f : Ft} (h : Rest w g wr A m c L i) (hf : L[i]? = some f) :
    Calls Try.prog 15 #[.pointer (some ⟨g, 0, none⟩)] wr fun e w' => e = .returned (.tuple #[.agg #[.int .i64 f.kind, .int .i64 f.keep], .bool true]) ∧ Rest w g w' A m c L (i + 1) := by
  obtain ⟨F, h1, h2, h3, h4, h5⟩ := h
  have hlt := (List.getElem?_eq_some_iff.1 hf).1
  have hd : L.drop i = f :: L.drop (i + 1) := by
    rw [List.drop_eq_getElem_cons hlt]
    congr 1
    exact (List.getElem?_eq_some_iff.1 hf).2
  rw [hd] at h1
  refine (next_some F g f _ wr h1).mono ?_
  rintro e w' ⟨rfl, hp', ht'⟩
  have hz := ht'.size
  exact ⟨rfl, F, hp', fun i hi => ⟨(h2 i hi).1, by have := (h2 i hi).2; omega⟩, (Fts.turn h3 (Nat.le_refl _) (fun _ b hb' => (h4 b hb').1) ht').more hz, fun b hb' => ⟨(h4 b hb').1, by have := (h4 b hb').2; omega⟩, h5.trans (ht'.below (fun i hi => (h2 i hi).1) h5.size)⟩
theorem rest_end (h : Rest w g wr A m c L i) (hi : m ≤ i) : ∃ F, PlanAt F wr g [] := by
  obtain ⟨F, h1, h2, h3, h4, h5⟩ := h
  rw [List.drop_eq_nil_of_le (by rw [h3.len]; exact hi)] at h1
  exact ⟨F, h1⟩
end
def ReRel (w : World) (g : Nat) (A : Option Addr) (m c : Nat) (L : List Ft) (vi : Value) (wr : World) : Prop := ∃ i : Nat, i ≤ m ∧ vi = .int .i64 i ∧ Rest w g wr A m c L i
def slLen : Value → Nat
  | .slice _ n _ => n
  | _ => 0
def NxRel (w : World) (g : Nat) (vx : Value) (wr : World) : Prop := ∃ (A : Option Addr) (m c : Nat) (L : List Ft), vx = .slice A m c ∧ Both w g wr A m c L
theorem Both.box {w wr : World} {g m c : Nat} {A : Option Addr} {L : List Ft} (h : Both w g wr A m c L) (o : Obj) : Both w g (wr.alloc o) A m c L := h.new ((Below.refl _ _).alloc (Nat.le_refl _) _)
def PlRel (w : World) (g n0 : Nat) (vx vi : Value) (wr : World) : Prop := ∃ (i : Nat) (A : Option Addr) (m c : Nat) (L : List Ft), i ≤ n0 ∧ vi = .int .i64 i ∧ vx = .slice A m c ∧ Both w g wr A m c L
def InRel (wq : World) (l : List Ft) (n : Nat) (v vk : Value) (wr : World) : Prop := ∃ (k : Nat) (A : Option Addr) (c : Nat), vk = .int .i64 k ∧ v = .slice A k c ∧ k ≤ 30 ∧ k ≤ n ∧ wr.ownsRow wq.heap.size 23 2 v k (fv (ins l k)) ∧ Below wq.heap.size wq wr
set_option maxHeartbeats 12800000 in
theorem plays_walk (A0 : Option Addr) (n0 c0 : Nat) (LL : List (List Ft)) (A1 : Option Addr) (n1 c1 : Nat) (ts : List Bool) (w : World) (h : Lsts Fts w w.heap.size A0 n0 c0 LL) (ht : Bls w w.heap.size A1 n1 c1 ts) :
    Calls Try.prog 4 #[.slice A0 n0 c0, .slice A1 n1 c1] w fun e w' => e = .returned (.bool true) ∧ Below w.heap.size w w' := by
  have HL := Lib.hid h
  have HT := Lib.hid ht
  have hle := h.le
  have hlt : n1 ≤ c1 ∧ c1 ≤ 9223372036854775807 := Row.le ht
  clear h ht
  go_enter Try.func4, Try.ntmps4
  go_wp2_with fail
  refine (new_any w).mono ?_
  rintro e w1 ⟨rfl, hw1⟩
  have hbo := both_new w
  rw [← hw1] at hbo
  have HBO := Lib.hid hbo
  obtain ⟨g, hg⟩ : ∃ g, g = w.heap.size := ⟨_, rfl⟩
  rw [← hg] at HBO ⊢
  clear hw1 hg hbo
  go_upto_block 0 with fail
  go_cut [6] (fun vx wx => ∃ (A : Option Addr) (m c : Nat) (L : List Ft), vx = .slice A m c ∧ Both w g wx A m c L)
  case first =>
    go_wp2_with fail
    go_loopw [6, 7] (fun vx vi wr => PlRel w g n0 vx vi wr) (fun _ vi _ => n0 - (Go.RowKit.intOf vi).toNat)
    case atStart => exact ⟨0, none, 0, 0, [], Nat.zero_le _, rfl, rfl, HBO.out⟩
    case round =>
      obtain ⟨i, A, m, c, L, hin, rfl, rfl, hbo⟩ := hrel
      have HBO := Lib.hid hbo
      have HLEN := Lib.hid hbo.len
      have hmc := hbo.len
      clear hbo
      by_cases hlt : i < n0
      rotate_left
      · have l1 : decide ((i : Int) < (n0 : Int)) = false := decide_eq_false (by omega)
        have l1n : decide (i < n0) = false := decide_eq_false hlt
        go_wp2_with fail
        go_meet
        exact ⟨A, m, c, L, rfl, HBO.out⟩
      by_cases h30 : i < 30
      rotate_left
      · have l1 : (i : Int) < (n0 : Int) := by omega
        have l2 : decide ((i : Int) < 30) = false := decide_eq_false (by omega)
        go_wp2_with fail
        go_meet
        exact ⟨A, m, c, L, rfl, HBO.out⟩
      have l1 : (i : Int) < (n0 : Int) := by omega
      have l2 : (i : Int) < 30 := by omega
      obtain ⟨b, off, A2, n2, c2, l, rfl, hbB, q0, hR1, hl1, _⟩ := (HL.out.below HBO.out.base (fun _ _ _ _ h => h.below HBO.out.base)).at_ hlt
      have HQ0 := Lib.hid q0
      have HR1 := Lib.hid hR1
      have hle1 := hR1.le
      have hz := HBO.out.base.size
      clear q0 hR1 hl1
      generalize wr = wq at *
      go_upto_block 2 with fail
      go_cut [8, 9] (fun v vk wx => InRel wq l n2 v vk wx)
      case first =>
        go_wp2_with fail
        go_loopw [8, 9] (fun v vk wx => InRel wq l n2 v vk wx) (fun _ vk _ => n2 - (Go.RowKit.intOf vk).toNat)
        case atStart => exact ⟨0, none, 0, rfl, rfl, by omega, Nat.zero_le _, World.ownsRow_nil _ _ _ _, Below.refl _ _⟩
        case round =>
          obtain ⟨k, Ak, ck, rfl, rfl, hk30, hkn, ho, hbk⟩ := hrel
          have HO := Lib.hid ho
          have HBK := Lib.hid hbk
          have q0 := held_cell hbk HQ0.out
          have hck := (Row.of_own ho).le
          clear ho hbk
          by_cases hkl : k < n2
          rotate_left
          · have m1 : decide ((k : Int) < (n2 : Int)) = false := decide_eq_false (by omega)
            have m1n : decide (k < n2) = false := decide_eq_false hkl
            go_wp2_with fail
            go_meet
            exact ⟨k, Ak, ck, rfl, rfl, hk30, hkn, HO.out, HBK.out⟩
          by_cases hk3 : k < 30
          rotate_left
          · have m1 : (k : Int) < (n2 : Int) := by omega
            have m2 : decide ((k : Int) < 30) = false := decide_eq_false (by omega)
            go_wp2_with fail
            go_meet
            exact ⟨k, Ak, ck, rfl, rfl, hk30, hkn, HO.out, HBK.out⟩
          have m1 : (k : Int) < (n2 : Int) := by omega
          have m2 : (k : Int) < 30 := by omega
          obtain ⟨b1, off1, f, rfl, hb1, y0, y1, hf, _⟩ := (HR1.out.below (HBK.out.mono hz)).at_ hkl
          obtain ⟨k0, k1⟩ := f
          dsimp only at y0 y1
          have HF := Lib.hid hf
          clear hf
          by_cases h3 : k % 3 = 0
          · have t1 : ((k : Int).tmod 3) = 0 := by rw [Int.tmod_eq_emod_of_nonneg (by omega)]; omega
            have hn : ins l (k + 1) = ins l k ++ [⟨k0, k1⟩] := by rw [ins_succ HF.out]; unfold pick; rw [if_pos h3]
            have HN := Lib.hid hn
            clear hn
            have HX5 : Hid (Blk (wr.alloc (.cells #[.int .i64 k0, .int .i64 k1] 23)) wr.heap.size 23 #[.int .i64 k0, .int .i64 k1]) := Lib.hid (Blk.new _ _ _)
            have HB5 : Hid (Below wr.heap.size wr (wr.alloc (.cells #[.int .i64 k0, .int .i64 k1] 23))) := Lib.hid ((Below.refl _ _).alloc (Nat.le_refl _) _)
            go_upto_region 15 with fail
            clear y0 y1 q0
            generalize (wr.alloc (.cells #[.int .i64 k0, .int .i64 k1] 23)) = V at HX5 HB5 ⊢
            have x0 : V.cell? ⟨wr.heap.size, 0, none⟩ = some (.int .i64 k0) := HX5.out.cell 0
            have x1 : V.cell? ⟨wr.heap.size, 1, none⟩ = some (.int .i64 k1) := HX5.out.cell 1
            have HO5 := Lib.hid (own_keep HO.out HB5.out)
            have HB5' : Hid (Below wq.heap.size wq V) := Lib.hid (HBK.out.trans (HB5.out.mono HBK.out.size))
            clear HB5
            have HB5 := HB5'
            clear HB5'
            go_wp2_with (first
              | (at_builtin
                 refine wpList_append_row rfl (.tmp 57) (.tmp 59) rfl fel wq.heap.size _ k (fv (ins l k)) rfl (own_keep HO5.out ((Below.refl _ _).alloc (Nat.le_refl _) _)) _ _ 1 1 (fv [⟨k0, k1⟩]) rfl (fone V ⟨k0, k1⟩ rfl) (fv_one _) (by omega) (by omega) (by have := HB5.out.size; simp; omega) ?_
                 intro A4 c4 w4 ho4 _ hb4
                 rw [← fv_append] at ho4
                 have HO4 := Lib.hid ho4
                 have HB4 : Hid (Below wq.heap.size wq w4) := Lib.hid ((HB5.out.alloc HB5.out.size _).trans hb4)
                 clear ho4 hb4)
              | fail)
            go_roundw
            case rel => exact ⟨k + 1, A4, c4, by go_num, rfl, by omega, by omega, by rw [HN.out]; exact HO4.out, HB4.out⟩
            case measure => simp [Go.RowKit.intOf]; omega
          · have t1 : 0 < ((k : Int).tmod 3) := by rw [Int.tmod_eq_emod_of_nonneg (by omega)]; omega
            have hn : ins l (k + 1) = ins l k ++ [small k0 k1] := by rw [ins_succ HF.out]; unfold pick; rw [if_neg h3]
            have hs : Calls Try.prog 11 #[.agg #[.int .i64 k0, .int .i64 k1]] (wr.alloc (.cells #[.int .i64 k0, .int .i64 k1] 23)) fun e w' => e = .returned (fval (small k0 k1)) ∧ Below (wr.alloc (.cells #[.int .i64 k0, .int .i64 k1] 23)).heap.size (wr.alloc (.cells #[.int .i64 k0, .int .i64 k1] 23)) w' := playfault_any k0 k1 _
            generalize small k0 k1 = s at hn hs
            obtain ⟨s0, s1⟩ := s
            have HN := Lib.hid hn
            have HS := Lib.hid hs
            have HX := Lib.hid (Blk.new wr 23 #[.int .i64 k0, .int .i64 k1])
            have HXB : Hid (Below wr.heap.size wr (wr.alloc (.cells #[.int .i64 k0, .int .i64 k1] 23))) := Lib.hid ((Below.refl _ _).alloc (Nat.le_refl _) _)
            clear hn hs
            go_wp2_with fail
            refine HS.out.mono ?_
            rintro e w3 ⟨rfl, hb3⟩
            have hx3 := HX.out.below hb3 HX.out.lt
            have x0 := hx3.cell 0
            have x1 := hx3.cell 1
            have f0 := hx3.frozen 0
            have f1 := hx3.frozen 1
            have HX3 := Lib.hid hx3
            have HB3 := Lib.hid (held_two HXB.out hb3)
            have hz3 := hx3.lt
            unfold fval
            clear hb3 hx3 y0 y1 q0
            have HB5 : Hid (Below wr.heap.size wr ((w3.setCell ⟨wr.heap.size, 0, none⟩ (.int .i64 s0)).setCell ⟨wr.heap.size, 1, none⟩ (.int .i64 s1))) := Lib.hid ((HB3.out.setCell (by exact Nat.le_refl _) _).setCell (by exact Nat.le_refl _) _)
            have HX5 : Hid (Blk ((w3.setCell ⟨wr.heap.size, 0, none⟩ (.int .i64 s0)).setCell ⟨wr.heap.size, 1, none⟩ (.int .i64 s1)) wr.heap.size 23 #[.int .i64 s0, .int .i64 s1]) := Lib.hid ((HX3.out.set_ 0 _).set_ 1 _)
            go_upto_region 15 with fail
            clear x0 x1 f0 f1
            generalize ((w3.setCell ⟨wr.heap.size, 0, none⟩ (.int .i64 s0)).setCell ⟨wr.heap.size, 1, none⟩ (.int .i64 s1)) = V at HX5 HB5 ⊢
            have x0 : V.cell? ⟨wr.heap.size, 0, none⟩ = some (.int .i64 s0) := HX5.out.cell 0
            have x1 : V.cell? ⟨wr.heap.size, 1, none⟩ = some (.int .i64 s1) := HX5.out.cell 1
            have HO5 := Lib.hid (own_keep HO.out HB5.out)
            have HB5' : Hid (Below wq.heap.size wq V) := Lib.hid (HBK.out.trans (HB5.out.mono HBK.out.size))
            clear HB5
            have HB5 := HB5'
            clear HB5'
            go_wp2_with (first
              | (at_builtin
                 refine wpList_append_row rfl (.tmp 57) (.tmp 59) rfl fel wq.heap.size _ k (fv (ins l k)) rfl (own_keep HO5.out ((Below.refl _ _).alloc (Nat.le_refl _) _)) _ _ 1 1 (fv [⟨s0, s1⟩]) rfl (fone V ⟨s0, s1⟩ rfl) (fv_one _) (by omega) (by omega) (by have := HB5.out.size; simp; omega) ?_
                 intro A4 c4 w4 ho4 _ hb4
                 rw [← fv_append] at ho4
                 have HO4 := Lib.hid ho4
                 have HB4 : Hid (Below wq.heap.size wq w4) := Lib.hid ((HB5.out.alloc HB5.out.size _).trans hb4)
                 clear ho4 hb4)
              | fail)
            go_roundw
            case rel => exact ⟨k + 1, A4, c4, by go_num, rfl, by omega, by omega, by rw [HN.out]; exact HO4.out, HB4.out⟩
            case measure => simp [Go.RowKit.intOf]; omega
      obtain ⟨k, Ak, ck, hv9, hv8, hk30, hkn, ho, hbk⟩ := hcut
      subst hv8 hv9
      have HO := Lib.hid (Fts.of_own ho)
      have HBK := Lib.hid hbk
      have HOL : Hid (∀ b, Ak.map (·.block) = some b → wq.heap.size ≤ b) := Lib.hid fun b hb => (ho.lt b (by cases Ak with | none => cases hb | some a => exact hb)).1
      have hck := (Row.of_own ho).le
      have HBI := Lib.hid (HBO.out.new hbk)
      clear ho hbk
      generalize ins l k = ls at HO
      go_wp2_with fail
      refine (refpush_any wc.heap.size wc.heap.size A Ak m c k ck L ls wc HBI.out.fts HO.out (Nat.le_refl _) (Nat.le_refl _) (by have := HLEN.out; omega)).mono ?_
      rintro e w2 ⟨A5, c5, rfl, hx2, hb2, hp2⟩
      have HX2 := Lib.hid hx2
      have HB2 := Lib.hid hb2
      have HP2 := Lib.hid hp2
      have hge := push_ge L ls
      have hle2 := push_le (p := L) (by rw [hmc.1]; exact hmc.2.1) ls
      rw [hmc.1] at hge
      have HPU := Lib.hid (both_push HBI.out HO.out HOL.out HBO.out HBK.out.size HBK.out HB2.out HX2.out HP2.out)
      generalize push L ls = L2 at HX2 hge hle2 HPU
      obtain ⟨m2, hm2⟩ : ∃ m2, m2 = L2.length := ⟨_, rfl⟩
      rw [← hm2] at HX2 hge hle2 HPU ⊢
      clear hx2 hb2 hp2 hm2
      go_wp2_with fail
      refine HPU.out.mono ?_
      rintro e w3 ⟨rfl, hbo3⟩
      have HBO3 := Lib.hid hbo3
      have hw2 : IntKind.i64.wrap ((m2 : Int) - (m : Int)) = ((m2 - m : Nat) : Int) := by rw [IntWalk.i64_in _ (by omega)]; omega
      have hw3 : (m2 : Int) - (m : Int) = ((m2 - m : Nat) : Int) := by omega
      clear hbo3
      go_wp2_with fail
      refine (both_len HBO3.out).mono ?_
      rintro e w4 ⟨rfl, rfl⟩
      have HTI := Lib.hid hlt
      clear hw2 hw3 hge hle2 hck HX2 HPU HB2 HP2 HBI HBK HO HOL hmc HLEN HBO HQ0 HR1
      go_wp2_with fail
      go_loopw [6] (fun vx wr => NxRel w g vx wr) (fun vx _ => slLen vx)
      case atStart => exact ⟨A5, m2, c5, L2, rfl, HBO3.out⟩
      case round =>
        obtain ⟨A, m, c, L, rfl, hbo⟩ := hrel
        have HBO := Lib.hid hbo
        have hmc := hbo.len
        clear hbo
        by_cases hi1 : i < n1
        rotate_left
        · have m1 : decide ((i : Int) < (n1 : Int)) = false := decide_eq_false (by omega)
          have m1n : decide (i < n1) = false := decide_eq_false hi1
          go_wp2
          go_roundw
          case rel => exact ⟨i + 1, A, m, c, L, by omega, by go_num, rfl, HBO.out⟩
          case measure => simp [Go.RowKit.intOf]; omega
        have m1 : (i : Int) < (n1 : Int) := by omega
        obtain ⟨tb, toff, x, rfl, htb, tc, _⟩ := (HT.out.below HBO.out.base).at_ hi1
        cases x with
        | false =>
          go_wp2
          go_roundw
          case rel => exact ⟨i + 1, A, m, c, L, by omega, by go_num, rfl, HBO.out⟩
          case measure => simp [Go.RowKit.intOf]; omega
        | true =>
          by_cases h2 : 2 < m
          rotate_left
          · have m2' : decide (2 < (m : Int)) = false := decide_eq_false (by omega)
            have m2n : decide (2 < m) = false := decide_eq_false h2
            go_wp2
            go_roundw
            case rel => exact ⟨i + 1, A, m, c, L, by omega, by go_num, rfl, HBO.out⟩
            case measure => simp [Go.RowKit.intOf]; omega
          have m2' : 2 < (m : Int) := by omega
          cases L with
          | nil => have := hmc.1; simp at this; omega
          | cons f r =>
            have hc1 : ¬ c = 1 := by omega
            have HN := Lib.hid (both_next HBO.out hc1)
            obtain ⟨k0, k1⟩ := f
            go_wp2_with fail
            refine HN.out.mono ?_
            rintro e w5 ⟨rfl, hbo5, hx5⟩
            have HBO5 := Lib.hid hbo5
            obtain ⟨b5, off5, f5, rfl, hb5, y0, y1, hget, _⟩ := hx5.at_ (k := 0) (by omega)
            simp at hget
            subst hget
            simp only [Nat.zero_mul, Nat.add_zero] at y0 y1
            have hbv : Below w5.heap.size w5 (w5.alloc (.cells #[.int .i64 k0, .int .i64 k1] 23)) := (Below.refl _ _).alloc (Nat.le_refl _) _
            have z0 := (hbv.cell (p := ⟨b5, off5, none⟩) hb5).trans y0
            have z1 := (hbv.cell (p := ⟨b5, off5 + 1, none⟩) hb5).trans y1
            have HBV := Lib.hid (HBO5.out.new hbv)
            have hxv := Blk.new w5 23 #[.int .i64 k0, .int .i64 k1]
            have x0 := hxv.cell 0
            have x1 := hxv.cell 1
            clear hbo5 hx5 tc hbv hxv y0 y1
            go_wp2_with fail
            generalize (w5.alloc (.cells #[.int .i64 k0, .int .i64 k1] 23)) = V at HBV z0 z1 x0 x1 ⊢
            generalize w5.heap.size = s5 at x0 x1 ⊢
            go_quiet (fail)
            have HBW : Hid (Both w g (V.drewN nq) (some ⟨b5, off5 + 2, none⟩) (m - 1) (c - 1) r) := Lib.hid (HBV.out.new (below_drewN (Below.refl _ _) nq))
            clear x0 x1 z0 z1 HBV
            go_wp2
            go_roundw
            case rel => exact ⟨_, _, _, r, rfl, HBW.out⟩
            case measure => simp [slLen]; omega
  obtain ⟨A, m, c, L, hv6, hbo⟩ := hcut
  subst hv6
  have HBO := Lib.hid hbo.rest
  have hmc := hbo.len
  clear hbo
  go_wp2_with fail
  go_loopw [14] (fun vi wr => ReRel w g A m c L vi wr) (fun vi _ => m - (Go.RowKit.intOf vi).toNat)
  case atStart => exact ⟨0, Nat.zero_le _, rfl, HBO.out⟩
  case round =>
    obtain ⟨i, him, rfl, hre⟩ := hrel
    have HRE := Lib.hid hre
    clear hre
    by_cases hlt : i < m
    · have l1 : (i : Int) < (m : Int) := by omega
      obtain ⟨b5, off5, f, rfl, hb5, _, _, hget, _⟩ := HRE.out.fts.at_ hlt
      have HN := Lib.hid (rest_next HRE.out hget)
      obtain ⟨k0, k1⟩ := f
      go_wp2_with fail
      refine HN.out.mono ?_
      rintro e w5 ⟨rfl, hre5⟩
      obtain ⟨b6, off6, f6, e6, hb6, y0, y1, hget6, _⟩ := hre5.fts.at_ hlt
      injection e6 with e6
      injection e6 with e1 e2
      subst e1 e2
      obtain rfl : (⟨k0, k1⟩ : Ft) = f6 := by rw [hget] at hget6; injection hget6
      dsimp only at y0 y1
      have hbv : Below w5.heap.size w5 (w5.alloc (.cells #[.int .i64 k0, .int .i64 k1] 23)) := (Below.refl _ _).alloc (Nat.le_refl _) _
      have z0 := (hbv.cell (p := ⟨b5, off5 + i * 2, none⟩) hb6).trans y0
      have z1 := (hbv.cell (p := ⟨b5, off5 + i * 2 + 1, none⟩) hb6).trans y1
      have HBV := Lib.hid (hre5.new hbv)
      have hxv := Blk.new w5 23 #[.int .i64 k0, .int .i64 k1]
      have x0 := hxv.cell 0
      have x1 := hxv.cell 1
      clear hre5 hbv hxv y0 y1 hget hget6
      go_wp2_with fail
      generalize (w5.alloc (.cells #[.int .i64 k0, .int .i64 k1] 23)) = V at HBV z0 z1 x0 x1 ⊢
      generalize w5.heap.size = s5 at x0 x1 ⊢
      go_quiet (fail)
      have HBW : Hid (Rest w g (V.drewN nq) (some ⟨b5, off5, none⟩) m c L (i + 1)) := Lib.hid (HBV.out.new (below_drewN (Below.refl _ _) nq))
      clear x0 x1 z0 z1 HBV
      go_wp2
      go_roundw
      case rel => exact ⟨i + 1, by omega, by go_num, HBW.out⟩
      case measure => simp [Go.RowKit.intOf]; omega
    · have l1 : ¬ (i : Int) < (m : Int) := by omega
      obtain ⟨F, hF⟩ := rest_end HRE.out (by omega)
      have HF := Lib.hid hF
      clear hF
      go_wp2_with fail
      refine (next_none F g wr HF.out).mono ?_
      rintro e w5 ⟨rfl, hp5, hb5⟩
      have HP5 := Lib.hid hp5
      have HB5 := Lib.hid (held_two HRE.out.base hb5)
      unfold firstV
      clear hp5 hb5
      go_wp2_with fail
      have hbv : Below w5.heap.size w5 (w5.alloc (.cells #[.int .i64 0, .int .i64 0] 23)) := (Below.refl _ _).alloc (Nat.le_refl _) _
      refine (awake_any _).mono ?_
      rintro e w6 ⟨rfl, hb6⟩
      have HB6 := Lib.hid (held_two (held_two HB5.out hbv) hb6)
      have HP6 := Lib.hid ((HP5.out.below hbv).below hb6)
      clear hbv hb6
      go_wp2_with fail
      refine (len_any F g [] w6 HP6.out).mono ?_
      rintro e w7 ⟨rfl, rfl⟩
      go_wp2
      go_ret
      exact ⟨rfl, HB6.out⟩
end Go.Proofs.Ytnbhbhnmidijkaa.Flt
