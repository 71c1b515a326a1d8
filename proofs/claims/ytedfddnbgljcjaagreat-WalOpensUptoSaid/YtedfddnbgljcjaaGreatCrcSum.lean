/-
  Contracts of crc.Sum over rows of rows of bytes; what the frame of a proof knows of a slice of bytes, as a row.
-/
import Derived.Test.YtedfddnbgljcjaaGreatCrcWalks
import Derived.Lib.SlBytesConst
import Derived.Deep.Draws
import Derived.OpenShut
import Derived.Deep.RegionHeld
namespace Go.Proofs.YtedfddnbgljcjaaGreat.Crc
set_option maxRecDepth 100000
open Go.RowKit

/-- A slice of slices of bytes that reads as the list of lists ls (nil, empty or not). -/
def Parts (w : World) (A : Option Addr) (n : Nat) (ls : List (List Int)) : Prop :=
  ls.length = n ∧ n ≤ 9223372036854775807 ∧ (∀ l ∈ ls, bytesB l) ∧
    (0 < n → ∃ b off, A = some ⟨b, off, none⟩ ∧ ∀ j, j < n → ∃ A' m c, w.cell? ⟨b, off + j, none⟩ = some (.slice A' m c) ∧ Row8 w A' m (ls.getD j []))
theorem Parts.none_ (w : World) (A : Option Addr) : Parts w A 0 [] := ⟨rfl, by omega, by intro x hx; simp at hx, fun h => absurd h (by omega)⟩
theorem Parts.at_ {w : World} {A : Option Addr} {n k : Nat} {ls : List (List Int)} (h : Parts w A n ls) (hk : k < n) :
    ∃ b off A' m c l, A = some ⟨b, off, none⟩ ∧ w.cell? ⟨b, off + k, none⟩ = some (.slice A' m c) ∧ Row8 w A' m l ∧ (ls.take (k + 1)).flatten = (ls.take k).flatten ++ l := by
  obtain ⟨hl, _, _, hc⟩ := h
  obtain ⟨b, off, hA, hcell⟩ := hc (by omega)
  obtain ⟨A', m, c, h1, h2⟩ := hcell k hk
  have hkl : k < ls.length := by omega
  refine ⟨b, off, A', m, c, _, hA, h1, h2, ?_⟩
  rw [List.take_succ_eq_append_getElem hkl, List.flatten_append, List.getD_eq_getElem?_getD, List.getElem?_eq_getElem hkl]
  simp
theorem Parts.bytes {w : World} {A : Option Addr} {n : Nat} {ls : List (List Int)} (h : Parts w A n ls) (k : Nat) : bytesB (ls.take k).flatten := by
  intro x hx
  obtain ⟨l, hl, hxl⟩ := List.mem_flatten.1 hx
  exact h.2.2.1 l (List.mem_of_mem_take hl) x hxl

set_option maxHeartbeats 400000 in
theorem sum_any (A : Option Addr) (n cap : Nat) (ls : List (List Int)) (w : World) (hr : Parts w A n ls) :
    Calls Tryz.prog 96 #[.slice A n cap] w fun e w' => e = .returned (.int .u32 (moreZ 0 ls.flatten)) ∧ w = w' := by
  have hn := hr.2.1
  have HR := Lib.hid hr
  clear hr
  go_enter Tryz.func96, Tryz.ntmps96
  go_wp2
  go_loop [3, 8] (fun c' i => ∃ (k : Nat) (x : Int), k ≤ n ∧ i = .int .i64 k ∧ c' = .int .u32 x ∧ 0 ≤ x ∧ x < 4294967296 ∧ x = moreZ 0 (ls.take k).flatten) (fun _ i => n - (intOf i).toNat)
  case atStart => exact ⟨0, _, by omega, rfl, rfl, by omega, by omega, by rw [List.take_zero, List.flatten_nil, moreZ_nil (by omega) (by omega)]⟩
  case round =>
    obtain ⟨k, x, hk, rfl, rfl, hx0, hx1, hx⟩ := hrel
    have HX := Lib.hid hx
    clear hx
    by_cases hlt : k < n
    · obtain ⟨b, off, A', m, c, l, rfl, hcell, hrow, ht⟩ := HR.out.at_ hlt
      have HT := Lib.hid ht
      clear ht
      have HW := Lib.hid hrow
      clear hrow
      go_wp2_with (go_at_call 117; refine (more_any _ _ _ _ l _ hx0 hx1 HW.out).mono ?_; rintro e w' ⟨rfl, rfl⟩)
      go_round
      case rel =>
        have hb := moreZ_bd l hx0 hx1 HW.out.2.2.1
        refine ⟨k + 1, _, by omega, by go_num, rfl, hb.1, hb.2, ?_⟩
        rw [HT.out, moreZ_append _ _ (by omega) (by omega) (HR.out.bytes k), ← HX.out]
      case measure => simp [intOf]; omega
    · go_wp2
      go_ret
      refine ⟨ret_int ?_, rfl⟩
      have hz : ls.take k = ls := List.take_of_length_le (by have := HR.out.1; omega)
      rw [hz] at HX
      rw [HX.out]
theorem Row8.alloc {w : World} {A : Option Addr} {n : Nat} {zs : List Int} (h : Row8 w A n zs) (o : Obj) : Row8 (w.alloc o) A n zs :=
  h.below ((Below.refl w.heap.size w).alloc (Nat.le_refl _) o) (Nat.le_refl _)
theorem Row8.drew {w : World} {A : Option Addr} {n : Nat} {zs : List Int} (h : Row8 w A n zs) : Row8 w.drew A n zs := h
theorem Row8.drewN {w : World} {A : Option Addr} {n : Nat} {zs : List Int} (h : Row8 w A n zs) (k : Nat) : Row8 (w.drewN k) A n zs := h
theorem Parts.drewN {w : World} {A : Option Addr} {n : Nat} {ls : List (List Int)} (h : Parts w A n ls) (k : Nat) : Parts (w.drewN k) A n ls := h
theorem Parts.one {w : World} {A : Option Addr} {n : Nat} {zs : List Int} (h : Row8 w A n zs) (c : Nat) {s : Nat} (hs : s = w.heap.size) :
    Parts (w.alloc (.cells #[.slice A n c] 31)) (some ⟨s, 0, none⟩) 1 [zs] := by
  subst hs
  refine ⟨rfl, by omega, by intro l hl; simp at hl; subst hl; exact h.2.2.1, fun _ => ⟨_, _, rfl, fun j hj => ?_⟩⟩
  obtain rfl : j = 0 := by omega
  exact ⟨A, n, c, by rw [World.cell?_alloc_mark]; rfl, h.alloc _⟩
theorem Parts.two {w : World} {A B : Option Addr} {n m : Nat} {zs ys : List Int} (h : Row8 w A n zs) (g : Row8 w B m ys) (c d : Nat) {s : Nat} (hs : s = w.heap.size) :
    Parts (w.alloc (.cells #[.slice A n c, .slice B m d] 31)) (some ⟨s, 0, none⟩) 2 [zs, ys] := by
  subst hs
  refine ⟨rfl, by omega, by
    intro l hl
    simp at hl
    rcases hl with rfl | rfl
    · exact h.2.2.1
    · exact g.2.2.1, fun _ => ⟨_, _, rfl, fun j hj => ?_⟩⟩
  obtain rfl | rfl : j = 0 ∨ j = 1 := by omega
  · exact ⟨A, n, c, by rw [World.cell?_alloc_mark]; rfl, h.alloc _⟩
  · exact ⟨B, m, d, by rw [World.cell?_alloc_mark]; rfl, g.alloc _⟩
/-- what the frame of a row's proof knows of a slice of bytes that came in, as a row -/
theorem Row8.of {w : World} {a : Option Addr} {len cap : Nat} {zs : List Int} (h : (a = none ∧ len = 0 ∧ cap = 0 ∧ zs = []) ∨
    ∃ x, a = some x ∧ len ≤ cap ∧ cap ≤ maxLen ∧ zs.length = cap ∧ (∀ i, i < zs.length → w.cell? (x.add i) = some (.int .u8 (zs.getD i 0))) ∧ ∀ n ∈ zs, (Lit.int .u8 n).wf = true) :
    Row8 w a len (zs.take len) := by
  rcases h with ⟨rfl, rfl, rfl, rfl⟩ | ⟨x, rfl, hl, hm, hz, hcell, hwz⟩
  · exact Row8.none_ w none
  · unfold maxLen at hm
    refine ⟨by rw [List.length_take]; omega, by omega, fun y hy => ?_, fun hn => ?_⟩
    · have := bounds_u8 (hwz y (List.mem_of_mem_take hy))
      omega
    · obtain ⟨b, off, spot⟩ := x
      have hc0 := hcell 0 (by omega)
      have hspot : spot = none := by simpa [Addr.add] using World.cell?_spot hc0
      subst hspot
      have hlt : b < w.heap.size := by
        have := World.block_lt_of_cell? w _ hc0
        simpa [Addr.add] using this
      refine ⟨b, off, rfl, hlt, fun j hj => ?_⟩
      have hc := hcell j (by omega)
      have he : (⟨b, off, none⟩ : Addr).add j = ⟨b, off + j, none⟩ := by
        by_cases h0 : j = 0
        · subst h0; rfl
        · simp [Addr.add, h0]
      rw [he] at hc
      rw [hc, List.getD_eq_getElem?_getD, List.getD_eq_getElem?_getD, List.getElem?_take, if_pos hj]
theorem sum_val (A : Option Addr) (n cap : Nat) (ls : List (List Int)) (w : World) (v : Int) (hr : Parts w A n ls) (hv : moreZ 0 ls.flatten = v) :
    Calls Tryz.prog 96 #[.slice A n cap] w fun e w' => e = .returned (.int .u32 v) ∧ w = w' := by
  subst hv
  exact sum_any A n cap ls w hr
theorem refsum_val (A : Option Addr) (n cap : Nat) (zs : List Int) (w : World) (v : Int) (hr : Row8 w A n zs) (hv : moreZ 0 zs = v) :
    Calls Tryz.prog 77 #[.slice A n cap] w fun e w' => e = .returned (.int .u32 v) ∧ w = w' := by
  subst hv
  exact refsum_any A n cap zs w hr
theorem more_val (s : Int) (A : Option Addr) (n cap : Nat) (zs : List Int) (w : World) (v : Int) (h0 : 0 ≤ s) (h1 : s < 4294967296) (hr : Row8 w A n zs) (hv : moreZ s zs = v) :
    Calls Tryz.prog 117 #[.int .u32 s, .slice A n cap] w fun e w' => e = .returned (.int .u32 v) ∧ w = w' := by
  subst hv
  exact more_any s A n cap zs w h0 h1 hr
theorem refmore_val (s : Int) (A : Option Addr) (n cap : Nat) (zs : List Int) (w : World) (v : Int) (h0 : 0 ≤ s) (h1 : s < 4294967296) (hr : Row8 w A n zs) (hv : moreZ s zs = v) :
    Calls Tryz.prog 76 #[.int .u32 s, .slice A n cap] w fun e w' => e = .returned (.int .u32 v) ∧ w = w' := by
  subst hv
  exact refmore_any s A n cap zs w h0 h1 hr
end Go.Proofs.YtedfddnbgljcjaaGreat.Crc
