/-
  Package fold: contracts of Fold, Value, Between.
-/
import Derived.Test.YtlgdbpejefgeaaaFoldToTab
import Derived.Test.YtlgdbpejefgeaaaFoldToSpot
import Derived.Test.YtlgdbpejefgeaaaFoldNew
import Derived.Test.YtlgdbpejefgeaaaFoldRows2
import Derived.Test.YtlgdbpejefgeaaaFoldSpot
namespace Go.Proofs.Ytlgdbpejefgeaaa.Fold
set_option linter.unusedVariables false
set_option linter.unusedSimpArgs false
set_option maxRecDepth 100000
open Go.RowKit Base IdxMath FoldMath Foot
open TxnMath (Ch Tx)
open PChg (gval Cs)
open PTx
open Lsts (Lsts)
open Idx (Rs Rz)
set_option linter.ambiguousOpen false

theorem run_mf (fn : Fn) (first cap : Array Value) (w : World) : (Instr.makeFunc fn first cap).run Try.prog w = .ok (.func fn first cap) w := rfl
/-- tables' rows in new slices -/
def FoldR (w : World) (T : List (List Rw)) (e : Ending) (w' : World) : Prop := ∃ A n c, e = .returned (.slice A n c) ∧ Lsts Rz w' w'.heap.size A n c T ∧ Below w.heap.size w w'
theorem foldR_none (w : World) : FoldR w [] (.returned (.slice none 0 0)) w := ⟨none, 0, 0, rfl, Lsts.nil_ _ _, Below.refl _ _⟩
theorem foldT_not {N : Int} {l : List Tx} {k : Int} (h : ¬ (1 ≤ N ∧ N ≤ 8)) : foldT N l k = [] := if_neg h
theorem foldT_rows {m : Nat} {l : List Tx} {k : Int} (h1 : 1 ≤ m) (h8 : m ≤ 8) : foldT (m : Int) l k = rowsL m (chs l (held k l.length)) := by
  unfold foldT
  rw [if_pos (by omega)]
  rfl
set_option maxHeartbeats 3200000 in
theorem fold_any (N : Int) (B : Nat) (A : Option Addr) (n c : Nat) (l : List Tx) (k : Int) (w : World) (hl : Txs w B A n c l) (hB : B ≤ w.heap.size) (hok : ∀ x ∈ chs l n, In64 x.key) (hM : (chs l n).length < 1099511627774) :
    Calls Try.prog 12 #[.int .i64 N, .slice A n c, .int .i64 k] w (FoldR w (foldT N l k)) := by
  have hlen := hl.len
  have HL := Lib.hid (hl.more hB)
  have HOK := Lib.hid hok
  have HM := Lib.hid hM
  clear hl hok hM
  have hmf := run_mf
  rcases Int.lt_or_le N 1 with h1 | h1
  · go_enter Try.func12, Try.ntmps12
    go_wp2
    go_ret
    rw [foldT_not (by omega)]
    exact foldR_none w
  rcases Int.lt_or_le 8 N with h8 | h8
  · go_enter Try.func12, Try.ntmps12
    go_wp2
    go_ret
    rw [foldT_not (by omega)]
    exact foldR_none w
  obtain ⟨m, rfl⟩ := Int.eq_ofNat_of_zero_le (show 0 ≤ N by omega)
  have hm1 : 1 ≤ m := by omega
  have hm8 : m ≤ 8 := by omega
  rw [foldT_rows hm1 hm8, hlen]
  have hh := held_le k n
  go_enter Try.func12, Try.ntmps12
  go_wp2_with fail
  refine (newTables_any m hm1 hm8 w).mono ?_
  rintro e w1 ⟨g, s, rfl, ht, hg, hs, hb1⟩
  have HT := Lib.hid ht
  have HB1 := Lib.hid hb1
  have hgs := ht.gs
  clear ht hb1
  go_wp2_with fail
  refine (walkOver_any A n c _ _ _ w1).mono ?_
  rintro e w2 ⟨rfl, rfl⟩
  have hba : Below w1.heap.size w1 (w1.alloc (.cells #[.slice A n c, .int .i64 0, .func (.func 27) #[.slice (some ⟨g, 0, none⟩) m m] #[]] 75)) := (Below.refl _ _).alloc (Nat.le_refl _) _
  have HW2 : Hid (WalkAt (w1.alloc (.cells #[.slice A n c, .int .i64 0, .func (.func 27) #[.slice (some ⟨g, 0, none⟩) m m] #[]] 75)) w1.heap.size A n c (0 : Nat) (.func (.func 27) #[.slice (some ⟨g, 0, none⟩) m m] #[])) := Blk.new _ _ _
  have HT2 : Hid (TabsAt (w1.alloc (.cells #[.slice A n c, .int .i64 0, .func (.func 27) #[.slice (some ⟨g, 0, none⟩) m m] #[]] 75)) g s m (chs l 0)) := by rw [chs_zero]; exact HT.out.keep fun i hi _ => hba.block i hi
  have HB2 : Hid (Below w.heap.size w (w1.alloc (.cells #[.slice A n c, .int .i64 0, .func (.func 27) #[.slice (some ⟨g, 0, none⟩) m m] #[]] 75))) := HB1.out.alloc HB1.out.size _
  have hp : w.heap.size ≤ w1.heap.size := HB1.out.size
  generalize (w1.alloc (.cells #[.slice A n c, .int .i64 0, .func (.func 27) #[.slice (some ⟨g, 0, none⟩) m m] #[]] 75)) = w2 at HW2 HT2 HB2 ⊢
  clear hba
  go_wp2_with fail
  refine (to_tab_any (Own g s m) (fun cs w => TabsAt w g s m cs) _ 1099511627774 (fun c => In64 c.key) (tab_col g s m 1099511627774 hm8 (by omega)) w1.heap.size w.heap.size A n c 0 k l w2 HW2.out HT2.out (HL.out.below HB2.out) hp (fun i hi => ⟨Nat.le_trans hg hi.1, by have : i < s + m := hi.2; omega⟩) HOK.out HM.out (Nat.zero_le _)).mono ?_
  rintro e w3 ⟨rfl, _, ht3, hb3⟩
  rw [Nat.max_eq_right (Nat.zero_le _)] at ht3
  have HT3 := Lib.hid ht3
  have HB3 : Hid (Below w.heap.size w w3) := HB2.out.trans hb3
  clear ht3 hb3
  have hcl := chs_le l hh
  go_wp2_with fail
  refine (rows_any g s m (chs l (held k n)) w3 HT3.out hm1 hm8 (fun x hx => HOK.out x (chs_sub l hh hx)) (by have := HM.out; omega)).mono ?_
  rintro e w4 ⟨g4, rfl, hls, hb4⟩
  have HR := Lib.hid (And.intro hls (held_two HB3.out hb4))
  clear hls hb4
  go_wp2
  go_ret
  exact ⟨_, _, _, rfl, HR.out.1, HR.out.2⟩

end Go.Proofs.Ytlgdbpejefgeaaa.Fold
