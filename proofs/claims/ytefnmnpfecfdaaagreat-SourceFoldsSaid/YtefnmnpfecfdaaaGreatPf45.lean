/-
  SourceFolds: a source's tables are what its transactions come to; what may not be is refused, and turns nothing; the law answers true and writes nothing that was there. No condition.
-/
import Derived.Test.YtefnmnpfecfdaaaGreatPf44
import Derived.ShutString
set_option linter.all false
set_option maxRecDepth 100000
set_option maxHeartbeats 25600000
open Go.Lib (hid)
namespace Go.Proofs.YtefnmnpfecfdaaaGreat
namespace Fold
open Go.RowKit Base IdxMath FoldMath Foot
open TxnMath (Ch)
open PChg (gval)
open Last (wp_region_last_at then_normal)
structure TabsAt (w : World) (g s n : Nat) (cs : List Ch) : Prop where
 gs : g < s
 row : ∃ arr : Array Value,Blk w g 198 arr /\ arr.size = n /\ ∀ i,i < n -> arr[i]? = some (.map (some (s + i)))
 each : ∀ i : Nat,i < n -> MapAt w (s + i) cs.length (rows (i : Int) cs)
def Own (g s n : Nat) (i : Nat) : Prop := g <= i /\ i < s + n
section
variable {w w' : World} {g s n : Nat} {cs : List Ch}
theorem TabsAt.keep (h : TabsAt w g s n cs) (hk : ∀ i,i < w.heap.size -> Own g s n i -> w'.heap[i]? = w.heap[i]?) : TabsAt w' g s n cs := by
 obtain ⟨h1,⟨arr,hb,hz,ha⟩,he⟩ := h
 refine ⟨h1,⟨arr,(hk g hb.lt ⟨Nat.le_refl _,by omega⟩).trans hb,hz,ha⟩,fun i hi => ?_⟩
 have := he i hi
 exact this.same (hk _ this.lt ⟨by omega,by omega⟩)
theorem TabsAt.cell (h : TabsAt w g s n cs) {i : Nat} (hi : i < n) : w.cell? ⟨g,i,none⟩ = some (.map (some (s + i))) := by
 obtain ⟨arr,hb,hz,ha⟩ := h.row
 rw [hb.cell,ha i hi]
theorem TabsAt.other (h : TabsAt w g s n cs) {c : Ch} (hc : ∀ i : Nat,i < n -> c.tbl ≠ (i : Int)) : TabsAt w g s n (cs ++ [c]) :=
 ⟨h.gs,h.row,fun i hi => by
  have e : rows (i : Int) (cs ++ [c]) = rows (i : Int) cs := by rw [rows_snoc]; exact if_neg (hc i hi)
  rw [e,List.length_append]
  exact World.ownsMap.mono (h.each i hi) (Nat.le_add_right _ _)⟩
theorem TabsAt.one (h : TabsAt w g s n cs) {c : Ch} {i : Nat} (hi : i < n) (hc : c.tbl = (i : Int)) (hm : MapAt w' (s + i) (cs.length + 1) (FoldMath.step (rows (i : Int) cs) c)) (hg : w.grownBy w' (some (s + i))) : TabsAt w' g s n (cs ++ [c]) := by
 have hgs := h.gs
 obtain ⟨arr,hb,hz,ha⟩ := h.row
 refine ⟨hgs,⟨arr,hb.grown hg (by simp; omega),hz,ha⟩,fun j hj => ?_⟩
 rw [rows_snoc,List.length_append]
 by_cases hji : j = i
 ·subst hji
  rw [show FoldMath.stepT (j : Int) (rows (j : Int) cs) c = FoldMath.step (rows (j : Int) cs) c from if_pos hc]
  exact hm
 ·rw [show FoldMath.stepT (j : Int) (rows (j : Int) cs) c = rows (j : Int) cs from if_neg (by omega)]
  exact World.ownsMap.mono (World.ownsMap.kept (h.each j hj) hg (by simp; omega)) (Nat.le_add_right _ _)
end
theorem int_law : Maps.Keyed Tryz.prog 2 := Maps.int_keyed Tryz.underlying2
def TakeR (w : World) (g s n : Nat) (cs : List Ch) (e : Ending) (w' : World) : Prop := e = .returned (.tuple #[]) /\ TabsAt w' g s n cs /\ Turn (Own g s n) w w'
theorem turn_one {w wx w' : World} {g s n i : Nat} (hb : Below w.heap.size w wx) (hg : wx.grownBy w' (some (s + i))) (hi : i < n) (hs : g < s) : Turn (Own g s n) w w' :=
 (Turn.new (F := Own g s n) hb).trans (Turn.grown (F := Own g s n) hg (fun x hx => by cases hx; exact ⟨by omega,by omega⟩)) (fun _ h => .inl h)
theorem take_any (g s n : Nat) (cs : List Ch) (c : Ch) (w : World) (h : TabsAt w g s n cs) (hk : In64 c.key) (hn : n <= 8) (hsz : cs.length <= 1099511627774) :
 Calls Tryz.prog 65 #[.slice (some ⟨g,0,none⟩) n n,gval c] w (TakeR w g s n (cs ++ [c])) := by
 obtain ⟨t,k,gone,v⟩ := c
 dsimp only at hk
 have hb : Below w.heap.size w (w.alloc (.cells #[.int .i64 t,.int .i64 k,.bool gone,.string v] 64)) := (Below.refl _ _).alloc (Nat.le_refl _) _
 have hx : Blk (w.alloc (.cells #[.int .i64 t,.int .i64 k,.bool gone,.string v] 64)) w.heap.size 64 #[.int .i64 t,.int .i64 k,.bool gone,.string v] := Blk.new _ _ _
 have HT : Hid (TabsAt (w.alloc (.cells #[.int .i64 t,.int .i64 k,.bool gone,.string v] 64)) g s n cs) := h.keep fun i hi _ => hb.block i hi
 have HB := hid hb
 have HK := hid hk
 unfold gval
 dsimp only
 clear h hb hk
 rcases Int.lt_or_le t 0 with h1 | h1
 ·have HO := hid (HT.out.other (c := ⟨t,k,gone,v⟩) (fun i hi => by dsimp only; omega))
  go_enter Tryz.func65,Tryz.ntmps65
  go_wp2
  go_end0
  exact ⟨rfl,HO.out,Turn.new HB.out⟩
 ·rcases Int.lt_or_le t (n : Int) with h2 | h2
  ·obtain ⟨i,rfl⟩ := Int.eq_ofNat_of_zero_le h1
   have hi : i < n := by omega
   have hc : Hid ((w.alloc (.cells #[.int .i64 (i : Int),.int .i64 k,.bool gone,.string v] 64)).cell? ⟨g,i,none⟩ = some (.map (some (s + i)))) := HT.out.cell hi
   have HM := hid (HT.out.each i hi)
   have HG := hid HT.out.gs
   have HR := hid (rows_rise (i : Int) cs)
   have h0 : ¬ ((i : Int) < 0) := by omega
   have h3 : ¬ ((n : Int) <= (i : Int)) := by omega
   cases gone with
   | true =>
     go_enter Tryz.func65,Tryz.ntmps65
     go_upto_region 3 with fail
     generalize (w.alloc (.cells #[.int .i64 (i : Int),.int .i64 k,.bool true,.string v] 64)) = W at *
     refine wp_region_last_at (S := fun w' => w'.cell? ⟨w.heap.size,0,none⟩ = some (.int .i64 i) /\ w'.cell? ⟨w.heap.size,1,none⟩ = some (.int .i64 k) /\ w'.cell? ⟨g,i,none⟩ = some (.map (some (s + i))) /\ Below W.heap.size W w') 7 _ rfl rfl (by kernel_rfl) (by kernel_rfl) (by kernel_rfl) (held3 (held_start W) (hx.cell 0) (hx.cell 1) hc.out) (fun hHeld => ?_)
     simp only [List.take_succ_cons,List.take_zero]
     refine wpAnyH_take (i := 0) (v := ?av0) rfl (by kernel_rfl) (by kernel_rfl) (by kernel_rfl) (fun _ _ _ h => h) (Or.inl ⟨by rfl,?ay0⟩) (by assumption) ?ar0
     case ay0 => (intro w hSw; (try dsimp only at hSw); go_simp; try with_reducible rfl)
     try simp only [Act.put,List.getElem_toArray,List.getElem_cons_succ,List.getElem_cons_zero,List.setIfInBounds_toArray,List.set_cons_zero,List.set_cons_succ]
     refine wpAnyH_take (i := 1) (v := ?av1) rfl (by kernel_rfl) (by kernel_rfl) (by kernel_rfl) (fun _ _ _ h => h) (Or.inl ⟨by rfl,?ay1⟩) (by assumption) ?ar1
     case ay1 => (intro w hSw; (try dsimp only at hSw); go_simp; try with_reducible rfl)
     try simp only [Act.put,List.getElem_toArray,List.getElem_cons_succ,List.getElem_cons_zero,List.setIfInBounds_toArray,List.set_cons_zero,List.set_cons_succ]
     refine wpAnyH_take (i := 2) (v := ?av2) rfl (by kernel_rfl) (by kernel_rfl) (by kernel_rfl) (fun _ _ _ h => h) (Or.inl ⟨by rfl,?ay2⟩) (by assumption) ?ar2
     case ay2 => (intro w hSw; (try dsimp only at hSw); go_simp; try with_reducible rfl)
     try simp only [Act.put,List.getElem_toArray,List.getElem_cons_succ,List.getElem_cons_zero,List.setIfInBounds_toArray,List.set_cons_zero,List.set_cons_succ]
     refine wpAnyH_take (i := 3) (v := ?av3) rfl (by kernel_rfl) (by kernel_rfl) (by kernel_rfl) (fun _ _ _ h => h) (Or.inl ⟨by rfl,?ay3⟩) (by assumption) ?ar3
     case ay3 => (intro w hSw; (try dsimp only at hSw); go_simp; try with_reducible rfl)
     try simp only [Act.put,List.getElem_toArray,List.getElem_cons_succ,List.getElem_cons_zero,List.setIfInBounds_toArray,List.set_cons_zero,List.set_cons_succ]
     refine wpAnyH_take (i := 4) (v := ?av4) rfl (by kernel_rfl) (by kernel_rfl) (by kernel_rfl) (fun _ _ _ h => h) (Or.inl ⟨by rfl,?ay4⟩) (by assumption) ?ar4
     case ay4 => (intro w hSw; (try dsimp only at hSw); go_simp; try with_reducible rfl)
     try simp only [Act.put,List.getElem_toArray,List.getElem_cons_succ,List.getElem_cons_zero,List.setIfInBounds_toArray,List.set_cons_zero,List.set_cons_succ]
     refine wpAnyH_take (i := 5) (v := ?av5) rfl (by kernel_rfl) (by kernel_rfl) (by kernel_rfl) (fun _ _ _ h => h) (Or.inl ⟨by rfl,?ay5⟩) (by assumption) ?ar5
     case ay5 => (intro w hSw; (try dsimp only at hSw); go_simp; try with_reducible rfl)
     try simp only [Act.put,List.getElem_toArray,List.getElem_cons_succ,List.getElem_cons_zero,List.setIfInBounds_toArray,List.set_cons_zero,List.set_cons_succ]
     refine wpAnyH_take (i := 6) (v := ?av6) rfl (by kernel_rfl) (by kernel_rfl) (by kernel_rfl) (fun _ _ _ h => h) (Or.inl ⟨by rfl,?ay6⟩) (by assumption) ?ar6
     case ay6 => (intro w hSw; (try dsimp only at hSw); go_simp; try with_reducible rfl)
     try simp only [Act.put,List.getElem_toArray,List.getElem_cons_succ,List.getElem_cons_zero,List.setIfInBounds_toArray,List.set_cons_zero,List.set_cons_succ]
     refine wpAnyH_done (by kernel_rfl) ?_ _
     refine then_normal rfl ?_
     refine wpList_delete_own _ rfl _ _ 198 2 rfl 9 int_law Tryz.underlying198 rdS (s + i) _ _ rfl (World.ownsMap.drew HM.out) (.int .i64 k) _ rfl (key_of HK.out) ?_
     intro w2 hw2 hg2
     rw [ents_del HR.out] at hw2
     have HW2 := hid hw2
     have HG2 := hid hg2.grown
     clear hw2 hg2
     go_wp2
     go_end0
     exact ⟨rfl,TabsAt.one (w := W) (c := ⟨i,k,true,v⟩) HT.out hi rfl (World.ownsMap.mono HW2.out (Nat.le_succ _)) (only_of_drew HG2.out),turn_one HB.out (only_of_drew HG2.out) hi HG.out⟩
   | false =>
     go_enter Tryz.func65,Tryz.ntmps65
     go_upto_region 4 with fail
     generalize (w.alloc (.cells #[.int .i64 (i : Int),.int .i64 k,.bool false,.string v] 64)) = W at *
     refine wp_region_last_at (S := fun w' => w'.cell? ⟨w.heap.size,0,none⟩ = some (.int .i64 i) /\ w'.cell? ⟨w.heap.size,1,none⟩ = some (.int .i64 k) /\ w'.cell? ⟨w.heap.size,3,none⟩ = some (.string v) /\ w'.cell? ⟨g,i,none⟩ = some (.map (some (s + i))) /\ Below W.heap.size W w') 9 _ rfl rfl (by kernel_rfl) (by kernel_rfl) (by kernel_rfl) ⟨hx.cell 0,hx.cell 1,hx.cell 3,hc.out,held_start W⟩ (fun hHeld => ?_)
     simp only [List.take_succ_cons,List.take_zero]
     refine wpAnyH_take (i := 0) (v := ?bv0) rfl (by kernel_rfl) (by kernel_rfl) (by kernel_rfl) (fun _ _ _ h => h) (Or.inl ⟨by rfl,?by0⟩) (by assumption) ?br0
     case by0 => (intro w hSw; (try dsimp only at hSw); go_simp; try with_reducible rfl)
     try simp only [Act.put,List.getElem_toArray,List.getElem_cons_succ,List.getElem_cons_zero,List.setIfInBounds_toArray,List.set_cons_zero,List.set_cons_succ]
     refine wpAnyH_take (i := 1) (v := ?bv1) rfl (by kernel_rfl) (by kernel_rfl) (by kernel_rfl) (fun _ _ _ h => h) (Or.inl ⟨by rfl,?by1⟩) (by assumption) ?br1
     case by1 => (intro w hSw; (try dsimp only at hSw); go_simp; try with_reducible rfl)
     try simp only [Act.put,List.getElem_toArray,List.getElem_cons_succ,List.getElem_cons_zero,List.setIfInBounds_toArray,List.set_cons_zero,List.set_cons_succ]
     refine wpAnyH_take (i := 2) (v := ?bv2) rfl (by kernel_rfl) (by kernel_rfl) (by kernel_rfl) (fun _ _ _ h => h) (Or.inl ⟨by rfl,?by2⟩) (by assumption) ?br2
     case by2 => (intro w hSw; (try dsimp only at hSw); go_simp; try with_reducible rfl)
     try simp only [Act.put,List.getElem_toArray,List.getElem_cons_succ,List.getElem_cons_zero,List.setIfInBounds_toArray,List.set_cons_zero,List.set_cons_succ]
     refine wpAnyH_take (i := 3) (v := ?bv3) rfl (by kernel_rfl) (by kernel_rfl) (by kernel_rfl) (fun _ _ _ h => h) (Or.inl ⟨by rfl,?by3⟩) (by assumption) ?br3
     case by3 => (intro w hSw; (try dsimp only at hSw); go_simp; try with_reducible rfl)
     try simp only [Act.put,List.getElem_toArray,List.getElem_cons_succ,List.getElem_cons_zero,List.setIfInBounds_toArray,List.set_cons_zero,List.set_cons_succ]
     refine wpAnyH_take (i := 4) (v := ?bv4) rfl (by kernel_rfl) (by kernel_rfl) (by kernel_rfl) (fun _ _ _ h => h) (Or.inl ⟨by rfl,?by4⟩) (by assumption) ?br4
     case by4 => (intro w hSw; (try dsimp only at hSw); go_simp; try with_reducible rfl)
     try simp only [Act.put,List.getElem_toArray,List.getElem_cons_succ,List.getElem_cons_zero,List.setIfInBounds_toArray,List.set_cons_zero,List.set_cons_succ]
     refine wpAnyH_take (i := 5) (v := ?bv5) rfl (by kernel_rfl) (by kernel_rfl) (by kernel_rfl) (fun _ _ _ h => h) (Or.inl ⟨by rfl,?by5⟩) (by assumption) ?br5
     case by5 => (intro w hSw; (try dsimp only at hSw); go_simp; try with_reducible rfl)
     try simp only [Act.put,List.getElem_toArray,List.getElem_cons_succ,List.getElem_cons_zero,List.setIfInBounds_toArray,List.set_cons_zero,List.set_cons_succ]
     refine wpAnyH_take (i := 6) (v := ?bv6) rfl (by kernel_rfl) (by kernel_rfl) (by kernel_rfl) (fun _ _ _ h => h) (Or.inl ⟨by rfl,?by6⟩) (by assumption) ?br6
     case by6 => (intro w hSw; (try dsimp only at hSw); go_simp; try with_reducible rfl)
     try simp only [Act.put,List.getElem_toArray,List.getElem_cons_succ,List.getElem_cons_zero,List.setIfInBounds_toArray,List.set_cons_zero,List.set_cons_succ]
     refine wpAnyH_take (i := 7) (v := ?bv7) rfl (by kernel_rfl) (by kernel_rfl) (by kernel_rfl) (fun _ _ _ h => h) (Or.inl ⟨by rfl,?by7⟩) (by assumption) ?br7
     case by7 => (intro w hSw; (try dsimp only at hSw); go_simp; try with_reducible rfl)
     try simp only [Act.put,List.getElem_toArray,List.getElem_cons_succ,List.getElem_cons_zero,List.setIfInBounds_toArray,List.set_cons_zero,List.set_cons_succ]
     refine wpAnyH_take (i := 8) (v := ?bv8) rfl (by kernel_rfl) (by kernel_rfl) (by kernel_rfl) (fun _ _ _ h => h) (Or.inl ⟨by rfl,?by8⟩) (by assumption) ?br8
     case by8 => (intro w hSw; (try dsimp only at hSw); go_simp; try with_reducible rfl)
     try simp only [Act.put,List.getElem_toArray,List.getElem_cons_succ,List.getElem_cons_zero,List.setIfInBounds_toArray,List.set_cons_zero,List.set_cons_succ]
     refine wpAnyH_done (by kernel_rfl) ?_ _
     refine then_normal rfl ?_
     refine wpList_mapUpdate_own _ rfl _ _ _ 198 rfl 2 9 int_law Tryz.underlying198 rdS (s + i) _ _ rfl (World.ownsMap.drew HM.out) (by unfold maxLen; omega) (.int .i64 k) (.string v) _ rfl rfl (key_of HK.out) (.lit (.string v.data.toList)) [] rfl ?_
     intro w2 hw2 hg2
     rw [ents_put HR.out] at hw2
     have HW2 := hid hw2
     have HG2 := hid hg2
     clear hw2 hg2
     go_wp2
     go_end0
     exact ⟨rfl,TabsAt.one (w := W) (c := ⟨i,k,false,v⟩) HT.out hi rfl HW2.out (only_of_drew HG2.out),turn_one HB.out (only_of_drew HG2.out) hi HG.out⟩
  ·have HO := hid (HT.out.other (c := ⟨t,k,gone,v⟩) (fun i hi => by dsimp only; omega))
   have h3 : ¬ (t < 0) := by omega
   go_enter Tryz.func65,Tryz.ntmps65
   go_wp2
   go_end0
   exact ⟨rfl,HO.out,Turn.new HB.out⟩
end Fold
namespace Fold
open Go.RowKit Base IdxMath FoldMath Foot
theorem etab : Elem Tryz.prog 129 198 1 8 (.map none) := .of (by rfl) (by rfl) rfl (by omega)
structure Half (w : World) (g s n k : Nat) (wr : World) : Prop where
 gs : g < s
 base : w.heap.size <= g
 size : wr.heap.size = s + k
 row : ∃ arr : Array Value,Blk wr g 198 arr /\ arr.size = n /\ (∀ i,i < k -> arr[i]? = some (.map (some (s + i)))) /\ ∀ i,k <= i -> i < n -> arr[i]? = some (.map none)
 each : ∀ i : Nat,i < k -> MapAt wr (s + i) 0 []
 new : Below w.heap.size w wr
theorem Half.start {w w1 : World} {n : Nat} (ho : w1.ownsRow w.heap.size 198 1 (.slice (some ⟨w.heap.size,0,none⟩) n n) n (List.replicate n (.map none))) (hb : Below w.heap.size w w1) (hn : 1 <= n) : Half w w.heap.size w1.heap.size n 0 w1 := by
 rcases ho.2 with ⟨hv,h0⟩ | ⟨b,cap,cur,hv,hbase,hg,h1,h2,h3,h4⟩
 ·omega
 ·simp only [Value.slice.injEq,Option.some.injEq,Addr.mk.injEq] at hv
  obtain ⟨⟨rfl,_⟩,_,rfl⟩ := hv
  rw [List.take_of_length_le (by rw [Array.length_toList,h3]; exact Nat.le_refl _)] at h4
  refine ⟨Blk.lt (w := w1) hg,Nat.le_refl _,rfl,⟨cur,hg,by omega,fun i hi => by omega,fun i _ hi => ?_⟩,fun i hi => by omega,hb⟩
  rw [<- Array.getElem?_toList,h4,List.getElem?_replicate,if_pos hi]
theorem Half.lay {w wr : World} {g s n k : Nat} (h : Half w g s n k wr) (hk : k < n) : Half w g s n (k + 1) ((wr.setCell ⟨g,k,none⟩ (.map (some (s + k)))).alloc (.map #[] 0)) := by
 obtain ⟨h1,h2,h3,⟨arr,hb,hz,ha,hr⟩,h5,h6⟩ := h
 have hsz : (wr.setCell ⟨g,k,none⟩ (.map (some (s + k)))).heap.size = wr.heap.size := by simp [World.setCell]
 have hfar : ∀ x,x < wr.heap.size -> x ≠ g -> ((wr.setCell ⟨g,k,none⟩ (.map (some (s + k)))).alloc (.map #[] 0)).heap[x]? = wr.heap[x]? := fun x hl hx => (Below.heap_alloc _ _ x (by rw [hsz]; exact hl)).trans (Below.heap_setCell _ _ _ x hx)
 have h7 := h6.setCell (p := ⟨g,k,none⟩) h2 (.map (some (s + k)))
 refine ⟨h1,h2,by simp [World.setCell]; omega,⟨arr.setIfInBounds k (.map (some (s + k))),(hb.set_ k _).alloc _,by simpa using hz,fun i hi => ?_,fun i hi hin => ?_⟩,fun i hi => ?_,h7.alloc h7.size _⟩
 ·by_cases hik : i = k
  ·subst hik
   rw [Array.getElem?_setIfInBounds_self_of_lt (by omega)]
  ·rw [Array.getElem?_setIfInBounds_ne (Ne.symm hik)]
   exact ha i (by omega)
 ·rw [Array.getElem?_setIfInBounds_ne (by omega)]
  exact hr i (by omega) hin
 ·by_cases hik : i = k
  ·subst hik
   exact MapAt.made (by rw [hsz]; omega)
  ·have := h5 i (by omega)
   exact this.same (hfar _ this.lt (by omega))
theorem Half.done {w wr : World} {g s n : Nat} (h : Half w g s n n wr) : TabsAt wr g s n [] := by
 obtain ⟨h1,h2,h3,⟨arr,hb,hz,ha,hr⟩,h5,h6⟩ := h
 exact ⟨h1,⟨arr,hb,hz,ha⟩,h5⟩
def Made (w : World) (n : Nat) (e : Ending) (w' : World) : Prop := ∃ g s,e = .returned (.slice (some ⟨g,0,none⟩) n n) /\ TabsAt w' g s n [] /\ w.heap.size <= g /\ s + n = w'.heap.size /\ Below w.heap.size w w'
theorem newTables_any (n : Nat) (h1 : 1 <= n) (h8 : n <= 8) (w : World) : Calls Tryz.prog 63 #[.int .i64 n] w (Made w n) := by
 have hmm := @run_makeMap Tryz.prog
 go_enter Tryz.func63,Tryz.ntmps63
 go_wp2_with (first
  | (refine wpList_make_elem _ rfl (.tmp 5) (.tmp 5) rfl etab w.heap.size .i64 .i64 _ _ n rfl rfl rfl rfl (by omega) (by omega) (Nat.le_refl _) ?_
     intro w1 ho1 hb1
     replace ho1 : w1.ownsRow w.heap.size 198 1 (.slice (some ⟨w.heap.size,0,none⟩) n n) n (madeCells #[.map none] (n * 1)).toList := ho1
     rw [Nat.mul_one,toList_madeCells_one] at ho1
     have HP := hid (Half.start ho1 hb1 h1)
     clear ho1 hb1))
 generalize hs : w1.heap.size = s at HP
 generalize hg : w.heap.size = g at HP ⊢
 have HG := hid hg
 clear hs hg
 go_loopw [9] (fun vi wr => ∃ k : Nat,vi = .int .i64 k /\ k <= n /\ Half w g s n k wr) (fun vi _ => n - (RowKit.intOf vi).toNat)
 case atStart => exact ⟨0,rfl,Nat.zero_le _,HP.out⟩
 case round =>
  obtain ⟨k,rfl,hk,hh⟩ := hrel
  have HH := hid hh
  by_cases hkn : k < n
  ·obtain ⟨arr,hb,hz,ha,hr⟩ := hh.row
   have x0 : wr.cell? ⟨g,k,none⟩ = some (.map none) := by rw [hb.cell,hr k (Nat.le_refl _) hkn]
   have f0 := hb.frozen k
   have hsz := hid hh.size
   have hgw : g < wr.heap.size := hb.lt
   have l1 : (k : Int) < (n : Int) := by omega
   have HN := hid (HH.out.lay hkn)
   rw [<- hh.size] at HN
   clear hh ha hr hb
   go_wp2
   go_roundw
   case rel => exact ⟨k + 1,by go_num,by omega,HN.out⟩
   case measure => simp [RowKit.intOf]; omega
  ·obtain rfl : k = n := by omega
   have l1 : ¬ (k : Int) < (k : Int) := by omega
   clear hh
   go_wp2
   go_ret
   exact ⟨g,s,rfl,HH.out.done,HH.out.base,HH.out.size.symm,HH.out.new⟩
end Fold
end Go.Proofs.YtefnmnpfecfdaaaGreat
namespace Go.Proofs
open Go.Shelf
def Tryz.keysZ_ren : Go.Shelf.Ren := ⟨fun | 7 => 131 | 10 => 193 | n => n,fun | 23 => 198 | 26 => 2 | 3 => 9 | 28 => 206 | 0 => 0 | 27 => 205 | 33 => 257 | 4 => 4 | n => n,fun | n => n⟩
theorem Tryz.keysZ : Go.Proofs.SlLaysZI.n7 Tryz.prog Tryz.keysZ_ren := {
 mixed := by kernel_rfl
 f7 := ⟨Tryz.f131.name,by decide,Tryz.func131.trans (congrArg some (by kernel_rfl))⟩
 f10 := ⟨Tryz.f193.name,by decide,Tryz.func193.trans (congrArg some (by kernel_rfl))⟩
 t0 := Tryz.underlying0
 a0 := Tryz.isAgg0
 z0 := Tryz.sizeOf0
 v0 := Tryz.zeroValue0
 t4 := Tryz.underlying4
 a4 := Tryz.isAgg4
 z4 := Tryz.sizeOf4
 v4 := Tryz.zeroValue4
 t23 := Tryz.underlying198
 a23 := Tryz.isAgg198
 z23 := Tryz.sizeOf198
 v23 := Tryz.zeroValue198
 t26 := Tryz.underlying2
 a26 := Tryz.isAgg2
 z26 := Tryz.sizeOf2
 v26 := Tryz.zeroValue2
 t27 := Tryz.underlying205
 a27 := Tryz.isAgg205
 z27 := Tryz.sizeOf205
 v27 := Tryz.zeroValue205
 t28 := Tryz.underlying206
 a28 := Tryz.isAgg206
 z28 := Tryz.sizeOf206
 v28 := Tryz.zeroValue206
 t33 := Tryz.underlying257
 a33 := Tryz.isAgg257
 z33 := Tryz.sizeOf257
 v33 := Tryz.zeroValue257 }
def Tryz.sortedZ_ren : Go.Shelf.Ren := ⟨fun | 6 => 130 | 8 => 191 | 9 => 192 | 11 => 239 | 13 => 234 | 12 => 240 | 23 => 268 | 24 => 269 | 14 => 273 | 15 => 274 | 16 => 275 | 17 => 276 | 18 => 277 | 19 => 278 | 20 => 279 | 21 => 280 | 22 => 281 | 25 => 297 | 26 => 291 | 27 => 292 | 28 => 298 | 29 => 299 | 30 => 248 | 31 => 307 | n => n,fun | 26 => 2 | 28 => 206 | 24 => 203 | 0 => 0 | 3 => 3 | 37 => 96 | 48 => 223 | 50 => 149 | 4 => 4 | 40 => 335 | 39 => 334 | 45 => 155 | 5 => 5 | 9 => 9 | 51 => 357 | 55 => 361 | 57 => 370 | 58 => 371 | 33 => 257 | n => n,fun | n => n⟩
theorem Tryz.sortedZ : Go.Proofs.SlLaysZI.n6 Tryz.prog Tryz.sortedZ_ren := {
 mixed := by kernel_rfl
 f6 := ⟨Tryz.f130.name,by decide,Tryz.func130.trans (congrArg some (by kernel_rfl))⟩
 f8 := ⟨Tryz.f191.name,by decide,Tryz.func191.trans (congrArg some (by kernel_rfl))⟩
 f11 := ⟨Tryz.f239.name,by decide,Tryz.func239.trans (congrArg some (by kernel_rfl))⟩
 t0 := Tryz.underlying0
 a0 := Tryz.isAgg0
 z0 := Tryz.sizeOf0
 v0 := Tryz.zeroValue0
 t24 := Tryz.underlying203
 a24 := Tryz.isAgg203
 z24 := Tryz.sizeOf203
 v24 := Tryz.zeroValue203
 t26 := Tryz.underlying2
 a26 := Tryz.isAgg2
 z26 := Tryz.sizeOf2
 v26 := Tryz.zeroValue2
 t28 := Tryz.underlying206
 a28 := Tryz.isAgg206
 z28 := Tryz.sizeOf206
 v28 := Tryz.zeroValue206
 i26 := by kernel_rfl }
def Tryz.sortZ_ren : Go.Shelf.Ren := ⟨fun | 5 => 192 | 8 => 234 | 7 => 240 | 19 => 268 | 20 => 269 | 10 => 273 | 11 => 274 | 12 => 275 | 13 => 276 | 14 => 277 | 15 => 278 | 16 => 279 | 17 => 280 | 18 => 281 | 30 => 297 | 31 => 291 | 32 => 292 | 33 => 298 | 34 => 299 | 35 => 248 | 40 => 307 | n => n,fun | 23 => 203 | 25 => 2 | 3 => 3 | 32 => 96 | 22 => 203 | 0 => 0 | 44 => 223 | 46 => 149 | 4 => 4 | 36 => 335 | 35 => 334 | 41 => 155 | 5 => 5 | 9 => 9 | 53 => 357 | 57 => 361 | 63 => 370 | 64 => 371 | n => n,fun | n => n⟩
theorem Tryz.sortZ : Go.Proofs.SlLaysM.n5 Tryz.prog Tryz.sortZ_ren := {
 mixed := by kernel_rfl
 f5 := ⟨Tryz.f192.name,by decide,Tryz.func192.trans (congrArg some (by kernel_rfl))⟩
 f7 := ⟨Tryz.f240.name,by decide,Tryz.func240.trans (congrArg some (by kernel_rfl))⟩
 f8 := Tryz.func234.trans (congrArg some (by kernel_rfl))
 f10 := ⟨Tryz.f273.name,by decide,Tryz.func273.trans (congrArg some (by kernel_rfl))⟩
 f11 := ⟨Tryz.f274.name,by decide,Tryz.func274.trans (congrArg some (by kernel_rfl))⟩
 f12 := ⟨Tryz.f275.name,by decide,Tryz.func275.trans (congrArg some (by kernel_rfl))⟩
 f13 := ⟨Tryz.f276.name,by decide,Tryz.func276.trans (congrArg some (by kernel_rfl))⟩
 f14 := ⟨Tryz.f277.name,by decide,Tryz.func277.trans (congrArg some (by kernel_rfl))⟩
 f15 := ⟨Tryz.f278.name,by decide,Tryz.func278.trans (congrArg some (by kernel_rfl))⟩
 f16 := ⟨Tryz.f279.name,by decide,Tryz.func279.trans (congrArg some (by kernel_rfl))⟩
 f17 := ⟨Tryz.f280.name,by decide,Tryz.func280.trans (congrArg some (by kernel_rfl))⟩
 f18 := ⟨Tryz.f281.name,by decide,Tryz.func281.trans (congrArg some (by kernel_rfl))⟩
 f19 := Tryz.func268.trans (congrArg some (by kernel_rfl))
 f20 := Tryz.func269.trans (congrArg some (by kernel_rfl))
 f30 := ⟨Tryz.f297.name,by decide,Tryz.func297.trans (congrArg some (by kernel_rfl))⟩
 f31 := Tryz.func291.trans (congrArg some (by kernel_rfl))
 f32 := Tryz.func292.trans (congrArg some (by kernel_rfl))
 f33 := ⟨Tryz.f298.name,by decide,Tryz.func298.trans (congrArg some (by kernel_rfl))⟩
 f34 := ⟨Tryz.f299.name,by decide,Tryz.func299.trans (congrArg some (by kernel_rfl))⟩
 f35 := ⟨Tryz.f248.name,by decide,Tryz.func248.trans (congrArg some (by kernel_rfl))⟩
 f40 := ⟨Tryz.f307.name,by decide,Tryz.func307.trans (congrArg some (by kernel_rfl))⟩
 t0 := Tryz.underlying0
 a0 := Tryz.isAgg0
 z0 := Tryz.sizeOf0
 v0 := Tryz.zeroValue0
 t3 := Tryz.underlying3
 a3 := Tryz.isAgg3
 z3 := Tryz.sizeOf3
 v3 := Tryz.zeroValue3
 t4 := Tryz.underlying4
 a4 := Tryz.isAgg4
 z4 := Tryz.sizeOf4
 v4 := Tryz.zeroValue4
 t5 := Tryz.underlying5
 a5 := Tryz.isAgg5
 z5 := Tryz.sizeOf5
 v5 := Tryz.zeroValue5
 t9 := Tryz.underlying9
 a9 := Tryz.isAgg9
 z9 := Tryz.sizeOf9
 v9 := Tryz.zeroValue9
 t22 := Tryz.underlying203
 a22 := Tryz.isAgg203
 z22 := Tryz.sizeOf203
 v22 := Tryz.zeroValue203
 t23 := Tryz.underlying203
 a23 := Tryz.isAgg203
 z23 := Tryz.sizeOf203
 v23 := Tryz.zeroValue203
 t25 := Tryz.underlying2
 a25 := Tryz.isAgg2
 z25 := Tryz.sizeOf2
 v25 := Tryz.zeroValue2
 t32 := Tryz.underlying96
 a32 := Tryz.isAgg96
 z32 := Tryz.sizeOf96
 v32 := Tryz.zeroValue96
 t35 := Tryz.underlying334
 a35 := Tryz.isAgg334
 z35 := Tryz.sizeOf334
 v35 := Tryz.zeroValue334
 t36 := Tryz.underlying335
 a36 := Tryz.isAgg335
 z36 := Tryz.sizeOf335
 v36 := Tryz.zeroValue335
 t41 := Tryz.underlying155
 a41 := Tryz.isAgg155
 z41 := Tryz.sizeOf155
 v41 := Tryz.zeroValue155
 t44 := Tryz.underlying223
 a44 := Tryz.isAgg223
 z44 := Tryz.sizeOf223
 v44 := Tryz.zeroValue223
 t46 := Tryz.underlying149
 a46 := Tryz.isAgg149
 z46 := Tryz.sizeOf149
 v46 := Tryz.zeroValue149
 t53 := Tryz.underlying357
 a53 := Tryz.isAgg357
 z53 := Tryz.sizeOf357
 v53 := Tryz.zeroValue357
 t57 := Tryz.underlying361
 a57 := Tryz.isAgg361
 z57 := Tryz.sizeOf361
 v57 := Tryz.zeroValue361
 t63 := Tryz.underlying370
 a63 := Tryz.isAgg370
 z63 := Tryz.sizeOf370
 v63 := Tryz.zeroValue370
 t64 := Tryz.underlying371
 a64 := Tryz.isAgg371
 z64 := Tryz.sizeOf371
 v64 := Tryz.zeroValue371 }
end Go.Proofs
namespace Go.Proofs.YtefnmnpfecfdaaaGreat
namespace Fold
open Go.RowKit Go.Maps Go.Sort Go.Shelf
open Base
open IdxMath (Rw Rise)
theorem keys_sorted {l : List Rw} (h : Rise l) : (l.map (·.key)).Pairwise (fun a b => a <= b) := by
 rw [List.pairwise_map]
 exact h.imp fun h => Int.le_of_lt h
theorem sorted_keys {l : List Rw} (h : Rise l) {ss : List Int} (hs : ss.Perm (l.map (·.key))) : ss.mergeSort (fun x y => decide (x <= y)) = l.map (·.key) := by
 have e : ss.mergeSort (fun x y => decide (x <= y)) = (l.map (·.key)).mergeSort (fun x y => decide (x <= y)) := mergeSort_of_perm_i hs
 rw [e]
 refine List.mergeSort_of_pairwise ?_
 exact (keys_sorted h).imp fun h => by simpa using h
theorem sortsA (m : Nat) : AnyZI.SortsIn Tryz.prog Tryz.sortedZ_ren Fence.wide m :=
 ⟨fun blk off cap ss W hH hblk hsz => callsIn_wide.2 (AnyM.slices_Sort_int Tryz.sortZ blk off cap ss W hH hblk hsz),
  fun p cap W => callsIn_wide.2 (AnyM.slices_Sort_int_none Tryz.sortZ p cap W)⟩
theorem mkeys_any (mb : Option Nat) (W : World) : Calls Tryz.prog 131 #[.map mb] W fun e w' => e = .returned (.func (.func 193) #[] #[.pointer (some ⟨W.heap.size,0,none⟩)]) /\ w' = W.alloc (.cells #[.map mb] 198) :=
 (callsIn_wide (n := 5)).1 (AnyZI.keys_in Tryz.keysZ Fence.wide 5 trivial rfl mb W)
def KeysR (w : World) (l : List Rw) (e : Ending) (w' : World) : Prop :=
 ∃ A c,e = .returned (.slice A l.length c) /\ w'.ownsRow w.heap.size 2 1 (.slice A l.length c) l.length ((l.map (·.key)).map encZ) /\ Below w.heap.size w w'
theorem sorted_any (p b n : Nat) (l : List Rw) (w : World) (hp : w.cell? ⟨p,0,none⟩ = some (.map (some b))) (h : MapAt w b n l) (hr : Rise l) (hsz : l.length <= 1099511627774) :
 Calls Tryz.prog 130 #[.func (.func 193) #[] #[.pointer (some ⟨p,0,none⟩)]] w (KeysR w l) := by
 have hz : Maps.size (DataW.map (ents l)) <= 1099511627774 := by rw [ents_size]; exact hsz
 have hseq : SeqGives Fence.wide 2 Tryz.prog 193 #[.pointer (some ⟨p,0,none⟩)] encZ (fun ss => ss.Perm (intKeys (DataW.map (ents l)))) (Maps.size (DataW.map (ents l))) w :=
  AnyZI.keys_gives (ρ := Tryz.keysZ_ren) { Tryz.keysZ with } Fence.wide _ trivial rfl (by omega) p b _ _ _ (World.block_lt_of_cell? w _ hp) hp h
 have cS := AnyZI.sorted_in Tryz.sortedZ Fence.wide 5 trivial trivial trivial trivial rfl (by omega) (sortsA _) (enters_of Tryz.func192 (by kernel_rfl) rfl) 193 #[.pointer (some ⟨p,0,none⟩)] trivial (enters_of Tryz.func193 (by kernel_rfl) rfl) _ _ (by unfold maxLen; omega) (by omega) _ hseq
 change CallsIn _ _ Tryz.prog 130 _ _ _ at cS
 refine (callsIn_wide.1 cS).mono ?_
 rintro e w' ⟨v,ss,rfl,hS,hrow,_,hb⟩
 rw [ents_keys] at hS
 have hlen : ss.length = l.length := by rw [hS.length_eq,List.length_map]
 rw [sorted_keys hr hS,hlen] at hrow
 obtain ⟨A,c,rfl⟩ := own_slice hrow
 exact ⟨A,c,rfl,hrow,hb⟩
end Fold
namespace Fold
open Go.RowKit Base IdxMath FoldMath Foot Idx
open TxnMath (Ch)
open Lsts (Lsts)
open Last (wp_region_last_at then_normal)
theorem erow2 : Elem Tryz.prog 48 53 1 24 (.slice none 0 0) := .of (by rfl) (by rfl) rfl (by omega)
def rowsL (n : Nat) (cs : List Ch) : List (List Rw) := (List.range n).map fun (i : Nat) => rows (i : Int) cs
theorem rowsL_get {n i : Nat} (hi : i < n) (cs : List Ch) : (rowsL n cs)[i]? = some (rows (i : Int) cs) := by
 unfold rowsL
 rw [List.getElem?_map,List.getElem?_range hi]
 rfl
theorem rowsL_length (n : Nat) (cs : List Ch) : (rowsL n cs).length = n := by simp [rowsL]
structure OutK (w0 : World) (g n k : Nat) (cs : List Ch) (wr : World) : Prop where
 base : w0.heap.size <= g
 row : ∃ arr : Array Value,Blk wr g 53 arr /\ arr.size = n /\ (∀ i,k <= i -> i < n -> arr[i]? = some (.slice none 0 0)) /\
  ∀ i : Nat,i < k -> ∃ A c,arr[i]? = some (.slice A (rows (i : Int) cs).length c) /\ wr.ownsRow w0.heap.size 52 2 (.slice A (rows (i : Int) cs).length c) (rows (i : Int) cs).length (rv (rows (i : Int) cs))
 new : Below w0.heap.size w0 wr
theorem OutK.start {w w1 : World} {n : Nat} {cs : List Ch} (ho : w1.ownsRow w.heap.size 53 1 (.slice (some ⟨w.heap.size,0,none⟩) n n) n (List.replicate n (.slice none 0 0))) (hb : Below w.heap.size w w1) (hn : 1 <= n) : OutK w w.heap.size n 0 cs w1 := by
 rcases ho.2 with ⟨hv,h0⟩ | ⟨b,cap,cur,hv,hbase,hg,h1,h2,h3,h4⟩
 ·omega
 ·simp only [Value.slice.injEq,Option.some.injEq,Addr.mk.injEq] at hv
  obtain ⟨⟨rfl,_⟩,_,rfl⟩ := hv
  rw [List.take_of_length_le (by rw [Array.length_toList,h3]; exact Nat.le_refl _)] at h4
  refine ⟨Nat.le_refl _,⟨cur,hg,by omega,fun i _ hi => ?_,fun i hi => by omega⟩,hb⟩
  rw [<- Array.getElem?_toList,h4,List.getElem?_replicate,if_pos hi]
theorem own_far {w w' : World} {g base n : Nat} {arr : Array Value} {e : TypeId} {size : Nat} {v : Value} {xs : List Value} (h : w.ownsRow base e size v n xs) (hb : Blk w g 53 arr) (hne : e ≠ 53) (hg : w.grownBy w' (some g)) : w'.ownsRow base e size v n xs := by
 refine own_same h fun x hx => ?_
 refine hg.block x (own_lt h hx) fun he => ?_
 injection he with he
 subst he
 obtain ⟨cur,hc⟩ := own_type h hx
 unfold Blk at hb
 rw [hb] at hc
 injection hc with hc
 injection hc with _ hc
 exact hne hc.symm
def CurK (W : World) (g k : Nat) (arr : Array Value) (l : List Rw) (m : Nat) (wr : World) : Prop :=
 W.grownBy wr (some g) /\ ∃ A c,Blk wr g 53 (arr.setIfInBounds k (.slice A m c)) /\ wr.ownsRow W.heap.size 52 2 (.slice A m c) m (rv (l.take m))
theorem row_ne : (52 : TypeId) ≠ 53 := by decide
theorem int64_ne : (2 : TypeId) ≠ 53 := by decide
theorem OutK.next {w0 w W wr : World} {g n k : Nat} {cs : List Ch} {arr : Array Value} (h : OutK w0 g n k cs w) (hk : k < n) (hb : Below w.heap.size w W) (ha : Blk W g 53 arr) (hc : CurK W g k arr (rows (k : Int) cs) (rows (k : Int) cs).length wr) : OutK w0 g n (k + 1) cs wr := by
 obtain ⟨h1,⟨arr',hbk,hz,hr,hd⟩,h6⟩ := h
 have hgl := hbk.lt
 obtain rfl : arr = arr' := by
  have h2 := hbk.below hb hgl
  unfold Blk at h2 ha
  rw [ha] at h2
  injection h2 with h2
  injection h2
 obtain ⟨hg,A,c,hbk2,ho⟩ := hc
 rw [List.take_length] at ho
 have hsz := hb.size
 have hsz0 := h6.size
 refine ⟨h1,⟨_,hbk2,by simpa using hz,fun i hi hin => ?_,fun i hi => ?_⟩,?_⟩
 ·rw [Array.getElem?_setIfInBounds_ne (by omega)]
  exact hr i (by omega) hin
 ·by_cases hik : i = k
  ·subst hik
   exact ⟨A,c,by rw [Array.getElem?_setIfInBounds_self_of_lt (by omega)],own_mono ho (by omega)⟩
  ·obtain ⟨A',c',e,ho'⟩ := hd i (by omega)
   exact ⟨A',c',by rw [Array.getElem?_setIfInBounds_ne (Ne.symm hik)]; exact e,own_far (own_keep ho' hb) ha row_ne hg⟩
 ·have h7 : Below w0.heap.size w0 W := h6.trans (hb.mono hsz0)
  exact h7.grown hg h7.size (fun x hx => by cases hx; exact h1)
theorem OutK.done {w0 wr : World} {g n : Nat} {cs : List Ch} (h : OutK w0 g n n cs wr) (h8 : n <= 8) : Lsts Rz wr wr.heap.size (some ⟨g,0,none⟩) n n (rowsL n cs) := by
 obtain ⟨h1,⟨arr,hbk,hz,hr,hd⟩,h6⟩ := h
 refine Lsts.row (vs := arr.toList) ⟨by rw [Array.length_toList]; omega,Nat.le_refl _,by omega,fun _ => ⟨g,0,rfl,hbk.lt,fun j u hu => ?_⟩⟩ (by rw [Array.length_toList,rowsL_length]; exact hz) fun i v l hv hl => ?_
 ·rw [Nat.zero_add,hbk.cell,<- Array.getElem?_toList]
  exact hu
 ·have hi : i < n := by have := (List.getElem?_eq_some_iff.1 hl).1; rwa [rowsL_length] at this
  rw [rowsL_get hi] at hl
  injection hl with hl
  subst hl
  obtain ⟨A,c,e,ho⟩ := hd i hi
  rw [Array.getElem?_toList,e] at hv
  injection hv with hv
  exact ⟨A,_,c,hv.symm,Rz.of_own ho⟩
def RowsR (w : World) (n : Nat) (cs : List Ch) (e : Ending) (w' : World) : Prop := ∃ g,e = .returned (.slice (some ⟨g,0,none⟩) n n) /\ Lsts Rz w' w'.heap.size (some ⟨g,0,none⟩) n n (rowsL n cs) /\ Below w.heap.size w w'
theorem CurK.push {W wr w4 : World} {g k m : Nat} {arr : Array Value} {l : List Rw} {A A4 : Option Addr} {c c4 : Nat} {x : Rw} (hg : W.grownBy wr (some g)) (hbk : Blk wr g 53 (arr.setIfInBounds k (.slice A m c))) (ho : wr.ownsRow W.heap.size 52 2 (.slice A m c) m (rv (l.take m))) (hgW : g < W.heap.size) (hx : l[m]? = some x)
 (h4 : w4.ownsRow W.heap.size 52 2 (.slice A4 (m + 1) c4) (m + 1) (rv (l.take m ++ [x]))) (hg4 : wr.grownBy w4 (Value.slice A m c).ownBlock) : CurK W g k arr l (m + 1) (w4.setCell ⟨g,k,none⟩ (.slice A4 (m + 1) c4)) := by
 have hgb : some g ≠ (Value.slice A m c).ownBlock := fun e => by have := ho.lt g e.symm; omega
 have hb4 := hbk.grown hg4 hgb
 refine ⟨only_setCell (only_trans hg hg4 (.inr fun x hx => (ho.lt x hx).1)) (.inl rfl) _,A4,c4,?_,?_⟩
 ·have := hb4.set_ k (.slice A4 (m + 1) c4)
  rwa [Array.setIfInBounds_setIfInBounds] at this
 ·have e : l.take (m + 1) = l.take m ++ [x] := by rw [List.take_add_one,hx]; rfl
  rw [e]
  refine own_same h4 fun y hy => Below.heap_setCell _ _ _ y fun e => ?_
  have := h4.lt y hy
  dsimp only at e
  omega
end Fold
namespace Fold
open Go.RowKit Base IdxMath FoldMath Foot Idx
open TxnMath (Ch)
open Lsts (Lsts)
open Last (wp_region_last_at then_normal)
theorem key_in {t : Int} {cs : List Ch} (h : ∀ c ∈ cs,In64 c.key) {x : Rw} (hx : x ∈ rows t cs) : In64 x.key := by
 obtain ⟨c,hc,_,e,_⟩ := rows_mem hx
 rw [<- e]
 exact h c hc
theorem get_in {l : List Rw} (h : Rise l) {x : Rw} (hx : x ∈ l) : IdxMath.get l x.key = some x.val := by
 induction l with
 | nil => cases hx
 | cons y r ih =>
   have hr : Rise r := List.Pairwise.of_cons h
   rw [get_cons]
   rcases List.mem_cons.1 hx with rfl | hx
   ·rw [if_pos rfl]
   ·have := List.rel_of_pairwise_cons h hx
    rw [if_neg (by omega)]
    exact ih hr hx
theorem set_same {arr : Array Value} {k : Nat} {u : Value} (h : arr[k]? = some u) : arr.setIfInBounds k u = arr := by
 apply Array.ext_getElem?
 intro i
 by_cases hi : k = i
 ·subst hi
  rw [Array.getElem?_setIfInBounds_self_of_lt (Array.getElem?_eq_some_iff.1 h).1,h]
 ·rw [Array.getElem?_setIfInBounds_ne hi]
theorem rows_any (g s n : Nat) (cs : List Ch) (w : World) (h : TabsAt w g s n cs) (h1 : 1 <= n) (h8 : n <= 8) (hK : ∀ c ∈ cs,In64 c.key) (hsz : cs.length <= 1099511627774) :
 Calls Tryz.prog 67 #[.slice (some ⟨g,0,none⟩) n n] w (RowsR w n cs) := by
 have HT := hid h
 have HK := hid hK
 clear h hK
 go_enter Tryz.func67,Tryz.ntmps67
 go_wp2_with (first
  | (refine wpList_make_elem _ rfl (.tmp 9) (.tmp 9) rfl erow2 w.heap.size .i64 .i64 _ _ n rfl rfl rfl rfl (by omega) (by omega) (Nat.le_refl _) ?_
     intro w1 ho1 hb1
     replace ho1 : w1.ownsRow w.heap.size 53 1 (.slice (some ⟨w.heap.size,0,none⟩) n n) n (madeCells #[.slice none 0 0] (n * 1)).toList := ho1
     rw [Nat.mul_one,toList_madeCells_one] at ho1
     have HP := hid (OutK.start (cs := cs) ho1 hb1 h1)
     clear ho1 hb1))
 go_loopw [13] (fun vi wr => ∃ k : Nat,vi = .int .i64 k /\ k <= n /\ OutK w w.heap.size n k cs wr) (fun vi _ => n - (RowKit.intOf vi).toNat)
 case atStart => exact ⟨0,rfl,Nat.zero_le _,HP.out⟩
 case round =>
  clear HP
  obtain ⟨k,rfl,hk,ho⟩ := hrel
  have HO := hid ho
  clear ho
  by_cases hkn : k < n
  ·have HT1 : Hid (TabsAt wr g s n cs) := HT.out.keep fun i hi _ => HO.out.new.block i hi
   have x0 : wr.cell? ⟨g,k,none⟩ = some (.map (some (s + k))) := HT1.out.cell hkn
   have l1 : (k : Int) < (n : Int) := by omega
   go_wp2_with fail
   refine (mkeys_any (some (s + k)) wr).mono ?_
   rintro e w2 ⟨rfl,rfl⟩
   have HT2 : Hid (TabsAt (wr.alloc (.cells #[.map (some (s + k))] 198)) g s n cs) := HT1.out.keep fun i hi _ => Below.heap_alloc _ _ i hi
   have HB2 : Hid (Below wr.heap.size wr (wr.alloc (.cells #[.map (some (s + k))] 198))) := (Below.refl _ _).alloc (Nat.le_refl _) _
   have hsl := rows_length (k : Int) cs
   go_wp2_with fail
   refine (sorted_any wr.heap.size (s + k) cs.length (rows (k : Int) cs) _ (by simp) (HT2.out.each k hkn) (rows_rise _ _) (by omega)).mono ?_
   rintro e w3 ⟨KA,kc,rfl,hko,hb3⟩
   have HB3 := hid (held_two HB2.out hb3)
   have HT3 : Hid (TabsAt w3 g s n cs) := HT2.out.keep fun i hi _ => hb3.block i hi
   have HKO := hid hko
   have hkl := (Row.of_own hko).le
   obtain ⟨arr,hbk,haz,_⟩ := HO.out.row
   have HA := hid (hbk.below HB3.out hbk.lt)
   have hgw : w.heap.size < w3.heap.size := HA.out.lt
   have HS : Hid (∀ (i : Nat) (x : Rw),(rows (k : Int) cs)[i]? = some x -> IdxMath.get (rows (k : Int) cs) x.key = some x.val /\ In64 x.key) := fun i x hx => ⟨get_in (rows_rise _ _) (List.mem_of_getElem? hx),key_in HK.out (List.mem_of_getElem? hx)⟩
   have HL : Hid ((rows (k : Int) cs).length <= 1099511627774) := Nat.le_trans hsl hsz
   have HM := hid (HT3.out.each k hkn)
   have hak := HO.out.row
   have HA0 : Hid (arr[k]? = some (.slice none 0 0)) := by
    obtain ⟨arr',hbk',_,hr',_⟩ := hak
    unfold Blk at hbk hbk'
    rw [hbk] at hbk'
    injection hbk' with e
    injection e with e
    subst e
    exact hr' k (Nat.le_refl _) hkn
   clear hko hb3 x0 hsl hbk hak
   have HNEXT : Hid (∀ wx,CurK w3 w.heap.size k arr (rows (k : Int) cs) (rows (k : Int) cs).length wx -> OutK w w.heap.size n (k + 1) cs wx) := fun wx hc => HO.out.next hkn HB3.out HA.out hc
   generalize hRR : rows (k : Int) cs = l at *
   clear hRR
   go_wp2_with fail
   go_loopw [22] (fun vi wx => ∃ m : Nat,vi = .int .i64 m /\ m <= l.length /\ CurK w3 w.heap.size k arr l m wx) (fun vi _ => l.length - (RowKit.intOf vi).toNat)
   case atStart => exact ⟨0,rfl,Nat.zero_le _,World.grownBy.refl _ _,none,0,by rw [set_same HA0.out]; exact HA.out,World.ownsRow_nil _ _ _ _⟩
   case round =>
    obtain ⟨m,rfl,hm,hc⟩ := hrel
    have HC := hid hc
    by_cases hml : m < l.length
    ·obtain ⟨hg,A,c,hbk,ho⟩ := hc
     have hx : l[m]? = some l[m] := List.getElem?_eq_getElem hml
     generalize l[m] = x at hx
     obtain ⟨b,off,rfl,hb,hcells⟩ := (Row.of_own (own_far HKO.out HA.out int64_ne hg)).2.2.2 (by omega)
     have y0 : wr.cell? ⟨b,off + m,none⟩ = some (.int .i64 x.key) := hcells m _ (by rw [List.getElem?_map,List.getElem?_map,hx]; rfl)
     have y1 : wr.cell? ⟨w.heap.size,k,none⟩ = some (.slice A m c) := by rw [hbk.cell,Array.getElem?_setIfInBounds_self_of_lt (by omega)]
     have hgo : some w.heap.size ≠ (Value.slice A m c).ownBlock := fun e => by have := ho.lt _ e.symm; omega
     have HMX : Hid (MapAt wr (s + k) cs.length l) := World.ownsMap.kept HM.out hg (fun e => by
      injection e with e
      have h1 := HM.out
      obtain ⟨es,clock,hb1,_⟩ := h1
      have h2 := HA.out
      unfold Blk at h2
      rw [e,h2] at hb1
      cases hb1)
     have hmo : some (s + k) ≠ (Value.slice A m c).ownBlock := fun e => by have := (ho.lt _ e.symm).1; have := HM.out.lt; omega
     have HSF : Hid (∀ w',wr.grownBy w' (Value.slice A m c).ownBlock -> w'.cell? ⟨w.heap.size,k,none⟩ = some (.slice A m c) /\ (Instr.lookup 198 (.map (some (s + k))) (.int .i64 x.key) false).run Tryz.prog w' = .ok (.string x.val) w' /\ wr.grownBy w' (Value.slice A m c).ownBlock) := fun w' hw' =>
      ⟨by rw [(hbk.grown hw' hgo).cell,Array.getElem?_setIfInBounds_self_of_lt (by omega)],MapAt.look (World.ownsMap.kept HMX.out hw' hmo) (HS.out m x hx).2 (HS.out m x hx).1,hw'⟩
     have HHO := hid ho
     have HHG := hid hg
     have HBK := hid hbk
     have HX := hid hx
     have l2 : (m : Int) < (l.length : Int) := by omega
     have hle := HL.out
     clear hcells hg ho hbk hx hgo hmo
     go_upto_region 8 with fail
     refine wp_region_last_at (S := fun w' => w'.cell? ⟨w.heap.size,k,none⟩ = some (.slice A m c) /\ (Instr.lookup 198 (.map (some (s + k))) (.int .i64 x.key) false).run Tryz.prog w' = .ok (.string x.val) w' /\ wr.grownBy w' (Value.slice A m c).ownBlock) 14 _ rfl rfl (by kernel_rfl) (by kernel_rfl) (by kernel_rfl) (HSF.out wr.drew (only_of_drew (World.grownBy.refl _ _))) (fun hHeld => ?_)
     simp only [List.take_succ_cons,List.take_zero]
     refine wpAnyH_take (i := 0) (v := ?cv0) rfl (by kernel_rfl) (by kernel_rfl) (by kernel_rfl) (fun _ _ _ h => h) (Or.inl ⟨by rfl,?cy0⟩) (by assumption) ?cr0
     case cy0 => (intro w hSw; (try dsimp only at hSw); go_simp; try with_reducible rfl)
     try simp only [Act.put,List.getElem_toArray,List.getElem_cons_succ,List.getElem_cons_zero,List.setIfInBounds_toArray,List.set_cons_zero,List.set_cons_succ]
     refine wpAnyH_take (i := 1) (v := ?cv1) rfl (by kernel_rfl) (by kernel_rfl) (by kernel_rfl) (fun _ _ _ h => h) (Or.inl ⟨by rfl,?cy1⟩) (by assumption) ?cr1
     case cy1 => (intro w hSw; (try dsimp only at hSw); go_simp; try with_reducible rfl)
     try simp only [Act.put,List.getElem_toArray,List.getElem_cons_succ,List.getElem_cons_zero,List.setIfInBounds_toArray,List.set_cons_zero,List.set_cons_succ]
     refine wpAnyH_take (i := 2) (v := ?cv2) rfl (by kernel_rfl) (by kernel_rfl) (by kernel_rfl) (fun _ _ _ h => h) (Or.inl ⟨by rfl,?cy2⟩) (by assumption) ?cr2
     case cy2 => (intro w hSw; (try dsimp only at hSw); go_simp; try with_reducible rfl)
     try simp only [Act.put,List.getElem_toArray,List.getElem_cons_succ,List.getElem_cons_zero,List.setIfInBounds_toArray,List.set_cons_zero,List.set_cons_succ]
     refine wpAnyH_take (i := 3) (v := ?cv3) rfl (by kernel_rfl) (by kernel_rfl) (by kernel_rfl) (fun _ _ _ h => h) (Or.inl ⟨by rfl,?cy3⟩) (by assumption) ?cr3
     case cy3 => (intro w hSw; (try dsimp only at hSw); go_simp; try with_reducible rfl)
     try simp only [Act.put,List.getElem_toArray,List.getElem_cons_succ,List.getElem_cons_zero,List.setIfInBounds_toArray,List.set_cons_zero,List.set_cons_succ]
     refine wpAnyH_take (i := 4) (v := ?cv4) rfl (by kernel_rfl) (by kernel_rfl) (by kernel_rfl) (fun _ _ _ h => h) (Or.inl ⟨by rfl,?cy4⟩) (by assumption) ?cr4
     case cy4 => (intro w hSw; (try dsimp only at hSw); go_simp; try with_reducible rfl)
     try simp only [Act.put,List.getElem_toArray,List.getElem_cons_succ,List.getElem_cons_zero,List.setIfInBounds_toArray,List.set_cons_zero,List.set_cons_succ]
     refine wpAnyH_take (i := 5) (v := ?cv5) rfl (by kernel_rfl) (by kernel_rfl) (by kernel_rfl) (fun _ _ _ h => h) (Or.inl ⟨by rfl,?cy5⟩) (by assumption) ?cr5
     case cy5 => (intro w hSw; (try dsimp only at hSw); go_simp; try with_reducible rfl)
     try simp only [Act.put,List.getElem_toArray,List.getElem_cons_succ,List.getElem_cons_zero,List.setIfInBounds_toArray,List.set_cons_zero,List.set_cons_succ]
     refine wpAnyH_take (i := 6) (v := ?cv6) rfl (by kernel_rfl) (by kernel_rfl) (by kernel_rfl) (fun _ _ _ h => h) (Or.inl ⟨by rfl,?cy6⟩) (by assumption) ?cr6
     case cy6 => (intro w hSw; (try dsimp only at hSw); go_simp; try with_reducible rfl)
     try simp only [Act.put,List.getElem_toArray,List.getElem_cons_succ,List.getElem_cons_zero,List.setIfInBounds_toArray,List.set_cons_zero,List.set_cons_succ]
     refine wpAnyH_take (i := 7) (v := ?cv7) rfl (by kernel_rfl) (by kernel_rfl) (by kernel_rfl) (fun _ _ _ h => h) (Or.inl ⟨by rfl,?cy7⟩) (by assumption) ?cr7
     case cy7 => (intro w hSw; (try dsimp only at hSw); go_simp; try with_reducible rfl)
     try simp only [Act.put,List.getElem_toArray,List.getElem_cons_succ,List.getElem_cons_zero,List.setIfInBounds_toArray,List.set_cons_zero,List.set_cons_succ]
     refine wpAnyH_take (i := 8) (v := ?cv8) rfl (by kernel_rfl) (by kernel_rfl) (by kernel_rfl) (fun _ _ _ h => h) (Or.inl ⟨by rfl,?cy8⟩) (by assumption) ?cr8
     case cy8 => (intro w hSw; (try dsimp only at hSw); go_simp; try with_reducible rfl)
     try simp only [Act.put,List.getElem_toArray,List.getElem_cons_succ,List.getElem_cons_zero,List.setIfInBounds_toArray,List.set_cons_zero,List.set_cons_succ]
     refine wpAnyH_take (i := 9) (v := ?cv9) rfl (by kernel_rfl) (by kernel_rfl) (by kernel_rfl) (fun _ _ _ h => h) (Or.inl ⟨by rfl,?cy9⟩) (by assumption) ?cr9
     case cy9 => (intro w hSw; (try dsimp only at hSw); go_simp; try with_reducible rfl)
     try simp only [Act.put,List.getElem_toArray,List.getElem_cons_succ,List.getElem_cons_zero,List.setIfInBounds_toArray,List.set_cons_zero,List.set_cons_succ]
     refine wpAnyH_take (i := 10) (v := ?cv10) rfl (by kernel_rfl) (by kernel_rfl) (by kernel_rfl) (fun _ _ _ h => h) (Or.inl ⟨by rfl,?cy10⟩) (by assumption) ?cr10
     case cy10 => (intro w hSw; (try dsimp only at hSw); go_simp; try with_reducible rfl)
     try simp only [Act.put,List.getElem_toArray,List.getElem_cons_succ,List.getElem_cons_zero,List.setIfInBounds_toArray,List.set_cons_zero,List.set_cons_succ]
     refine wpAnyH_ready (rs := [11]) (by kernel_rfl) (by simp) ?_
     refine AllReadyH.cons rfl (fun K hK => ?_) AllReadyH.nil
     go_simp
     refine hK.out _ _ (HSF.out _ (only_of_drew (only_alloc (World.grownBy.refl _ _) _))) (fun hHeld => ?_)
     clear hK K
     try simp only [Act.put,List.getElem_toArray,List.getElem_cons_succ,List.getElem_cons_zero,List.setIfInBounds_toArray,List.set_cons_zero,List.set_cons_succ]
     refine wpAnyH_ready (rs := [12]) (by kernel_rfl) (by simp) ?_
     refine AllReadyH.cons rfl (fun K hK => ?_) AllReadyH.nil
     refine step_append_row (by rfl) (.tmp 31) (.tmp 37) (by rfl) er w3.heap.size (.slice A m c) m (rv (l.take m)) (by rfl) (own_keep HHO.out (held_alloc_drew (held_start wr) _)) (wr.heap.size + 1) (some ⟨wr.heap.size,0,none⟩) 1 1 (rv [x]) (by rfl) (one_row wr x.key x.val rfl) (rv_one _) (by omega) (by omega) (by have := HHG.out.size; simp [World.drew]; omega) ?_
     intro A4 c4 w4 hown4 hg4 hb4
     rw [<- rv_append] at hown4
     have hg5 : wr.grownBy w4 (Value.slice A m c).ownBlock := only_trans (only_alloc (World.grownBy.refl wr _) (.cells #[.int .i64 x.key,.string x.val] 52)) (only_of_drew hg4.1) (.inl rfl)
     refine hK.out _ _ (HSF.out _ hg5) (fun hHeld => ?_)
     clear hK K
     try simp only [Act.put,List.getElem_toArray,List.getElem_cons_succ,List.getElem_cons_zero,List.setIfInBounds_toArray,List.set_cons_zero,List.set_cons_succ]
     refine wpAnyH_take (i := 13) (v := ?cv13) rfl (by kernel_rfl) (by kernel_rfl) (by kernel_rfl) (fun _ _ _ h => h) (Or.inl ⟨by rfl,?cy13⟩) (by assumption) ?cr13
     case cy13 => (intro w hSw; (try dsimp only at hSw); go_simp; try with_reducible rfl)
     try simp only [Act.put,List.getElem_toArray,List.getElem_cons_succ,List.getElem_cons_zero,List.setIfInBounds_toArray,List.set_cons_zero,List.set_cons_succ]
     refine wpAnyH_done (by kernel_rfl) ?_ _
     refine then_normal rfl ?_
     have HPU := hid (CurK.push HHG.out HBK.out HHO.out hgw HX.out hown4 hg5)
     have hb5 := HBK.out.grown hg5 (fun e => by have := HHO.out.lt _ e.symm; omega)
     have e4 : w4.cell? ⟨w.heap.size,k,none⟩ = some (.slice A m c) := hHeld.1
     have f4 := hb5.frozen k
     clear hown4 hg4 hb4 hg5 hb5
     go_wp2
     go_roundw
     case rel => exact ⟨m + 1,by go_num,by omega,HPU.out⟩
     case measure => simp [RowKit.intOf]; omega
    ·obtain rfl : m = l.length := by omega
     have l2 : ¬ (l.length : Int) < (l.length : Int) := by omega
     have HN := hid (HNEXT.out wr HC.out)
     clear hc HC
     go_wp2
     go_roundw
     case rel => exact ⟨k + 1,by go_num,by omega,HN.out⟩
     case measure => simp [RowKit.intOf]; omega
  ·obtain rfl : k = n := by omega
   have l1 : ¬ (k : Int) < (k : Int) := by omega
   have HD := hid (HO.out.done h8)
   have HN := hid HO.out.new
   clear HO
   go_wp2
   go_ret
   exact ⟨_,rfl,HD.out,HN.out⟩
end Fold
namespace Fold
open Go.RowKit Base FoldMath Foot
open TxnMath (Ch Tx)
open PChg (gval Cs)
open PTx
theorem tab_col (g s n M : Nat) (hn : n <= 8) (hM : M <= 1099511627774) : Col (Own g s n) (fun cs w => TabsAt w g s n cs) 65 (.slice (some ⟨g,0,none⟩) n n) M (fun c => In64 c.key) where
 keep := fun cs w w' h hk => h.keep hk
 take := fun cs c w h hc hl => take_any g s n cs c w h hc hn (by omega)
end Fold
namespace Fold
open Go.RowKit Base IdxMath FoldMath Foot
open TxnMath (Ch Tx)
open PChg (gval Cs)
open PTx
open Lsts (Lsts)
open Idx (Rs Rz)
theorem run_mf (fn : Fn) (first cap : Array Value) (w : World) : (Instr.makeFunc fn first cap).run Tryz.prog w = .ok (.func fn first cap) w := rfl
def FoldR (w : World) (T : List (List Rw)) (e : Ending) (w' : World) : Prop := ∃ A n c,e = .returned (.slice A n c) /\ Lsts Rz w' w'.heap.size A n c T /\ Below w.heap.size w w'
theorem foldR_none (w : World) : FoldR w [] (.returned (.slice none 0 0)) w := ⟨none,0,0,rfl,Lsts.nil_ _ _,Below.refl _ _⟩
theorem foldT_not {N : Int} {l : List Tx} {k : Int} (h : ¬ (1 <= N /\ N <= 8)) : foldT N l k = [] := if_neg h
theorem foldT_rows {m : Nat} {l : List Tx} {k : Int} (h1 : 1 <= m) (h8 : m <= 8) : foldT (m : Int) l k = rowsL m (chs l (held k l.length)) := by
 unfold foldT
 rw [if_pos (by omega)]
 rfl
theorem fold_any (N : Int) (B : Nat) (A : Option Addr) (n c : Nat) (l : List Tx) (k : Int) (w : World) (hl : Txs w B A n c l) (hB : B <= w.heap.size) (hok : ∀ x ∈ chs l n,In64 x.key) (hM : (chs l n).length < 1099511627774) :
 Calls Tryz.prog 25 #[.int .i64 N,.slice A n c,.int .i64 k] w (FoldR w (foldT N l k)) := by
 have hlen := hl.len
 have HL := hid (hl.more hB)
 have HOK := hid hok
 have HM := hid hM
 clear hl hok hM
 have hmf := run_mf
 rcases Int.lt_or_le N 1 with h1 | h1
 ·go_enter Tryz.func25,Tryz.ntmps25
  go_wp2
  go_ret
  rw [foldT_not (by omega)]
  exact foldR_none w
 rcases Int.lt_or_le 8 N with h8 | h8
 ·go_enter Tryz.func25,Tryz.ntmps25
  go_wp2
  go_ret
  rw [foldT_not (by omega)]
  exact foldR_none w
 obtain ⟨m,rfl⟩ := Int.eq_ofNat_of_zero_le (show 0 <= N by omega)
 have hm1 : 1 <= m := by omega
 have hm8 : m <= 8 := by omega
 rw [foldT_rows hm1 hm8,hlen]
 have hh := held_le k n
 go_enter Tryz.func25,Tryz.ntmps25
 go_wp2_with fail
 refine (newTables_any m hm1 hm8 w).mono ?_
 rintro e w1 ⟨g,s,rfl,ht,hg,hs,hb1⟩
 have HT := hid ht
 have HB1 := hid hb1
 have hgs := ht.gs
 clear ht hb1
 go_wp2_with fail
 refine (walkOver_any A n c _ _ _ w1).mono ?_
 rintro e w2 ⟨rfl,rfl⟩
 have hba : Below w1.heap.size w1 (w1.alloc (.cells #[.slice A n c,.int .i64 0,.func (.func 65) #[.slice (some ⟨g,0,none⟩) m m] #[]] 202)) := (Below.refl _ _).alloc (Nat.le_refl _) _
 have HW2 : Hid (WalkAt (w1.alloc (.cells #[.slice A n c,.int .i64 0,.func (.func 65) #[.slice (some ⟨g,0,none⟩) m m] #[]] 202)) w1.heap.size A n c (0 : Nat) (.func (.func 65) #[.slice (some ⟨g,0,none⟩) m m] #[])) := Blk.new _ _ _
 have HT2 : Hid (TabsAt (w1.alloc (.cells #[.slice A n c,.int .i64 0,.func (.func 65) #[.slice (some ⟨g,0,none⟩) m m] #[]] 202)) g s m (chs l 0)) := by rw [chs_zero]; exact HT.out.keep fun i hi _ => hba.block i hi
 have HB2 : Hid (Below w.heap.size w (w1.alloc (.cells #[.slice A n c,.int .i64 0,.func (.func 65) #[.slice (some ⟨g,0,none⟩) m m] #[]] 202))) := HB1.out.alloc HB1.out.size _
 have hp : w.heap.size <= w1.heap.size := HB1.out.size
 generalize (w1.alloc (.cells #[.slice A n c,.int .i64 0,.func (.func 65) #[.slice (some ⟨g,0,none⟩) m m] #[]] 202)) = w2 at HW2 HT2 HB2 ⊢
 clear hba
 go_wp2_with fail
 refine (to_tab_any (Own g s m) (fun cs w => TabsAt w g s m cs) _ 1099511627774 (fun c => In64 c.key) (tab_col g s m 1099511627774 hm8 (by omega)) w1.heap.size w.heap.size A n c 0 k l w2 HW2.out HT2.out (HL.out.below HB2.out) hp (fun i hi => ⟨Nat.le_trans hg hi.1,by have : i < s + m := hi.2; omega⟩) HOK.out HM.out (Nat.zero_le _)).mono ?_
 rintro e w3 ⟨rfl,_,ht3,hb3⟩
 rw [Nat.max_eq_right (Nat.zero_le _)] at ht3
 have HT3 := hid ht3
 have HB3 : Hid (Below w.heap.size w w3) := HB2.out.trans hb3
 clear ht3 hb3
 have hcl := chs_le l hh
 go_wp2_with fail
 refine (rows_any g s m (chs l (held k n)) w3 HT3.out hm1 hm8 (fun x hx => HOK.out x (chs_sub l hh hx)) (by have := HM.out; omega)).mono ?_
 rintro e w4 ⟨g4,rfl,hls,hb4⟩
 have HR := hid (And.intro hls (held_two HB3.out hb4))
 clear hls hb4
 go_wp2
 go_ret
 exact ⟨_,_,_,rfl,HR.out.1,HR.out.2⟩
end Fold
namespace Src
open Go.RowKit Base
open Foot (Turn Out)
open DiskMath (Fl Dk)
open SrcMath (Sc Lot tt)
open TxnMath (Tx Ch)
open IdxMath (Rw Rise)
open Wal (New Win DiskT From)
open Txn (Chs Sigs)
open PChg (Cs gv pchanges_any)
open PTx (Txs psignals_any OkTx tcells)
open Lsts (Lsts)
open Idx (NewRows rv Rs Rz)
def FdRel (w : World) (s p g gd : Nat) (va vi : Value) (wr : World) : Prop := ∃ (i : Nat) (T : Nat -> Prop) (ts : List Tx) (S : Sc) (d : Dk) (A : Option Addr) (c : Nat),vi = .int .i64 i /\ va = .slice A i c /\ i <= 25 /\ ts.length = i /\ Live T wr s p g gd 2 ts 500 (3 * i) (656 * i) 1 S d /\ AllIn T wr w.heap.size A i c ts /\ New T wr /\ (∀ j,T j -> w.heap.size <= j) /\ d.left = 0 /\ Below w.heap.size w wr
def CsSg (wr : World) (v1 v2 : Value) (wx : World) : Prop := ∃ cs A n c sg A' n' c',v1 = .slice A n c /\ v2 = .slice A' n' c' /\ n <= 6 /\ n' <= 2 /\ wx.ownsRow wr.heap.size 64 4 (.slice A n c) n (gv cs) /\ wx.ownsRow wr.heap.size 9 1 (.slice A' n' c') n' (PTx.sv sg) /\ (∀ f ∈ cs,f.may ((2 : Nat) : Int) = true) /\ (∀ f ∈ sg,f.size <= 40) /\ Below wr.heap.size wr wx
theorem folds_walk (A : Option Addr) (n c : Nat) (L : List Tx) (Ab : Option Addr) (nb cb : Nat) (bad : List Ch) (w : World) (h : Txs w w.heap.size A n c L) (hok : ∀ x ∈ L,OkTx x) (hb : Cs w w.heap.size Ab nb cb bad) (hbk : ∀ f ∈ bad,f.val.size <= 9223372036854775807) :
 Calls Tryz.prog 4 #[.slice A n c,.slice Ab nb cb] w fun e w' => e = .returned (.bool true) /\ Below w.heap.size w w' := by
 have HL := hid h
 have HI := hid hok
 have HBD := hid hb
 have HBI := hid hbk
 have hle := h.le
 clear h hok hb hbk
 go_enter Tryz.func4,Tryz.ntmps4
 go_wp2_with fail
 refine (newdisk_any w).mono ?_
 rintro e w1 ⟨gd,rfl,hd1,hb1⟩
 have HD1 := hid hd1
 have HB1 := hid hb1
 clear hd1 hb1
 go_wp2_with fail
 refine (open_live (From w.heap.size) gd 2 500 w1 HD1.out (new_from HB1.out.size) (by omega) (by omega) (by omega) (by omega)).mono ?_
 rintro e w2 ⟨s,p,g,S,rfl,hl2,ht2⟩
 have HB2 := hid (HB1.out.trans (turn_from ht2 (fun i hi => hi) HB1.out.size))
 have HL2 := hid hl2
 clear hl2 ht2 HD1 HB1
 go_wp2_with fail
 refine (awake_any w2).mono ?_
 rintro e w3 ⟨rfl,hb3⟩
 have HB3 := hid (HB2.out.trans (hb3.mono HB2.out.size))
 have HL3 := hid (HL2.out.new hb3)
 clear hb3 HB2 HL2
 go_wp2
 go_loopw [7,8] (fun va vi wr => FdRel w s p g gd va vi wr) (fun _ vi _ => 25 - (RowKit.intOf vi).toNat)
 case atStart => exact ⟨0,From w.heap.size,[],S,_,none,0,rfl,rfl,by omega,rfl,HL3.out,AllIn.nil_ _ _ _,new_from HB3.out.size,fun j hj => hj,rfl,HB3.out⟩
 case round =>
  clear HL3 HB3
  obtain ⟨i,T,ts,S,d,Aa,ca,rfl,rfl,hi25,htl,hlv,hall,hnew,hTB,hlf,hbel⟩ := hrel
  have HLV := hid hlv
  have HAL := hid hall
  have HNW := hid hnew
  have HTB := hid hTB
  have HLF := hid hlf
  have HBE := hid hbel
  have HTL := hid htl
  have hz := hbel.size
  clear hlv hall hnew hTB hlf hbel
  by_cases hgo : i < n /\ i < 25
  ·obtain ⟨hlt,hlt2⟩ := hgo
   obtain ⟨b,off,x,rfl,hbB,hx,A1,n1,c1,A2,n2,c2,x0,x1,x2,x3,x4,hcs,hss⟩ := (HL.out.below HBE.out).at_ hlt
   have hokx := HI.out x (List.mem_of_getElem? hx)
   have HK1 := hid (fun f hf => (hokx.1 f hf).2)
   have HK2 := hid hokx.2.1
   have HC1 := hid (fun wx (hx : Below wr.heap.size wr wx) => Cs.below hcs (hx.mono hz))
   have HC2 := hid (fun wx (hx : Below wr.heap.size wr wx) => Row.below hss (hx.mono hz))
   have HCC := hid (fun wx (hx : Below wr.heap.size wr wx) => And.intro ((hx.cell (p := ⟨b,off + i * 5 + 2,none⟩) (Nat.lt_of_lt_of_le hbB hz)).trans x2) ((hx.cell (p := ⟨b,off + i * 5 + 3,none⟩) (Nat.lt_of_lt_of_le hbB hz)).trans x3))
   have l1 : (i : Int) < (n : Int) := by omega
   have l2 : (i : Int) < 25 := by omega
   clear hx hokx x0 x1 x4 hcs hss
   go_upto_region 8 with fail
   go_cut [9,10] (fun v1 v2 wx => CsSg wr v1 v2 wx)
   case first =>
    go_region_held3 (fun wx => wx.cell? ⟨b,off + i * 5 + 2,none⟩ = some (.slice A1 n1 c1) /\ wx.cell? ⟨b,off + i * 5 + 3,none⟩ = some (.slice A2 n2 c2) /\ Below wr.heap.size wr wx)
     (first | exact ⟨x2,x3,held_start wr⟩ | assumption | (go_split_ands; exact ⟨(HCC.out _ (held_call (by assumption) hbA)).1,(HCC.out _ (held_call (by assumption) hbA)).2,held_call (by assumption) hbA⟩) | (go_split_ands; exact ⟨(HCC.out _ (held_call (by assumption) hbB)).1,(HCC.out _ (held_call (by assumption) hbB)).2,held_call (by assumption) hbB⟩) | fail)
     (first
       | (go_at_call 13; go_split_ands; refine (pchanges_any 2 6 (by omega) (by omega) (by omega) w.heap.size A1 n1 c1 x.chs _ (HC1.out _ (by assumption)) (Nat.le_trans hz (by assumption : Below wr.heap.size wr _).size) HK1.out).mono ?_; rintro e wA ⟨cs,A3,n3,c3,rfl,hn3,hoA,hmA,hbA⟩)
       | (go_at_call 24; go_split_ands; refine (psignals_any 2 2 (by omega) (by omega) (by omega) w.heap.size A2 n2 c2 x.sigs _ (HC2.out _ (by assumption)) (Nat.le_trans hz (by assumption : Below wr.heap.size wr _).size) HK2.out).mono ?_; rintro e wB ⟨sg,A4,n4,c4,rfl,hn4,hoB,hmB,hbB⟩)
       | fail)
    all_goals (
     go_wp2_with fail
     go_meet
     first
      | exact ⟨cs,A3,n3,c3,sg,A4,n4,c4,rfl,rfl,hn3,hn4,own_keep (own_mono hoA (by assumption : Below wr.heap.size wr _).size) hbB,own_mono hoB (held_call (by assumption) hbA).size,hmA,hmB,held_call (held_call (by assumption) hbA) hbB⟩
      | exact ⟨cs,A3,n3,c3,sg,A4,n4,c4,rfl,rfl,hn3,hn4,own_mono hoA (held_call (by assumption) hbB).size,own_keep (own_mono hoB (by assumption : Below wr.heap.size wr _).size) hbA,hmA,hmB,held_call (held_call (by assumption) hbB) hbA⟩)
   case rest =>
   obtain ⟨cs,A3,n3,c3,sg,A4,n4,c4,rfl,rfl,hn3,hn4,ho3,ho4,hm3,hm4,hb4⟩ := hcut
   rename_i wc
   have hlw := HLV.out.win hb4
   have HAL4 := hid ((HAL.out.new hb4).win (a := wr.heap.size) (b := wc.heap.size))
   have HO3 := hid ho3
   have HO4 := hid ho4
   have HF3 : Hid (Off (Win T wr.heap.size wc.heap.size) (.slice A3 n3 c3)) := off_win ho3
   have HF4 : Hid (Off (Win T wr.heap.size wc.heap.size) (.slice A4 n4 c4)) := off_win ho4
   have hcl : cs.length <= 8 := by have := ho3.1; rw [PChg.gv_length] at this; omega
   have hsl : sg.length <= 2 := by have := ho4.1; rw [PTx.sv,List.length_map] at this; omega
   have HCM := hid (commit_live (Win T wr.heap.size wc.heap.size) s p g gd 2 ts 500 (3 * i) (656 * i) 1 S d A3 n3 c3 cs A4 n4 c4 sg wc hlw (new_win HNW.out hb4.size) (by omega) (by omega) (by omega) (by omega) (by omega) (by omega) (by omega) (Row.of_own ho3) (off_lies HF3.out) (Row.of_own ho4) (off_lies HF4.out) hm3 hcl hsl hm4)
   have HBc := hid (HBE.out.trans (hb4.mono hz))
   have HWB : Hid (∀ j,Win T wr.heap.size wc.heap.size j -> w.heap.size <= j) := fun j hj => HTB.out j hj.1
   have HNWc := hid (new_win HNW.out hb4.size)
   clear ho3 ho4 hb4 hlw hm3 hm4 hcl hsl x2 x3 HCC HC1 HC2 HK1 HK2 l1 l2
   go_wp2_with fail
   refine HCM.out.mono ?_
   rintro e w5 ⟨S5,d5,ht5,_,_,⟨rfl,hl5,hlf5⟩ | ⟨_,_,hne⟩⟩
   rotate_left
   ·exact absurd HLF.out hne
   rw [HTL.out] at hl5 ⊢
   have H5 : Hid (Live (Win T wr.heap.size wc.heap.size) w5 s p g gd 2 (ts ++ [⟨(i : Int) + 1,1,cs,sg,0⟩]) 500 (3 * (i + 1)) (656 * (i + 1)) 1 S5 d5) := hl5
   have HB5 := hid (HBc.out.trans (turn_from ht5 HWB.out HBc.out.size))
   have HN5 := hid (HNWc.out.le ht5.size)
   have HF5 : Hid (d5.left = 0) := by show _ = _; rw [hlf5,HLF.out]
   have HO3' := hid (own_mono (own_turn HO3.out HF3.out ht5) hz)
   have HO4' := hid (own_mono (own_turn HO4.out HF4.out ht5) hz)
   obtain ⟨vs,hvs,hvo,hvl,hvi⟩ := HAL4.out.turn ht5
   have HVS := hid hvs
   have HVO := hid hvo
   have HVI := hid hvi
   clear ht5 hl5 hlf5 HCM hvs hvo hvi HO3 HO4 HAL4 HBc
   have HL : Hid (Below w5.heap.size w5 (w5.alloc (.cells #[.int .i64 ((i : Int) + 1),.int .i64 1,.slice A3 n3 c3,.slice A4 n4 c4,.int .i64 0] 39))) := (Below.refl _ _).alloc (Nat.le_refl _) _
   have hz5 := HB5.out.size
   go_wp2_with (first
    | (at_builtin
       refine wpList_append_row rfl (.tmp 70) (.tmp 75) rfl PTx.etx w.heap.size _ i vs rfl (own_keep HVS.out HL.out) _ _ 1 1 (tcells ((i : Int) + 1) 1 0 A3 n3 c3 A4 n4 c4) rfl (PTx.one_tx w5 ((i : Int) + 1) 1 0 A3 n3 c3 A4 n4 c4 rfl) (PTx.tcells_one _ _ _ _ _ _ _ _ _) (by omega) (by omega) (Nat.le_trans hz5 HL.out.size) ?_
       intro A6 c6 w6 hown6 hg6 hb6
       have HAL6 := hid (AllIn.push (x := ⟨(i : Int) + 1,1,cs,sg,0⟩) (own_keep HVS.out HL.out) HVO.out hvl (fun q y hq => (HVI.out q y hq).turn (.new HL.out)) hown6 hg6 (own_keep HO3'.out HL.out) (own_keep HO4'.out HL.out) HF3.out HF4.out)
       have HL6 := hid ((H5.out.new HL.out).beside hg6 HVO.out)
       have HN6 := hid (new_win (HN5.out.le HL.out.size) hg6.1.size)
       have HB6 := hid ((HB5.out.trans (HL.out.mono hz5)).trans hb6)
       clear hown6 hg6 hb6)
    | fail)
   have HX6 : Hid (∃ T6,AllIn T6 w6 w.heap.size A6 (i + 1) c6 (ts ++ [⟨(i : Int) + 1,1,cs,sg,0⟩]) /\ Live T6 w6 s p g gd 2 (ts ++ [⟨(i : Int) + 1,1,cs,sg,0⟩]) 500 (3 * (i + 1)) (656 * (i + 1)) 1 S5 d5 /\ New T6 w6 /\ ∀ j,T6 j -> w.heap.size <= j) := ⟨_,HAL6.out,HL6.out,HN6.out,fun j hj => HWB.out j hj.1⟩
   clear H5 HVS HVO HVI HO3' HO4' HF3 HF4 HN5 HB5 HNWc HL HAL6 HL6 HN6 HWB
   obtain ⟨T6,g1,g2,g3,g4⟩ := HX6.out
   have HAL6 := hid g1
   have HL6 := hid g2
   have HN6 := hid g3
   have HTB6 := hid g4
   clear g1 g2 g3 g4 HX6
   have hz6 := HB6.out.size
   go_wp2_with fail
   refine (pchanges_any 2 3 (by omega) (by omega) (by omega) w.heap.size Ab nb cb bad w6 (Cs.below HBD.out HB6.out) hz6 HBI.out).mono ?_
   rintro e w7 ⟨cs7,A7,n7,c7,rfl,hn7,ho7,hm7,hb7⟩
   have HO7 := hid ho7
   have HB7 := hid hb7
   have hz7 := hb7.size
   clear ho7 hm7 hb7
   have HL7 : Hid (Below w7.heap.size w7 (w7.alloc (.cells #[.int .i64 2,.int .i64 1,.bool false,.string ⟨#[]⟩] 64))) := (Below.refl _ _).alloc (Nat.le_refl _) _
   go_wp2_with (first
    | (at_builtin
       refine wpList_append_row rfl (.tmp 78) (.tmp 80) rfl PChg.ech w6.heap.size _ n7 (gv cs7) rfl (own_keep HO7.out HL7.out) _ _ 1 1 (gv [⟨2,1,false,⟨#[]⟩⟩]) rfl (PChg.one_ch w7 ⟨2,1,false,⟨#[]⟩⟩ rfl) (PChg.gv_one _) (by omega) (by omega) (Nat.le_trans hz7 HL7.out.size) ?_
       intro A8 c8 w8 hown8 _ hb8
       rw [<- PChg.gv_append] at hown8
       have HO8 := hid hown8
       have HB8 := hid ((HB7.out.trans (HL7.out.mono hz7)).trans hb8)
       clear hown8 hb8)
    | fail)
   clear HO7 HB7 HL7
   have HCB := hid (commit_bad (Win T6 w6.heap.size w8.heap.size) s p g gd 2 _ 500 (3 * (i + 1)) (656 * (i + 1)) 1 S5 d5 A8 (n7 + 1) c8 _ none 0 0 [] w8 (HL6.out.win HB8.out) (new_win HN6.out HB8.out.size) (by omega) (by omega) (by omega) (by omega) (Row.of_own HO8.out) (off_lies (off_win HO8.out)) (Row.nil_ _ _ _) (fun hn => absurd hn (by omega)) ⟨⟨2,1,false,⟨#[]⟩⟩,List.mem_append_right _ (List.mem_singleton.2 rfl),rfl⟩)
   have HB8' := hid (HB6.out.trans (HB8.out.mono hz6))
   have HAL8 := hid ((HAL6.out.new HB8.out).win (a := w6.heap.size) (b := w8.heap.size))
   have HN8 := hid (new_win HN6.out HB8.out.size)
   clear HO8 HL6 HAL6 HN6
   go_wp2_with fail
   refine HCB.out.mono ?_
   rintro e w9 ⟨rfl,hl9,ht9⟩
   have HL9 := hid hl9
   have HAL9 := hid (HAL8.out.turn ht9)
   have HB9 := hid (HB8'.out.trans (turn_from ht9 (fun j hj => HTB6.out j hj.1) HB8'.out.size))
   have HN9 := hid (HN8.out.le ht9.size)
   clear hl9 ht9 HCB HAL8 HN8
   go_wp2
   go_roundw
   case rel => exact ⟨i + 1,_,_,S5,d5,A6,c6,by go_num,rfl,by omega,by rw [List.length_append,HTL.out]; rfl,HL9.out,HAL9.out,HN9.out,fun j hj => HTB6.out j hj.1,HF5.out,HB9.out⟩
   case measure => simp [RowKit.intOf]; omega
  ·have hlen := HAL.out.len
   have HTX := hid HAL.out.txs
   have hcs := HLV.out.lot.chs
   have HFO := hid (Fold.fold_any 2 wr.heap.size Aa i ca ts (i : Int) wr HTX.out (Nat.le_refl _) (fun x hx => by
    obtain ⟨y,hy,hcy⟩ := List.mem_flatMap.1 hx
    have := (TxnMath.chmay_of ((TxnMath.may_of (HLV.out.lot.fine.may y (List.mem_of_mem_take hy))).ch x hcy)).key
    exact ⟨by omega,by omega⟩) (by have := hcs i; omega))
   have hTT : FoldMath.foldT 2 ts (i : Int) = tt 2 ts ts.length := by
    unfold FoldMath.foldT tt
    rw [if_pos (by omega),hlen,FoldMath.held_nat (Nat.le_refl _)]
    rfl
   rw [hTT,<- HLV.out.tabs] at HFO
   have HTB2 := hid HLV.out.tabs
   have hTl : S.T.length = 2 := by rw [HLV.out.tabs]; exact SrcMath.tt_length 2 _ _
   have hmo : ∀ t,(Tbl.tab S.T t).length <= 320 := by
    have : Tbl.Most S.T 320 := by rw [HLV.out.tabs]; exact SrcMath.tab_small (SrcMath.tt_most HLV.out.lot _)
    exact this
   obtain ⟨K,hset,_⟩ := HLV.out.at_.set
   have HRO := hid (fun wx t (hx : Below wr.heap.size wr wx) => Tbl.rows_any K p S.T t wx (hset.new hx) (by have := hmo t; omega))
   have HHD := hid (fun wx (hx : Below wr.heap.size wr wx) => head_any T s p g gd S d wx (HLV.out.at_.new hx) (HLV.out.lok (by omega) (by omega)))
   rw [HLV.out.hd,hlen] at HHD
   have HC0 := hid (fun wx (hx : Below wr.heap.size wr wx) => (HLV.out.at_.new hx).cells.1)
   clear hset hcs hTT
   rcases (show (i < n /\ ¬ i < 25) \/ (¬ i < n /\ True) from if h : i < n then .inl ⟨h,fun h2 => hgo ⟨h,h2⟩⟩ else .inr ⟨h,trivial⟩) with ⟨hq1,hq2⟩ | ⟨hq1,hq2⟩
   all_goals (
    clear hgo
    go_wp2_with fail
    refine HFO.out.mono ?_
    rintro e w4 ⟨A4,n4,c4,rfl,hls,hb4⟩
    obtain rfl : 2 = n4 := by rw [<- hls.len,hTl]
    have c0 := HC0.out w4 hb4
    obtain ⟨b0,o0,B0,m0,k0,r0,rfl,hb0,y0,hr0,hg0,_⟩ := hls.at_ (k := 0) (by omega)
    obtain ⟨b1,o1,B1,m1,k1,r1,e1,hb1,y1,hr1,hg1,_⟩ := hls.at_ (k := 1) (by omega)
    injection e1 with e1
    injection e1 with e1 e2
    subst e1 e2
    have ht0 : Tbl.tab S.T 0 = r0 := Tbl.tab_get (i := 0) (by omega) hg0
    have ht1 : Tbl.tab S.T 1 = r1 := Tbl.tab_get (i := 1) (by omega) hg1
    have HZ0 := hid hr0.1
    have HZ1 := hid hr1.1
    rw [<- ht0] at HZ0
    rw [<- ht1] at HZ1
    have HPL : Hid (∀ (wx : World) (base : Nat) (D : Option Addr) (dn dc : Nat) (l : List Rw) (B : Option Addr) (m k : Nat),Below w4.heap.size w4 wx -> wx.ownsRow base 52 2 (.slice D dn dc) dn (rv l) -> ((B = B0 /\ m = m0 /\ k = k0 /\ l = Tbl.tab S.T 0) \/ (B = B1 /\ m = m1 /\ k = k1 /\ l = Tbl.tab S.T 1)) ->
     Calls Tryz.prog 22 #[.slice D dn dc,.slice B m k] wx fun e w' => e = .returned (.bool true) /\ Below wx.heap.size wx w') := fun wx base D dn dc l B m k hx hd hor => by
     rcases hor with ⟨rfl,rfl,rfl,rfl⟩ | ⟨rfl,rfl,rfl,rfl⟩
     ·exact Idx.rplain_same _ _ _ _ _ _ _ _ _ wx (Rs.of_own hd) (HZ0.out.below hx) (Nat.le_refl _) hx.size
     ·exact Idx.rplain_same _ _ _ _ _ _ _ _ _ wx (Rs.of_own hd) (HZ1.out.below hx) (Nat.le_refl _) hx.size
    have HB4 := hid hb4
    have HCC : Hid (∀ wx,Below w4.heap.size w4 wx -> wx.cell? ⟨s,0,none⟩ = some (.pointer (some ⟨p,0,none⟩)) /\ wx.cell? ⟨b0,o0,none⟩ = some (.slice B0 m0 k0) /\ wx.cell? ⟨b0,o0 + 1,none⟩ = some (.slice B1 m1 k1) /\ Below w4.heap.size w4 wx) := fun wx hx => ⟨(HC0.out wx (held_two HB4.out hx)),(hx.cell (p := ⟨b0,o0,none⟩) hb0).trans y0,(hx.cell (p := ⟨b0,o0 + 1,none⟩) hb0).trans y1,hx⟩
    clear hls hb4 hr0 hr1 hg0 hg1 ht0 ht1 hmo
    go_upto_region 18 with fail
    go_region_held3 (fun wx => wx.cell? ⟨s,0,none⟩ = some (.pointer (some ⟨p,0,none⟩)) /\ wx.cell? ⟨b0,o0,none⟩ = some (.slice B0 m0 k0) /\ wx.cell? ⟨b0,o0 + 1,none⟩ = some (.slice B1 m1 k1) /\ Below w4.heap.size w4 wx)
     (first | exact HCC.out _ (held_start w4) | assumption | (go_split_ands; exact HCC.out _ (held_call (by assumption) hbc)) | fail)
     (first
       | (go_at_call 23; go_split_ands; refine (HRO.out _ _ (held_two HB4.out (by assumption))).mono ?_; rintro e wc ⟨D0,d0c,rfl,hd,hbc⟩)
       | (go_at_call 22; go_split_ands; refine (HPL.out _ _ _ _ _ _ _ _ _ (by assumption) hd (by first | exact .inl ⟨rfl,rfl,rfl,rfl⟩ | exact .inr ⟨rfl,rfl,rfl,rfl⟩)).mono ?_; rintro e wc ⟨rfl,hbc⟩)
       | (go_at_call 17; go_split_ands; refine (HHD.out _ (held_two HB4.out (by assumption))).mono ?_; rintro e wc ⟨rfl,hbc⟩)
       | fail)
    all_goals (
     go_wp2
     go_ret
     exact ⟨rfl,held_two HBE.out (held_two HB4.out (by first | assumption | exact held_call (by assumption) hbc))⟩))
end Src
end Go.Proofs.YtefnmnpfecfdaaaGreat
namespace Go.Proofs.YtefnmnpfecfdaaaGreat.sourceFolds
open Go.ChangeShapes Go.WideShapes Go.ChangeAt Go.RowKit
open Go.ChangeMaps (open_string shut_string)
set_option linter.unusedVariables false
theorem own : ownKnob Tryz.prog.godebug = none := by kernel_rfl
theorem laidOut : laidOutB Tryz.prog = true := by kernel_rfl
set_option maxRecDepth 100000 in
theorem lifted (os : Os) (started : os.Started) (H : Type) (enc : TypeId × Value → H) :
 ReturnsInHanded {} Tryz.checked os 4 .any (Rows.sourceFoldsSpec.pre6 enc Tryz.prog Tryz.f4 Rows.sourceFoldsRow.domain false) (Rows.sourceFoldsSpec.post enc Tryz.prog Tryz.f4 false true false false) := by
 refine returnsInHanded_of_change_sized (C := Tryz.checked) own started (by kernel_rfl) Tryz.func4
  (ChangeSpec.witness6 (enc := enc) (C := Tryz.checked) false ⟨#[], #[.slice none 0 0, .slice none 0 0], []⟩ 8 (by kernel_rfl) (by kernel_rfl) (by kernel_rfl) (by kernel_rfl)) ?_
 intro W base args ds gs before hval0 hW hcnd hsz0 _
 have hval : ∀ (j : Nat) t v, Tryz.f4.params[j]? = some t → args[j]? = some v → Value.okWide Tryz.prog W .any base t v := hval0
 have hsz : (DataW.weightsEach Tryz.prog (Tryz.f4.params.toList ++ Rows.sourceFoldsSpec.plain.varTypes Tryz.prog) (ds ++ gs)).all (· ≤ reachBytes) = true := hsz0
 have hW' := hW
 obtain ⟨p, q, hA0, hV, rfl, hfz, hnd⟩ := hW
 have hA : DataW.TrodAll enc Tryz.prog W 0 (fun _ => true) true Tryz.f4.params.toList args.toList ds p := hA0
 rw [Tryz.params4] at hA hval hsz
 obtain ⟨v0, vs0, d0, ds0, p0, q0, hargs, rfl, rfl, h0, r0⟩ := trodAll_cons hA
 obtain ⟨v1, vs1, d1, ds1, p1, q1, rfl, rfl, rfl, h1, r1⟩ := trodAll_cons r0
 obtain ⟨rfl, rfl, rfl⟩ := trodAll_nil r1
 obtain rfl : args = #[v0, v1] := by cases args; simp_all
 obtain ⟨rfl, rfl⟩ := trodVars_none hV
 obtain ⟨a0, len0, cap0, rfl⟩ := okWide_slice Tryz.underlying32 (hval 0 32 v0 rfl rfl)
 have k0 := h0
 have lt0 : ∀ x ∈ p0, x.block < W.heap.size := by obtain ⟨m, hm⟩ := k0; exact DataW.trod_lt m _ _ _ hm
 obtain ⟨l0, w0⟩ := PTx.open_txns h0 (fun z hz => by have := List.all_eq_true.1 hsz z (DataW.weights_mem_each (j := 0) (t := 32) rfl rfl z hz); simpa using this)
 obtain ⟨a1, len1, cap1, rfl⟩ := okWide_slice Tryz.underlying35 (hval 1 35 v1 rfl rfl)
 have k1 := h1
 have lt1 : ∀ x ∈ p1, x.block < W.heap.size := by obtain ⟨m, hm⟩ := k1; exact DataW.trod_lt m _ _ _ hm
 obtain ⟨l1, w1⟩ := PChg.open_changes h1
 clear hA0 hval0
 refine (Src.folds_walk a0 len0 cap0 l0 a1 len1 cap1 l1 W w0.1 w0.2.1 w1.1 w1.2).mono fun e W' ⟨he, bel⟩ => ?_
 subst he
 exact ⟨_, rfl, _, _, _, [], _, [], hW', trodAll_mk1 (shut_bool Tryz.underlying4 _), (trodAll_cons_mk (Below.trod laidOut (by kernel_rfl) (of_decide_eq_true (by kernel_rfl)) k0 bel lt0) (trodAll_cons_mk (Below.trod laidOut (by kernel_rfl) (of_decide_eq_true (by kernel_rfl)) k1 bel lt1) trodAll_mk0)), rfl, bel.frame _, fun h => by cases h⟩
theorem over : Rows.sourceFoldsRow.holds Tryz.pinned (OpenSpec.ofChange Rows.sourceFoldsSpec) :=
 OpenClaim.holds_of_wide 4 Tryz.f4 rfl rfl rfl rfl rfl rfl rfl ⟨rfl, rfl, rfl, rfl, rfl⟩ rfl rfl rfl rfl rfl (by kernel_rfl) Tryz.func4 (by kernel_rfl)
  (of_decide_eq_true (by kernel_rfl)) (by unfold Func.isWrapper; first | (rw [if_pos (by decide +kernel)]; kernel_rfl) | (rw [if_neg (by decide +kernel)]; exact ⟨rfl, rfl⟩))
  (fun os started H enc _ => lifted os started H enc)
end Go.Proofs.YtefnmnpfecfdaaaGreat.sourceFolds
namespace Go.Proofs.YtefnmnpfecfdaaaGreat
theorem sourceFolds_holds : Rows.SourceFoldsSaid := sourceFolds.over
end Go.Proofs.YtefnmnpfecfdaaaGreat
#print axioms Go.Proofs.YtefnmnpfecfdaaaGreat.sourceFolds_holds
