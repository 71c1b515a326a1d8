/-
  Contracts of package disk's questions, and of New.
-/
import Derived.Test.YtedfddnbgljcjaaGreatDiskAppend
import Derived.Carry
namespace Go.Proofs.YtedfddnbgljcjaaGreat.Disk
set_option maxRecDepth 100000
open Go.RowKit Base DiskMath
set_option linter.ambiguousOpen false

/-- a new row that reads as l -/
def NewRow (w : World) (l : List UInt8) (v : Value) (w' : World) : Prop := ∃ A c, v = .slice A l.length c ∧ w'.ownsRow w.heap.size 5 1 (.slice A l.length c) l.length (bv l) ∧ Below w.heap.size w w'

set_option maxHeartbeats 400000 in
theorem clone_any (B : Nat) (A : Option Addr) (n c : Nat) (l : List UInt8) (w : World) (hr : Bytes w B A n c l) (hB : B ≤ w.heap.size) (hn : n ≤ 140737488355328) :
    Calls Tryz.prog 53 #[.slice A n c] w fun e w' => ∃ A' c', e = .returned (.slice A' n c') ∧ w'.ownsRow w.heap.size 5 1 (.slice A' n c') n (bv l) ∧ Below w.heap.size w w' := by
  have hnil : ∀ w, (binOp .eql 31 (.slice A n c) (.slice none 0 0)).run Tryz.prog w = .ok (.bool A.isNone) w := fun w => Lib.run_eql_slice_nil (P := Tryz.prog) w 31 5 A n c 0 0 Tryz.underlying31
  cases A with
  | none =>
    have h0 : n = 0 := by
      rcases Nat.eq_zero_or_pos n with h0 | h0
      · exact h0
      · obtain ⟨b, off, h, _⟩ := hr.2.2.2 h0
        cases h
    subst h0
    obtain rfl : l = [] := List.eq_nil_of_length_eq_zero hr.len
    clear hr hn
    go_enter Tryz.func53, Tryz.ntmps53
    go_wp2
    go_ret
    exact ⟨none, 0, rfl, World.ownsRow_nil _ _ _ _, Below.refl _ _⟩
  | some a =>
    have HR := Lib.hid hr
    clear hr
    go_enter Tryz.func53, Tryz.ntmps53
    go_wp2_with (first
      | (at_builtin
         refine wpList_append_row rfl (.tmp 5) (.tmp 6) rfl eb w.heap.size _ 0 [] rfl (own_empty _ _ _ _ rfl (Nat.le_refl _)) B (some a) n c (bv l) rfl (HR.out.alloc hB _) (bv_one _) (by omega) (by omega) (by simp) ?_
         intro A1 c1 w1 hown1 _ hb1
         rw [Nat.zero_add, List.nil_append] at hown1
         rw [Nat.zero_add]
         have HY1 := Lib.hid hown1
         have HB1 := Lib.hid (((Below.refl w.heap.size w).alloc (Nat.le_refl _) _).trans hb1)
         clear hown1 hb1)
      | fail)
    go_ret
    exact ⟨A1, c1, rfl, HY1.out, HB1.out⟩

/-- a file that is there -/
theorem DiskAt.file {F : Nat → Prop} {w : World} {g : Nat} {d : Dk} (h : DiskAt F w g d) {f : Int} (hI : I64 f) {x : Fl} (hx : seek d.files f = some x) :
    ∃ m q, w.cell? ⟨g, 3, none⟩ = some (.map (some m)) ∧ (Instr.lookup 49 (.map (some m)) (.int .i64 f) false).run Tryz.prog w = .ok (.pointer (some ⟨q.p, 0, none⟩)) w ∧ FileAt w F x q := by
  obtain ⟨m, pl, hh, _, hb⟩ := h
  have hX := hb.2.2.1.1 x (seek_mem hx).1
  rw [(seek_mem hx).2] at hX
  refine ⟨m, pl f, hh.cells.2.2.2, ?_, hX⟩
  have hl := hb.finds hI.wf
  rwa [hx, Option.map_some] at hl
theorem DiskAt.nofile {F : Nat → Prop} {w : World} {g : Nat} {d : Dk} (h : DiskAt F w g d) {f : Int} (hI : I64 f) (hx : seek d.files f = none) :
    ∃ m, w.cell? ⟨g, 3, none⟩ = some (.map (some m)) ∧ (Instr.lookup 49 (.map (some m)) (.int .i64 f) false).run Tryz.prog w = .ok (.pointer none) w := by
  obtain ⟨m, pl, hh, _, hb⟩ := h
  refine ⟨m, hh.cells.2.2.2, ?_⟩
  have hl := hb.finds hI.wf
  rwa [hx, Option.map_none] at hl

set_option maxHeartbeats 400000 in
theorem read_yes (F : Nat → Prop) (g : Nat) (d : Dk) (f : Int) (x : Fl) (w : World) (h : DiskAt F w g d) (hI : I64 f) (hx : seek d.files f = some x) (hn : x.b.length ≤ 140737488355328) :
    Calls Tryz.prog 40 #[.pointer (some ⟨g, 0, none⟩), .int .i64 f] w fun e w' =>
      ∃ A c, e = .returned (.tuple #[.slice A x.b.length c, .bool true]) ∧ w'.ownsRow w.heap.size 5 1 (.slice A x.b.length c) x.b.length (bv x.b) ∧ Below w.heap.size w w' := by
  obtain ⟨m, ⟨p, A, c⟩, c3, hl, hX⟩ := h.file hI hx
  have c0 : w.cell? ⟨p, 0, none⟩ = some (.slice A x.b.length c) := Blk.cell hX.1 0
  have HR := Lib.hid hX.bytes
  clear h hX hx
  dsimp only at hl
  generalize hk : x.b.length = k at c0 hn HR
  have HK := Lib.hid hk
  clear hk
  go_enter Tryz.func40, Tryz.ntmps40
  go_wp2_with fail
  refine (clone_any w.heap.size A k c x.b w HR.out (Nat.le_refl _) hn).mono ?_
  rintro e w1 ⟨A1, c1, rfl, hown1, hb1⟩
  have HO := Lib.hid hown1
  have HB := Lib.hid hb1
  clear hown1 hb1
  go_wp2
  go_ret2
  exact ⟨A1, c1, rfl, HO.out, HB.out⟩

set_option maxHeartbeats 400000 in
theorem read_no (F : Nat → Prop) (g : Nat) (d : Dk) (f : Int) (w : World) (h : DiskAt F w g d) (hI : I64 f) (hx : seek d.files f = none) :
    Calls Tryz.prog 40 #[.pointer (some ⟨g, 0, none⟩), .int .i64 f] w fun e w' => e = .returned (.tuple #[.slice none 0 0, .bool false]) ∧ w = w' := by
  obtain ⟨m, c3, hl⟩ := h.nofile hI hx
  clear h hx
  go_enter Tryz.func40, Tryz.ntmps40
  go_wp2
  go_ret2
  exact ⟨rfl, rfl⟩

set_option maxHeartbeats 400000 in
theorem len_any (F : Nat → Prop) (g : Nat) (d : Dk) (f : Int) (w : World) (h : DiskAt F w g d) (hI : I64 f) :
    Calls Tryz.prog 80 #[.pointer (some ⟨g, 0, none⟩), .int .i64 f] w fun e w' => e = .returned (.int .i64 (size d f)) ∧ w = w' := by
  cases hx : seek d.files f with
  | none =>
    have HZ := Lib.hid (show size d f = -1 by rw [size, hx])
    obtain ⟨m, c3, hl⟩ := h.nofile hI hx
    clear h hx
    go_enter Tryz.func80, Tryz.ntmps80
    go_wp2
    go_ret
    rw [HZ.out]
    exact ⟨rfl, rfl⟩
  | some x =>
    have HZ := Lib.hid (show size d f = x.b.length by rw [size, hx])
    obtain ⟨m, ⟨p, A, c⟩, c3, hl, hX⟩ := h.file hI hx
    have c0 : w.cell? ⟨p, 0, none⟩ = some (.slice A x.b.length c) := Blk.cell hX.1 0
    dsimp only at hl
    clear h hX hx
    generalize x.b.length = k at c0 HZ
    go_enter Tryz.func80, Tryz.ntmps80
    go_wp2
    go_ret
    rw [HZ.out]
    exact ⟨rfl, rfl⟩

set_option maxHeartbeats 400000 in
theorem synced_any (F : Nat → Prop) (g : Nat) (d : Dk) (f : Int) (w : World) (h : DiskAt F w g d) (hI : I64 f) :
    Calls Tryz.prog 42 #[.pointer (some ⟨g, 0, none⟩), .int .i64 f] w fun e w' => e = .returned (.int .i64 (safe d f)) ∧ w = w' := by
  cases hx : seek d.files f with
  | none =>
    have HZ := Lib.hid (show safe d f = -1 by rw [safe, hx])
    obtain ⟨m, c3, hl⟩ := h.nofile hI hx
    clear h hx
    go_enter Tryz.func42, Tryz.ntmps42
    go_wp2
    go_ret
    rw [HZ.out]
    exact ⟨rfl, rfl⟩
  | some x =>
    have HZ := Lib.hid (show safe d f = x.safe by rw [safe, hx])
    obtain ⟨m, ⟨p, A, c⟩, c3, hl, hX⟩ := h.file hI hx
    have c0 : w.cell? ⟨p, 1, none⟩ = some (.int .i64 x.safe) := Blk.cell hX.1 1
    dsimp only at hl
    clear h hX hx
    generalize x.safe = k at c0 HZ
    go_enter Tryz.func42, Tryz.ntmps42
    go_wp2
    go_ret
    rw [HZ.out]
    exact ⟨rfl, rfl⟩

theorem down_any (F : Nat → Prop) (g : Nat) (d : Dk) (w : World) (h : DiskAt F w g d) :
    Calls Tryz.prog 30 #[.pointer (some ⟨g, 0, none⟩)] w fun e w' => e = .returned (.bool d.off) ∧ w = w' := by
  obtain ⟨m, pl, hh, _, _⟩ := h
  have c2 := hh.cells.2.2.1
  clear hh
  go_enter Tryz.func30, Tryz.ntmps30
  go_wp2
  go_ret
  exact ⟨rfl, rfl⟩
theorem ops_any (F : Nat → Prop) (g : Nat) (d : Dk) (w : World) (h : DiskAt F w g d) :
    Calls Tryz.prog 21 #[.pointer (some ⟨g, 0, none⟩)] w fun e w' => e = .returned (.int .i64 d.ops) ∧ w = w' := by
  obtain ⟨m, pl, hh, _, _⟩ := h
  have c2 := hh.cells.1
  clear hh
  go_enter Tryz.func21, Tryz.ntmps21
  go_wp2
  go_ret
  exact ⟨rfl, rfl⟩

/-- what Arm does -/
def Armed (F : Nat → Prop) (w : World) (g : Nat) (d : Dk) (e : Ending) (w' : World) : Prop := e = .returned (.tuple #[]) ∧ DiskAt (Out F w w') w' g d ∧ Turn F w w'
/-- a new disk -/
def Newed (w : World) (e : Ending) (w' : World) : Prop := ∃ g, e = .returned (.pointer (some ⟨g, 0, none⟩)) ∧ DiskAt (Out (fun _ => False) w w') w' g none_ ∧ Below w.heap.size w w'
set_option maxHeartbeats 400000 in
theorem new_any (w : World) : Calls Tryz.prog 4 #[] w (Newed w) := by
  have hmk : (Instr.makeMap 49 none).run Tryz.prog w = .ok (.map (some w.heap.size)) (w.alloc (.map #[] 0)) := by kernel_rfl
  go_enter Tryz.func4, Tryz.ntmps4
  go_wp2
  go_ret
  have hb : Below w.heap.size w ((w.alloc (.map #[] 0)).alloc (.cells #[.int .i64 0, .int .i64 0, .bool false, .map (some w.heap.size)] 53)) := ((Below.refl _ w).alloc (Nat.le_refl _) _).alloc (by simp) _
  refine ⟨w.heap.size + 1, rfl, ⟨w.heap.size, fun _ => ⟨0, none, 0⟩, ?_, .inr ⟨by omega, by simp⟩, .inr ⟨by omega, by simp; omega⟩, ?_, ⟨fun x hx => (by cases hx), fun x hx => (by cases hx)⟩, trivial⟩, hb⟩
  · have := Blk.new (w.alloc (.map #[] 0)) 53 #[.int .i64 0, .int .i64 0, .bool false, .map (some w.heap.size)]
    rw [World.size_alloc] at this
    exact this
  · exact (World.ownsMap_made w Tryz.prog 3 rd).alloc _
end Go.Proofs.YtedfddnbgljcjaaGreat.Disk
