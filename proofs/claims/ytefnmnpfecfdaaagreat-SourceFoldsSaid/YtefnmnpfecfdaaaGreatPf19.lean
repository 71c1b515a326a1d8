/-
  Texts of one proof: DiskAsk, Iter, DiskFiles.
-/
import Derived.Test.YtefnmnpfecfdaaaGreatPf18
import Derived.Shelf.SlIterI.Nil
import Derived.Shelf.SortM.Plain
import Derived.Shelf.SortM.SortNone
set_option linter.all false
set_option maxRecDepth 100000
set_option maxHeartbeats 1000000
open Go.Lib (hid)
namespace Go.Proofs.YtefnmnpfecfdaaaGreat
namespace Disk
open Go.RowKit Base DiskMath Foot
theorem clone_any (B : Nat) (A : Option Addr) (n c : Nat) (l : List UInt8) (w : World) (hr : Bytes w B A n c l) (hB : B <= w.heap.size) (hn : n <= 140737488355328) :
 Calls Tryz.prog 116 #[.slice A n c] w fun e w' => ∃ A' c',e = .returned (.slice A' n c') /\ w'.ownsRow w.heap.size 5 1 (.slice A' n c') n (bv l) /\ Below w.heap.size w w' := by
 have hnil : ∀ w,(binOp .eql 68 (.slice A n c) (.slice none 0 0)).run Tryz.prog w = .ok (.bool A.isNone) w := fun w => Lib.run_eql_slice_nil (P := Tryz.prog) w 68 5 A n c 0 0 Tryz.underlying68
 cases A with
 | none =>
   have h0 : n = 0 := by
    rcases Nat.eq_zero_or_pos n with h0 | h0
    ·exact h0
    ·obtain ⟨b,off,h,_⟩ := hr.2.2.2 h0
     cases h
   subst h0
   obtain rfl : l = [] := List.eq_nil_of_length_eq_zero hr.len
   clear hr hn
   go_enter Tryz.func116,Tryz.ntmps116
   go_wp2
   go_ret
   exact ⟨none,0,rfl,World.ownsRow_nil _ _ _ _,Below.refl _ _⟩
 | some a =>
   have HR := hid hr
   clear hr
   go_enter Tryz.func116,Tryz.ntmps116
   go_wp2_with (first
    | (at_builtin
       refine wpList_append_row rfl (.tmp 5) (.tmp 6) rfl eb w.heap.size _ 0 [] rfl (own_empty _ _ _ _ rfl (Nat.le_refl _)) B (some a) n c (bv l) rfl (HR.out.alloc hB _) (bv_one _) (by omega) (by omega) (by simp) ?_
       intro A1 c1 w1 hown1 _ hb1
       rw [Nat.zero_add,List.nil_append] at hown1
       rw [Nat.zero_add]
       have HY1 := hid hown1
       have HB1 := hid (((Below.refl w.heap.size w).alloc (Nat.le_refl _) _).trans hb1)
       clear hown1 hb1)
    | fail)
   go_ret
   exact ⟨A1,c1,rfl,HY1.out,HB1.out⟩
theorem DiskAt.file {F : Nat -> Prop} {w : World} {g : Nat} {d : Dk} (h : DiskAt F w g d) {f : Int} (hI : I64 f) {x : Fl} (hx : seek d.files f = some x) :
 ∃ m q,w.cell? ⟨g,3,none⟩ = some (.map (some m)) /\ (Instr.lookup 86 (.map (some m)) (.int .i64 f) false).run Tryz.prog w = .ok (.pointer (some ⟨q.p,0,none⟩)) w /\ FileAt w F x q := by
 obtain ⟨m,pl,hh,_,hb⟩ := h
 have hX := hb.2.2.1.1 x (seek_mem hx).1
 rw [(seek_mem hx).2] at hX
 refine ⟨m,pl f,hh.cells.2.2.2,?_,hX⟩
 have hl := hb.finds hI.wf
 rwa [hx,Option.map_some] at hl
theorem DiskAt.nofile {F : Nat -> Prop} {w : World} {g : Nat} {d : Dk} (h : DiskAt F w g d) {f : Int} (hI : I64 f) (hx : seek d.files f = none) :
 ∃ m,w.cell? ⟨g,3,none⟩ = some (.map (some m)) /\ (Instr.lookup 86 (.map (some m)) (.int .i64 f) false).run Tryz.prog w = .ok (.pointer none) w := by
 obtain ⟨m,pl,hh,_,hb⟩ := h
 refine ⟨m,hh.cells.2.2.2,?_⟩
 have hl := hb.finds hI.wf
 rwa [hx,Option.map_none] at hl
theorem read_yes (F : Nat -> Prop) (g : Nat) (d : Dk) (f : Int) (x : Fl) (w : World) (h : DiskAt F w g d) (hI : I64 f) (hx : seek d.files f = some x) (hn : x.b.length <= 140737488355328) :
 Calls Tryz.prog 88 #[.pointer (some ⟨g,0,none⟩),.int .i64 f] w fun e w' =>
  ∃ A c,e = .returned (.tuple #[.slice A x.b.length c,.bool true]) /\ w'.ownsRow w.heap.size 5 1 (.slice A x.b.length c) x.b.length (bv x.b) /\ Below w.heap.size w w' := by
 obtain ⟨m,⟨p,A,c⟩,c3,hl,hX⟩ := h.file hI hx
 have c0 : w.cell? ⟨p,0,none⟩ = some (.slice A x.b.length c) := Blk.cell hX.1 0
 have HR := hid hX.bytes
 clear h hX hx
 dsimp only at hl
 generalize hk : x.b.length = k at c0 hn HR
 have HK := hid hk
 clear hk
 go_enter Tryz.func88,Tryz.ntmps88
 go_wp2_with fail
 refine (clone_any w.heap.size A k c x.b w HR.out (Nat.le_refl _) hn).mono ?_
 rintro e w1 ⟨A1,c1,rfl,hown1,hb1⟩
 have HO := hid hown1
 have HB := hid hb1
 clear hown1 hb1
 go_wp2
 go_ret2
 exact ⟨A1,c1,rfl,HO.out,HB.out⟩
theorem read_no (F : Nat -> Prop) (g : Nat) (d : Dk) (f : Int) (w : World) (h : DiskAt F w g d) (hI : I64 f) (hx : seek d.files f = none) :
 Calls Tryz.prog 88 #[.pointer (some ⟨g,0,none⟩),.int .i64 f] w fun e w' => e = .returned (.tuple #[.slice none 0 0,.bool false]) /\ w = w' := by
 obtain ⟨m,c3,hl⟩ := h.nofile hI hx
 clear h hx
 go_enter Tryz.func88,Tryz.ntmps88
 go_wp2
 go_ret2
 exact ⟨rfl,rfl⟩
theorem len_any (F : Nat -> Prop) (g : Nat) (d : Dk) (f : Int) (w : World) (h : DiskAt F w g d) (hI : I64 f) :
 Calls Tryz.prog 211 #[.pointer (some ⟨g,0,none⟩),.int .i64 f] w fun e w' => e = .returned (.int .i64 (size d f)) /\ w = w' := by
 cases hx : seek d.files f with
 | none =>
   have HZ := hid (show size d f = -1 by rw [size,hx])
   obtain ⟨m,c3,hl⟩ := h.nofile hI hx
   clear h hx
   go_enter Tryz.func211,Tryz.ntmps211
   go_wp2
   go_ret
   rw [HZ.out]
   exact ⟨rfl,rfl⟩
 | some x =>
   have HZ := hid (show size d f = x.b.length by rw [size,hx])
   obtain ⟨m,⟨p,A,c⟩,c3,hl,hX⟩ := h.file hI hx
   have c0 : w.cell? ⟨p,0,none⟩ = some (.slice A x.b.length c) := Blk.cell hX.1 0
   dsimp only at hl
   clear h hX hx
   generalize x.b.length = k at c0 HZ
   go_enter Tryz.func211,Tryz.ntmps211
   go_wp2
   go_ret
   rw [HZ.out]
   exact ⟨rfl,rfl⟩
theorem down_any (F : Nat -> Prop) (g : Nat) (d : Dk) (w : World) (h : DiskAt F w g d) :
 Calls Tryz.prog 43 #[.pointer (some ⟨g,0,none⟩)] w fun e w' => e = .returned (.bool d.off) /\ w = w' := by
 obtain ⟨m,pl,hh,_,_⟩ := h
 have c2 := hh.cells.2.2.1
 clear hh
 go_enter Tryz.func43,Tryz.ntmps43
 go_wp2
 go_ret
 exact ⟨rfl,rfl⟩
def Newed (w : World) (e : Ending) (w' : World) : Prop := ∃ g,e = .returned (.pointer (some ⟨g,0,none⟩)) /\ DiskAt (Out (fun _ => False) w w') w' g none_ /\ Below w.heap.size w w'
theorem new_any (w : World) : Calls Tryz.prog 7 #[] w (Newed w) := by
 have hmk : (Instr.makeMap 86 none).run Tryz.prog w = .ok (.map (some w.heap.size)) (w.alloc (.map #[] 0)) := by kernel_rfl
 go_enter Tryz.func7,Tryz.ntmps7
 go_wp2
 go_ret
 have hb : Below w.heap.size w ((w.alloc (.map #[] 0)).alloc (.cells #[.int .i64 0,.int .i64 0,.bool false,.map (some w.heap.size)] 90)) := ((Below.refl _ w).alloc (Nat.le_refl _) _).alloc (by simp) _
 refine ⟨w.heap.size + 1,rfl,⟨w.heap.size,fun _ => ⟨0,none,0⟩,?_,.inr ⟨by omega,by simp⟩,.inr ⟨by omega,by simp; omega⟩,?_,⟨fun x hx => (by cases hx),fun x hx => (by cases hx)⟩,trivial⟩,hb⟩
 ·have := Blk.new (w.alloc (.map #[] 0)) 90 #[.int .i64 0,.int .i64 0,.bool false,.map (some w.heap.size)]
  rw [World.size_alloc] at this
  exact this
 ·exact (World.ownsMap_made w Tryz.prog 3 rd).alloc _
end Disk
end Go.Proofs.YtefnmnpfecfdaaaGreat
namespace Go.Proofs
open Go.Shelf
def Tryz.keysA_ren : Go.Shelf.Ren := ⟨fun | 7 => 112 | 10 => 182 | n => n,fun | 23 => 86 | 26 => 3 | 3 => 101 | 28 => 177 | 0 => 0 | 27 => 176 | 33 => 114 | 4 => 4 | n => n,fun | n => n⟩
theorem Tryz.keysA : Go.Proofs.SlLaysZI.n7 Tryz.prog Tryz.keysA_ren := {
 mixed := by kernel_rfl
 f7 := ⟨Tryz.f112.name,by decide,Tryz.func112.trans (congrArg some (by kernel_rfl))⟩
 f10 := ⟨Tryz.f182.name,by decide,Tryz.func182.trans (congrArg some (by kernel_rfl))⟩
 t0 := Tryz.underlying0
 a0 := Tryz.isAgg0
 z0 := Tryz.sizeOf0
 v0 := Tryz.zeroValue0
 t4 := Tryz.underlying4
 a4 := Tryz.isAgg4
 z4 := Tryz.sizeOf4
 v4 := Tryz.zeroValue4
 t23 := Tryz.underlying86
 a23 := Tryz.isAgg86
 z23 := Tryz.sizeOf86
 v23 := Tryz.zeroValue86
 t26 := Tryz.underlying3
 a26 := Tryz.isAgg3
 z26 := Tryz.sizeOf3
 v26 := Tryz.zeroValue3
 t27 := Tryz.underlying176
 a27 := Tryz.isAgg176
 z27 := Tryz.sizeOf176
 v27 := Tryz.zeroValue176
 t28 := Tryz.underlying177
 a28 := Tryz.isAgg177
 z28 := Tryz.sizeOf177
 v28 := Tryz.zeroValue177
 t33 := Tryz.underlying114
 a33 := Tryz.isAgg114
 z33 := Tryz.sizeOf114
 v33 := Tryz.zeroValue114 }
def Tryz.sortedA_ren : Go.Shelf.Ren := ⟨fun | 6 => 111 | 8 => 180 | 9 => 181 | 11 => 232 | 13 => 234 | 12 => 233 | 23 => 268 | 24 => 269 | 14 => 259 | 15 => 260 | 16 => 261 | 17 => 262 | 18 => 263 | 19 => 264 | 20 => 265 | 21 => 266 | 22 => 267 | 25 => 290 | 26 => 291 | 27 => 292 | 28 => 293 | 29 => 294 | 30 => 295 | 31 => 306 | n => n,fun | 26 => 3 | 28 => 177 | 24 => 23 | 0 => 0 | 3 => 3 | 37 => 96 | 48 => 223 | 50 => 149 | 4 => 4 | 40 => 335 | 39 => 334 | 45 => 155 | 5 => 5 | 9 => 9 | 51 => 357 | 55 => 361 | 57 => 370 | 58 => 371 | 33 => 114 | n => n,fun | n => n⟩
theorem Tryz.sortedA : Go.Proofs.SlLaysZI.n6 Tryz.prog Tryz.sortedA_ren := {
 mixed := by kernel_rfl
 f6 := ⟨Tryz.f111.name,by decide,Tryz.func111.trans (congrArg some (by kernel_rfl))⟩
 f8 := ⟨Tryz.f180.name,by decide,Tryz.func180.trans (congrArg some (by kernel_rfl))⟩
 f11 := ⟨Tryz.f232.name,by decide,Tryz.func232.trans (congrArg some (by kernel_rfl))⟩
 t0 := Tryz.underlying0
 a0 := Tryz.isAgg0
 z0 := Tryz.sizeOf0
 v0 := Tryz.zeroValue0
 t24 := Tryz.underlying23
 a24 := Tryz.isAgg23
 z24 := Tryz.sizeOf23
 v24 := Tryz.zeroValue23
 t26 := Tryz.underlying3
 a26 := Tryz.isAgg3
 z26 := Tryz.sizeOf3
 v26 := Tryz.zeroValue3
 t28 := Tryz.underlying177
 a28 := Tryz.isAgg177
 z28 := Tryz.sizeOf177
 v28 := Tryz.zeroValue177
 i26 := by kernel_rfl }
def Tryz.sortA_ren : Go.Shelf.Ren := ⟨fun | 5 => 181 | 8 => 234 | 7 => 233 | 19 => 268 | 20 => 269 | 10 => 259 | 11 => 260 | 12 => 261 | 13 => 262 | 14 => 263 | 15 => 264 | 16 => 265 | 17 => 266 | 18 => 267 | 30 => 290 | 31 => 291 | 32 => 292 | 33 => 293 | 34 => 294 | 35 => 295 | 40 => 306 | n => n,fun | 23 => 23 | 25 => 3 | 3 => 3 | 32 => 96 | 22 => 23 | 0 => 0 | 44 => 223 | 46 => 149 | 4 => 4 | 36 => 335 | 35 => 334 | 41 => 155 | 5 => 5 | 9 => 9 | 53 => 357 | 57 => 361 | 63 => 370 | 64 => 371 | n => n,fun | n => n⟩
theorem Tryz.sortA : Go.Proofs.SlLaysM.n5 Tryz.prog Tryz.sortA_ren := {
 mixed := by kernel_rfl
 f5 := ⟨Tryz.f181.name,by decide,Tryz.func181.trans (congrArg some (by kernel_rfl))⟩
 f7 := ⟨Tryz.f233.name,by decide,Tryz.func233.trans (congrArg some (by kernel_rfl))⟩
 f8 := Tryz.func234.trans (congrArg some (by kernel_rfl))
 f10 := ⟨Tryz.f259.name,by decide,Tryz.func259.trans (congrArg some (by kernel_rfl))⟩
 f11 := ⟨Tryz.f260.name,by decide,Tryz.func260.trans (congrArg some (by kernel_rfl))⟩
 f12 := ⟨Tryz.f261.name,by decide,Tryz.func261.trans (congrArg some (by kernel_rfl))⟩
 f13 := ⟨Tryz.f262.name,by decide,Tryz.func262.trans (congrArg some (by kernel_rfl))⟩
 f14 := ⟨Tryz.f263.name,by decide,Tryz.func263.trans (congrArg some (by kernel_rfl))⟩
 f15 := ⟨Tryz.f264.name,by decide,Tryz.func264.trans (congrArg some (by kernel_rfl))⟩
 f16 := ⟨Tryz.f265.name,by decide,Tryz.func265.trans (congrArg some (by kernel_rfl))⟩
 f17 := ⟨Tryz.f266.name,by decide,Tryz.func266.trans (congrArg some (by kernel_rfl))⟩
 f18 := ⟨Tryz.f267.name,by decide,Tryz.func267.trans (congrArg some (by kernel_rfl))⟩
 f19 := Tryz.func268.trans (congrArg some (by kernel_rfl))
 f20 := Tryz.func269.trans (congrArg some (by kernel_rfl))
 f30 := ⟨Tryz.f290.name,by decide,Tryz.func290.trans (congrArg some (by kernel_rfl))⟩
 f31 := Tryz.func291.trans (congrArg some (by kernel_rfl))
 f32 := Tryz.func292.trans (congrArg some (by kernel_rfl))
 f33 := ⟨Tryz.f293.name,by decide,Tryz.func293.trans (congrArg some (by kernel_rfl))⟩
 f34 := ⟨Tryz.f294.name,by decide,Tryz.func294.trans (congrArg some (by kernel_rfl))⟩
 f35 := ⟨Tryz.f295.name,by decide,Tryz.func295.trans (congrArg some (by kernel_rfl))⟩
 f40 := ⟨Tryz.f306.name,by decide,Tryz.func306.trans (congrArg some (by kernel_rfl))⟩
 t0 := Tryz.underlying0
 a0 := Tryz.isAgg0
 z0 := Tryz.sizeOf0
 v0 := Tryz.zeroValue0
 t3 := Tryz.underlying3
 a3 := Tryz.isAgg3
 z3 := Tryz.sizeOf3
 v3 := Tryz.zeroValue3
 t4 := Tryz.underlying4
 a4 := Tryz.isAgg4
 z4 := Tryz.sizeOf4
 v4 := Tryz.zeroValue4
 t5 := Tryz.underlying5
 a5 := Tryz.isAgg5
 z5 := Tryz.sizeOf5
 v5 := Tryz.zeroValue5
 t9 := Tryz.underlying9
 a9 := Tryz.isAgg9
 z9 := Tryz.sizeOf9
 v9 := Tryz.zeroValue9
 t22 := Tryz.underlying23
 a22 := Tryz.isAgg23
 z22 := Tryz.sizeOf23
 v22 := Tryz.zeroValue23
 t23 := Tryz.underlying23
 a23 := Tryz.isAgg23
 z23 := Tryz.sizeOf23
 v23 := Tryz.zeroValue23
 t25 := Tryz.underlying3
 a25 := Tryz.isAgg3
 z25 := Tryz.sizeOf3
 v25 := Tryz.zeroValue3
 t32 := Tryz.underlying96
 a32 := Tryz.isAgg96
 z32 := Tryz.sizeOf96
 v32 := Tryz.zeroValue96
 t35 := Tryz.underlying334
 a35 := Tryz.isAgg334
 z35 := Tryz.sizeOf334
 v35 := Tryz.zeroValue334
 t36 := Tryz.underlying335
 a36 := Tryz.isAgg335
 z36 := Tryz.sizeOf335
 v36 := Tryz.zeroValue335
 t41 := Tryz.underlying155
 a41 := Tryz.isAgg155
 z41 := Tryz.sizeOf155
 v41 := Tryz.zeroValue155
 t44 := Tryz.underlying223
 a44 := Tryz.isAgg223
 z44 := Tryz.sizeOf223
 v44 := Tryz.zeroValue223
 t46 := Tryz.underlying149
 a46 := Tryz.isAgg149
 z46 := Tryz.sizeOf149
 v46 := Tryz.zeroValue149
 t53 := Tryz.underlying357
 a53 := Tryz.isAgg357
 z53 := Tryz.sizeOf357
 v53 := Tryz.zeroValue357
 t57 := Tryz.underlying361
 a57 := Tryz.isAgg361
 z57 := Tryz.sizeOf361
 v57 := Tryz.zeroValue361
 t63 := Tryz.underlying370
 a63 := Tryz.isAgg370
 z63 := Tryz.sizeOf370
 v63 := Tryz.zeroValue370
 t64 := Tryz.underlying371
 a64 := Tryz.isAgg371
 z64 := Tryz.sizeOf371
 v64 := Tryz.zeroValue371 }
end Go.Proofs
namespace Go.Proofs.YtefnmnpfecfdaaaGreat
namespace Disk
open Go.RowKit Go.Maps Go.Sort Go.Shelf
open Base DiskMath
theorem ids_sorted : ∀ {lo : Int} {l : List Fl},Up lo l -> (l.map (·.id)).Pairwise (fun a b => a <= b)
 | _,[],_ => List.Pairwise.nil
 | lo,x :: r,⟨_,_,_,h4⟩ => by
   rw [List.map_cons,List.pairwise_cons]
   refine ⟨fun k hk => ?_,ids_sorted h4⟩
   obtain ⟨y,hy,rfl⟩ := List.mem_map.1 hk
   have := (h4.mem y hy).1
   omega
theorem sorted_ids {l : List Fl} (h : Up 0 l) {ss : List Int} (hs : ss.Perm (l.map (·.id))) : ss.mergeSort (fun x y => decide (x <= y)) = l.map (·.id) := by
 have e : ss.mergeSort (fun x y => decide (x <= y)) = (l.map (·.id)).mergeSort (fun x y => decide (x <= y)) := mergeSort_of_perm_i hs
 rw [e]
 refine List.mergeSort_of_pairwise ?_
 exact (ids_sorted h).imp fun h => by simpa using h
theorem sortsA (m : Nat) : AnyZI.SortsIn Tryz.prog Tryz.sortedA_ren Fence.wide m :=
 ⟨fun blk off cap ss W hH hblk hsz => callsIn_wide.2 (AnyM.slices_Sort_int Tryz.sortA blk off cap ss W hH hblk hsz),
  fun p cap W => callsIn_wide.2 (AnyM.slices_Sort_int_none Tryz.sortA p cap W)⟩
def Told (w : World) (ks : List Int) (e : Ending) (w' : World) : Prop :=
 ∃ A c,e = .returned (.slice A ks.length c) /\ w'.ownsRow w.heap.size 3 1 (.slice A ks.length c) ks.length (ks.map encZ) /\ Below w.heap.size w w'
theorem files_any (F : Nat -> Prop) (g : Nat) (d : Dk) (w : World) (h : DiskAt F w g d) :
 Calls Tryz.prog 46 #[.pointer (some ⟨g,0,none⟩)] w (Told w (d.files.map (·.id))) := by
 have hup := h.up
 obtain ⟨b,pl,hh,_,hb⟩ := h
 have hown := hb.2.1
 have c3 := hh.cells.2.2.2
 have hsz : Maps.size (DataW.map (ents d.files pl)) <= 16384 := by
  have := hup.le
  rw [Maps.size,ents,List.length_map]
  exact this
 have hkeys := ents_keys d.files pl
 clear hb hh
 refine (callsIn_wide (n := 6)).1 ?_
 have hbl := hown.lt
 have hseq : SeqGives Fence.wide 2 Tryz.prog 182 #[.pointer (some ⟨w.heap.size,0,none⟩)] encZ (fun ss => ss.Perm (intKeys (DataW.map (ents d.files pl)))) (Maps.size (DataW.map (ents d.files pl))) (w.alloc (.cells #[.map (some b)] 86)) :=
  AnyZI.keys_gives (ρ := Tryz.keysA_ren) { Tryz.keysA with } Fence.wide _ trivial rfl (by omega) w.heap.size b _ _ _ (by simp) (by simp) (by
   obtain ⟨es,clock,hb,Ft,hs,hD⟩ := hown
   exact ⟨es,clock,(Below.heap_alloc _ _ b hbl).trans hb,Ft,hs,hD⟩)
 have cK : ∀ mb W,CallsIn Fence.wide 5 Tryz.prog 112 #[.map mb] W fun e w' => e = .returned (.func (.func 182) #[] #[.pointer (some ⟨W.heap.size,0,none⟩)]) /\ w' = W.alloc (.cells #[.map mb] 86) := fun mb W => AnyZI.keys_in Tryz.keysA Fence.wide 5 trivial rfl mb W
 have cS := AnyZI.sorted_in Tryz.sortedA Fence.wide 5 trivial trivial trivial trivial rfl (by omega) (sortsA _) (enters_of Tryz.func181 (by kernel_rfl) rfl) 182 #[.pointer (some ⟨w.heap.size,0,none⟩)] trivial (enters_of Tryz.func182 (by kernel_rfl) rfl) _ _ (by unfold maxLen; omega) (by omega) _ hseq
 change CallsIn _ _ Tryz.prog 111 _ _ _ at cS
 have hfK : Fence.wide.fn 112 := trivial
 have hfS : Fence.wide.fn 111 := trivial
 have HU := hid hup
 have HK := hid hkeys
 clear hsz hup hkeys hown hseq
 refine callsIn_of_wp Tryz.func46 rfl trivial ?_ rfl
 simp only [Tryz.ntmps46,List.size_toArray,List.length_cons,List.length_nil,Nat.reduceAdd,Nat.reduceSub,Array.replicate_succ,Array.replicate_zero,List.push_toArray,List.append_toArray,List.nil_append,List.cons_append]
 gi_wp2_with (first
  | (gi_at_call 112; refine (cK _ _).mono ?_; rintro e w' ⟨rfl,rfl⟩)
  | (gi_at_call 111; refine cS.mono ?_; rintro e w' ⟨v,ss,rfl,hS,hrow,hnil,hb⟩))
 go_ret
 rw [HK.out] at hS
 rw [sorted_ids HU.out hS,hS.length_eq] at hrow
 have hrow2 := ownsRow_base_a (base' := w.heap.size) hrow (by simp)
 obtain ⟨A,c,rfl⟩ := own_slice hrow2
 exact ⟨A,c,rfl,hrow2,((Below.refl _ w).alloc (Nat.le_refl _) _).trans (hb.mono (by simp))⟩
end Disk
end Go.Proofs.YtefnmnpfecfdaaaGreat
