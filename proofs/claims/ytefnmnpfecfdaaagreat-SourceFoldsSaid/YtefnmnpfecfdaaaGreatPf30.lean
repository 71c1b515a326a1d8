/-
  Texts of one proof: TblNew, TblChg, TblApply, SrcMem.
-/
import Derived.Test.YtefnmnpfecfdaaaGreatPf28
import Derived.Test.YtefnmnpfecfdaaaGreatPf29
set_option linter.all false
set_option maxRecDepth 100000
set_option maxHeartbeats 3200000
open Go.Lib (hid)
namespace Go.Proofs.YtefnmnpfecfdaaaGreat
namespace Tbl
open Go.RowKit Base IdxMath Foot Idx
def nilp : Value := .pointer none
def half (ps : List Nat) (m : Nat) : Array Value := (ps.map ptr ++ List.replicate m nilp).toArray
theorem half_at (ps : List Nat) (m : Nat) (hm : 0 < m) : (half ps m)[ps.length]? = some nilp := by
 simp [half,hm]
theorem half_set (ps : List Nat) (m q : Nat) : (half ps (m + 1)).setIfInBounds ps.length (ptr q) = half (ps ++ [q]) m := by
 simp [half,List.replicate_succ,List.set_append]
structure Half (w wr : World) (g p n k : Nat) (ps : List Nat) (G : Nat -> Nat -> Prop) : Prop where
 box : Blk wr p 125 #[.slice (some ⟨g,0,none⟩) n n]
 row : Blk wr g 122 (half ps (n - k))
 len : ps.length = k
 le : k <= n
 ne : p ≠ g
 hg : w.heap.size <= g
 hp : w.heap.size <= p
 each : ∀ i q,ps[i]? = some q -> IdxAt wr (G i) q []
 ing : ∀ i x,i < k -> x < wr.heap.size -> G i x -> w.heap.size <= x /\ x ≠ p /\ x ≠ g
 apart : ∀ i j x,i < k -> j < k -> i ≠ j -> x < wr.heap.size -> G i x -> ¬ G j x
 new : Below w.heap.size w wr
def Part (w wr : World) (g p n k : Nat) : Prop := ∃ ps G,Half w wr g p n k ps G
theorem Part.lay {w wr w2 : World} {g p n k q : Nat} (h : Part w wr g p n k) (hk : k < n) (hq : IdxAt w2 (fun x => wr.heap.size <= x /\ x < w2.heap.size) q []) (hb : Below wr.heap.size wr w2) : Part w (w2.setCell ⟨g,k,none⟩ (ptr q)) g p n (k + 1) := by
 obtain ⟨ps,G,h⟩ := h
 have hfar : ∀ x,x ≠ g -> (w2.setCell ⟨g,k,none⟩ (ptr q)).heap[x]? = w2.heap[x]? := fun x hx => Below.heap_setCell w2 _ _ x hx
 have hplt := h.box.lt
 have hglt := h.row.lt
 have hsz := size_setCell w2 ⟨g,k,none⟩ (ptr q)
 have hle := hb.size
 have hlen := h.len
 refine ⟨ps ++ [q],fun j x => if j = k then wr.heap.size <= x /\ x < w2.heap.size else G j x /\ x < wr.heap.size,?_⟩
 refine ⟨(hfar p h.ne).trans (h.box.below hb hplt),?_,by rw [List.length_append,h.len]; rfl,hk,h.ne,h.hg,h.hp,?_,?_,?_,?_⟩
 ·have h1 := (h.row.below hb hglt).set_ k (ptr q)
  rw [show n - k = n - (k + 1) + 1 by omega,<- hlen,half_set] at h1
  rw [<- hlen]
  exact h1
 ·intro j q' h1
  by_cases hj : j = k
  ·subst hj
   rw [<- hlen,List.getElem?_append_right (Nat.le_refl _),Nat.sub_self] at h1
   obtain rfl := Option.some.inj h1
   refine (hq.mono fun x hx hG => ?_).keep fun x hx hG => hfar x ?_
   ·rw [if_pos rfl]; exact hG
   ·rw [if_pos rfl] at hG; omega
  ·have hjk : j < k := by
    have := (List.getElem?_eq_some_iff.1 h1).1
    rw [List.length_append,hlen] at this
    simp only [List.length_cons,List.length_nil] at this
    omega
   rw [List.getElem?_append_left (by omega)] at h1
   have h4 : IdxAt w2 (fun x => G j x /\ x < wr.heap.size) q' [] := ((h.each j q' h1).mono (F' := fun x => G j x /\ x < wr.heap.size) fun x hx hG => ⟨hG,hx⟩).new hb
   refine (h4.mono fun x hx hG => ?_).keep fun x hx hG => hfar x ?_
   ·rw [if_neg hj]; exact hG
   ·rw [if_neg hj] at hG
    exact (h.ing j x hjk hG.2 hG.1).2.2
 ·intro j x hj hx hG
  by_cases hjk : j = k
  ·rw [if_pos hjk] at hG
   have := h.hg
   exact ⟨by omega,by omega,by omega⟩
  ·rw [if_neg hjk] at hG
   exact h.ing j x (by omega) hG.2 hG.1
 ·intro i j x hi hj hij hx h1 h2
  by_cases hik : i = k
  ·rw [if_pos hik] at h1
   rw [if_neg (fun e => hij (hik.trans e.symm))] at h2
   omega
  ·rw [if_neg hik] at h1
   by_cases hjk : j = k
   ·rw [if_pos hjk] at h2
    omega
   ·rw [if_neg hjk] at h2
    exact h.apart i j x (by omega) (by omega) hij h1.2 h1.1 h2.1
 ·exact (Turn.below (F := fun x => w.heap.size <= x) ((Turn.new (F := fun x => w.heap.size <= x) (held_two h.new hb)).setCell (.inl h.hg) _) (fun i hi => hi) (Nat.le_refl _))
theorem Part.done {w wr : World} {g p n : Nat} (h : Part w wr g p n n) (h1 : 1 <= n) (h8 : n <= 8) : SetAt wr (fun i => w.heap.size <= i /\ i < wr.heap.size) p (List.replicate n []) := by
 obtain ⟨ps,G,h⟩ := h
 have hl : (List.replicate n ([] : List Rw)).length = n := List.length_replicate
 refine ⟨g,ps,G,?_⟩
 refine ⟨by rw [hl]; exact h.box,?_,by rw [hl,h.len],by rw [hl]; exact h8,by rw [hl]; exact h1,⟨h.hp,h.box.lt⟩,⟨h.hg,h.row.lt⟩,h.ne,?_,?_,?_⟩
 ·have := h.row
  rw [Nat.sub_self] at this
  unfold half at this
  simpa using this
 ·intro i q l e1 e2
  obtain rfl : l = [] := List.eq_of_mem_replicate (List.mem_of_getElem? e2)
  exact h.each i q e1
 ·intro i x hi hx hG
  rw [hl] at hi
  have := h.ing i x hi hx hG
  exact ⟨⟨this.1,hx⟩,this.2⟩
 ·intro i j x hi hj
  rw [hl] at hi hj
  exact h.apart i j x hi hj
theorem Part.start {w w1 : World} {n : Nat} (ho : w1.ownsRow w.heap.size 122 1 (.slice (some ⟨w.heap.size,0,none⟩) n n) n (List.replicate n nilp)) (hb : Below w.heap.size w w1) (hn : 1 <= n) :
 Part w (w1.alloc (.cells #[.slice (some ⟨w.heap.size,0,none⟩) n n] 125)) w.heap.size w1.heap.size n 0 := by
 rcases ho.2 with ⟨hv,h0⟩ | ⟨b,cap,cur,hv,hbase,hg,h1,h2,h3,h4⟩
 ·omega
 ·simp only [Value.slice.injEq,Option.some.injEq,Addr.mk.injEq] at hv
  obtain ⟨⟨rfl,_⟩,_,rfl⟩ := hv
  have hc : cur = half [] n := by
   apply Array.toList_inj.1
   rw [List.take_of_length_le (by rw [Array.length_toList,h3]; exact Nat.le_refl _)] at h4
   rw [h4]
   simp [half]
  subst hc
  have hlt : w.heap.size < w1.heap.size := Blk.lt (w := w1) hg
  refine ⟨[],fun _ _ => False,Blk.new _ _ _,Blk.alloc hg _,rfl,Nat.zero_le _,by omega,Nat.le_refl _,by omega,?_,?_,?_,hb.alloc hb.size _⟩
  ·intro i q h; simp at h
  ·intro i x hi; omega
  ·intro i j x hi; omega
def Made (w : World) (n : Int) (e : Ending) (w' : World) : Prop :=
 if 1 <= n /\ n <= 8 then ∃ p,e = .returned (.tuple #[.pointer (some ⟨p,0,none⟩),.int .i64 0]) /\ SetAt w' (fun i => w.heap.size <= i /\ i < w'.heap.size) p (List.replicate n.toNat []) /\ Below w.heap.size w w'
 else e = .returned (.tuple #[.pointer none,.int .i64 1]) /\ w' = w
theorem et : Elem Tryz.prog 123 122 1 8 (.agg #[nilp]) := .of (by rfl) (by rfl) rfl (by omega)
theorem new_any (n : Int) (w : World) : Calls Tryz.prog 36 #[.int .i64 n] w (Made w n) := by
 rcases Int.lt_or_le n 1 with h1 | h1
 ·go_enter Tryz.func36,Tryz.ntmps36
  go_wp2
  go_ret2
  unfold Made
  rw [if_neg (by omega)]
  exact ⟨rfl,rfl⟩
 rcases Int.lt_or_le 8 n with h8 | h8
 ·go_enter Tryz.func36,Tryz.ntmps36
  go_wp2
  go_ret2
  unfold Made
  rw [if_neg (by omega)]
  exact ⟨rfl,rfl⟩
 obtain ⟨m,rfl⟩ := Int.eq_ofNat_of_zero_le (show 0 <= n by omega)
 have HM1 : 1 <= m := by omega
 have HM8 : m <= 8 := by omega
 go_enter Tryz.func36,Tryz.ntmps36
 go_wp2_with (first
  | (refine wpList_make_elem _ rfl (.tmp 12) (.tmp 12) rfl et w.heap.size .i64 .i64 _ _ m rfl rfl rfl rfl (by omega) (by omega) (Nat.le_refl _) ?_
     intro w1 ho1 hb1
     replace ho1 : w1.ownsRow w.heap.size 122 1 (.slice (some ⟨w.heap.size,0,none⟩) m m) m (madeCells #[nilp] (m * 1)).toList := ho1
     rw [Nat.mul_one,toList_madeCells_one] at ho1
     have HP := hid (Part.start ho1 hb1 HM1)
     clear ho1 hb1))
 generalize w1.alloc (.cells #[.slice (some ⟨w.heap.size,0,none⟩) m m] 125) = w2 at HP ⊢
 generalize w1.heap.size = p at HP ⊢
 generalize w.heap.size = g at HP ⊢
 clear w1
 go_loopw [21,5] (fun vi vj wr => ∃ k : Nat,vi = .int .i64 k /\ k <= m /\ Part w wr g p m k) (fun vi _ _ => m - (RowKit.intOf vi).toNat)
 case atStart => exact ⟨0,rfl,Nat.zero_le _,HP.out⟩
 case round =>
  obtain ⟨k,rfl,hk,hpart⟩ := hrel
  have HK := hid hpart
  clear HP
  obtain ⟨ps,G,hH⟩ := hpart
  have c0 : wr.cell? ⟨p,0,none⟩ = some (.slice (some ⟨g,0,none⟩) m m) := hH.box.cell 0
  by_cases hkm : k < m
  ·have l1 : (k : Int) < (m : Int) := by omega
   have c1 : wr.cell? ⟨g,k,none⟩ = some nilp := by rw [hH.row.cell k,<- hH.len]; exact half_at _ _ (by have := hH.len; omega)
   have z1 : wr.frozen? ⟨g,k,none⟩ = false := hH.row.frozen k
   have HR := hid hH.row
   have hglt : g < wr.heap.size := hH.row.lt
   clear hH
   go_wp2_with fail
   go_region_with (first
    | (go_at_call 93; refine (Idx.new_any wr.heap.size none 0 0 [] wr.drew (Rs.nil_ _ _) (Nat.le_refl _) (by omega)).mono ?_; rintro e w3 ⟨q,rfl,hq,hb2⟩; have hb2' : Below wr.heap.size wr w3 := held_two (held_start wr) hb2; have d0 := held_cell hb2' c0; have d1 := held_cell hb2' c1; have dz := (HR.out.below hb2' hglt).frozen k; have HQ := hid (And.intro hq hb2'); clear hb2 hb2' hq)
    | fail)
   all_goals (go_wp2; refine ⟨⟨k + 1,by rw [Int.natCast_add]; rfl,hkm,HK.out.lay hkm HQ.out.1 HQ.out.2⟩,?_⟩; simp only [RowKit.intOf,Int.toNat_natCast]; omega)
  ·have l1 : decide ((k : Int) < (m : Int)) = false := decide_eq_false (by omega)
   obtain rfl : k = m := by omega
   clear hH
   go_wp2
   go_ret2
   unfold Made
   rw [if_pos (by omega)]
   obtain ⟨ps',G',hH'⟩ := HK.out
   exact ⟨p,rfl,by rw [Int.toNat_natCast]; exact HK.out.done HM1 HM8,hH'.new⟩
end Tbl
namespace Tbl
open Go.RowKit Base IdxMath Foot Idx
open PChg (gcells gval gv gv_cons gv_length gv_get Cs)
def Did (w : World) (F : Nat -> Prop) (p : Nat) (l : List Rw) (e : Ending) (w' : World) : Prop :=
 e = .returned (.tuple #[]) /\ IdxAt w' (Out F w w') p l /\ Turn F w w'
theorem out_from {F : Nat -> Prop} {w wa w1 : World} {i : Nat} (h : w.heap.size <= wa.heap.size) (hi : Out F wa w1 i) : Out F w w1 i := hi.imp id fun k => ⟨Nat.le_trans h k.1,k.2⟩
theorem apply_any (F : Nat -> Prop) (p : Nat) (l : List Rw) (c : Cg) (w : World) (h : IdxAt w F p l) (hsz : l.length <= 1099511627774) :
 Calls Tryz.prog 175 #[.agg #[.pointer (some ⟨p,0,none⟩)],gval c] w (Did w F p (one l c)) := by
 obtain ⟨t,k,gone,v⟩ := c
 have hb : Below w.heap.size w ((w.alloc (.cells #[.pointer (some ⟨p,0,none⟩)] 122)).alloc (.cells #[.int .i64 t,.int .i64 k,.bool gone,.string v] 64)) :=
  ((Below.refl _ _).alloc (Nat.le_refl _) _).alloc (by simp) _
 have HI := hid (h.new hb)
 have HT : Hid (Turn F w _) := Turn.new hb
 clear h hb
 unfold gval
 dsimp only
 cases gone with
 | true =>
   go_enter Tryz.func175,Tryz.ntmps175
   go_wp2_with fail
   refine (del_any F p l k _ HI.out hsz).mono ?_
   rintro e w1 ⟨rfl,h1,h2⟩
   have H1 := hid (And.intro h1 h2)
   clear h1 h2
   go_wp2
   go_end0
   exact ⟨rfl,H1.out.1.mono fun i hi hO => out_from HT.out.size hO,HT.out.trans H1.out.2 fun _ h => .inl h⟩
 | false =>
   go_enter Tryz.func175,Tryz.ntmps175
   go_wp2_with fail
   refine (put_any F p l k v _ HI.out hsz).mono ?_
   rintro e w1 ⟨rfl,h1,h2⟩
   have H1 := hid (And.intro h1 h2)
   clear h1 h2
   go_wp2
   go_end0
   exact ⟨rfl,H1.out.1.mono fun i hi hO => out_from HT.out.size hO,HT.out.trans H1.out.2 fun _ h => .inl h⟩
theorem hasAll_any (F : Nat -> Prop) (p : Nat) (T : List (List Rw)) (A : Option Addr) (n c : Nat) (l : List Cg) (w : World) (h : SetAt w F p T) (hl : Cs w w.heap.size A n c l) :
 Calls Tryz.prog 166 #[.pointer (some ⟨p,0,none⟩),.slice A n c] w fun e w' => e = .returned (.bool (allT T l)) /\ Below w.heap.size w w' := by
 have HS := hid h
 have HC := hid hl
 have hle := hl.le
 have HL := hid hl.len
 clear h hl
 go_enter Tryz.func166,Tryz.ntmps166
 go_wp2
 go_loopw [9] (fun vi wr => ∃ k : Nat,vi = .int .i64 k /\ k <= n /\ allT T (l.take k) = true /\ Below w.heap.size w wr) (fun vi _ => n - (RowKit.intOf vi).toNat)
 case atStart => exact ⟨0,rfl,Nat.zero_le _,rfl,Below.refl _ _⟩
 case round =>
  obtain ⟨k,rfl,hk,hall,hb⟩ := hrel
  have HB := hid hb
  have HA := hid hall
  clear hb hall
  by_cases hkn : k < n
  ·obtain ⟨b,off,f,rfl,hbB,c0,c1,c2,c3,hf,ht⟩ := (HC.out.below HB.out).at_ hkn
   have l1 : (k : Int) < (n : Int) := by omega
   have HT := hid ht
   have HF := hid hf
   obtain ⟨ft,fk,fg,fv⟩ := f
   dsimp only at c0 c1 c2 c3
   clear hf ht
   have HW1 : Hid (Below w.heap.size w (wr.alloc (.cells #[.int .i64 ft,.int .i64 fk,.bool fg,.string fv] 64))) := HB.out.alloc HB.out.size _
   go_wp2_with fail
   refine (has_any F p T ft _ (HS.out.new HW1.out)).mono ?_
   rintro e w1 ⟨rfl,rfl⟩
   cases hT : isT T ft with
   | true =>
     have HX : Hid (allT T (l.take (k + 1)) = true) := by show _ = _; rw [HT.out,allT_snoc,HA.out]; exact hT
     clear hT
     go_wp2
     refine ⟨⟨k + 1,by rw [Int.natCast_add]; rfl,hkn,HX.out,HW1.out⟩,?_⟩; simp only [RowKit.intOf,Int.toNat_natCast]; omega
   | false =>
     have HX := hid (allT_not HF.out hT)
     clear hT
     go_wp2
     go_ret
     exact ⟨by rw [HX.out]; rfl,HW1.out⟩
  ·have l1 : decide ((k : Int) < (n : Int)) = false := decide_eq_false (by omega)
   obtain rfl : k = n := by omega
   rw [show l.take k = l by rw [<- HL.out,List.take_length]] at HA
   go_wp2
   go_ret
   exact ⟨by rw [HA.out]; rfl,HB.out⟩
end Tbl
namespace Tbl
open Go.RowKit Base IdxMath Foot Idx
open PChg (gcells gval gv gv_cons gv_length gv_get Cs)
theorem Lie.step {w w' : World} {F : Nat -> Prop} {p b : Nat} {ps : List Nat} {G : Nat -> Nat -> Prop} {T : List (List Rw)} (h : Lie w F p b ps G T) {i : Nat} (hi : i < T.length) {q : Nat} {l' : List Rw}
 (hqi : ps[i]? = some q) (hq : IdxAt w' (Out (G i) w w') q l') (ht : Turn (G i) w w') : SetAt w' (Out F w w') p (T.set i l') /\ Turn F w w' := by
 have hplt := h.box.lt
 have hblt := h.row.lt
 have hsz := ht.size
 have hip : i < ps.length := by rw [h.len]; exact hi
 have hTF : Turn F w w' := ⟨ht.os,ht.tape,ht.output,ht.size,fun x hx hn => ht.block x hx fun hg => hn (h.ing i x hi hx hg).1⟩
 refine ⟨⟨b,ps,fun j x => if j = i then Out (G i) w w' x else G j x /\ x < w.heap.size,?_⟩,hTF⟩
 refine ⟨?_,?_,by rw [List.length_set,h.len],by rw [List.length_set]; exact h.most,by rw [List.length_set]; exact h.some_,.inl h.inp,.inl h.inb,h.ne,?_,?_,?_⟩
 ·rw [List.length_set]
  exact (ht.block p hplt fun hg => (h.ing i p hi hplt hg).2.1 rfl).trans h.box
 ·exact (ht.block b hblt fun hg => (h.ing i b hi hblt hg).2.2 rfl).trans h.row
 ·intro j q' l h1 h2
  by_cases hj : j = i
  ·subst hj
   rw [List.getElem?_set_self hi] at h2
   obtain rfl := Option.some.inj h2
   rw [hqi] at h1
   obtain rfl := Option.some.inj h1
   exact hq.mono fun x hx hG => by rw [if_pos rfl]; exact hG
  ·rw [List.getElem?_set_ne (fun e => hj e.symm)] at h2
   have hjl : j < T.length := (List.getElem?_eq_some_iff.1 h2).1
   refine ((h.each j q' l h1 h2).mono (F' := fun x => if j = i then Out (G i) w w' x else G j x /\ x < w.heap.size) fun x hx hG => ?_).keep fun x hx hG => ?_
   ·rw [if_neg hj]; exact ⟨hG,hx⟩
   ·rw [if_neg hj] at hG
    exact ht.block x hx fun hg => h.apart j i x hjl hi hj hx hG.1 hg
 ·intro j x hj hx hG
  rw [List.length_set] at hj
  by_cases hji : j = i
  ·rw [if_pos hji] at hG
   rcases Nat.lt_or_ge x w.heap.size with hxl | hxl
   ·rcases hG with hG | hG
    ·have := h.ing i x hi hxl hG
     exact ⟨.inl this.1,this.2⟩
    ·omega
   ·exact ⟨.inr ⟨hxl,hx⟩,by omega,by omega⟩
  ·rw [if_neg hji] at hG
   have := h.ing j x hj hG.2 hG.1
   exact ⟨.inl this.1,this.2⟩
 ·intro j k x hj hk hjk hx h1 h2
  rw [List.length_set] at hj hk
  by_cases hji : j = i
  ·rw [if_pos hji] at h1
   rw [if_neg (fun e => hjk (hji.trans e.symm))] at h2
   rcases h1 with h1 | h1
   ·exact h.apart i k x hi hk (fun e => hjk (hji.trans e)) h2.2 h1 h2.1
   ·omega
  ·rw [if_neg hji] at h1
   by_cases hki : k = i
   ·rw [if_pos hki] at h2
    rcases h2 with h2 | h2
    ·exact h.apart i j x hi hj (fun e => hji e.symm) h1.2 h2 h1.1
    ·omega
   ·rw [if_neg hki] at h2
    exact h.apart j k x hj hk hjk h1.2 h1.1 h2.1
theorem step_set {F : Nat -> Prop} {w wr wa w2 : World} {p : Nat} {T : List (List Rw)} (h1 : Turn F w wr) (h2 : Below wr.heap.size wr wa) (h3 : SetAt w2 (Out (Out F w wr) wa w2) p T) (h4 : wa.heap.size <= w2.heap.size) : SetAt w2 (Out F w w2) p T := by
 have e1 := h1.size
 have e2 := h2.size
 refine h3.mono fun i hi h => ?_
 rcases h with (h | h) | h
 ·exact .inl h
 ·exact .inr ⟨h.1,hi⟩
 ·exact .inr ⟨by omega,hi⟩
theorem apply_set (F : Nat -> Prop) (p : Nat) (T : List (List Rw)) (M : Nat) (A : Option Addr) (n c : Nat) (l : List Cg) (w : World) (h : SetAt w F p T) (hl : ∀ wr,Turn F w wr -> Cs wr wr.heap.size A n c l) (hM : Most T M) (hsz : M + n <= 1099511627774) :
 Calls Tryz.prog 105 #[.pointer (some ⟨p,0,none⟩),.slice A n c] w (SetTurned w F p (allT T l) (appl T l)) := by
 have HH := hid (hasAll_any F p T A n c l w h (hl w (.refl _ _)))
 have HS := hid h
 have HC := hid hl
 have HLEN := hid (hl w (.refl _ _)).len
 have hle := (hl w (.refl _ _)).le
 have HM := hid hM
 clear h hl hM
 cases ht : allT T l with
 | false =>
   have HT := hid ht
   clear ht
   go_enter Tryz.func105,Tryz.ntmps105
   go_wp2_with fail
   refine HH.out.mono ?_
   rintro e w1 ⟨rfl,hb⟩
   rw [HT.out]
   have HB1 := hid hb
   clear hb
   go_wp2
   go_ret
   refine ⟨rfl,?_,Turn.new HB1.out⟩
   unfold appl
   rw [HT.out]
   exact (HS.out.new HB1.out).mono fun i _ hi => .inl hi
 | true =>
   have HT := hid ht
   clear ht
   go_enter Tryz.func105,Tryz.ntmps105
   go_wp2_with fail
   refine HH.out.mono ?_
   rintro e w1 ⟨rfl,hb⟩
   rw [HT.out]
   have HB1 := hid hb
   clear hb
   go_wp2
   go_loopw [13,6] (fun vi _ wr => ∃ k : Nat,vi = .int .i64 k /\ k <= n /\ SetAt wr (Out F w wr) p (doAll T (l.take k)) /\ Most (doAll T (l.take k)) (M + k) /\ Turn F w wr) (fun vi _ _ => n - (RowKit.intOf vi).toNat)
   case atStart => exact ⟨0,rfl,Nat.zero_le _,(HS.out.new HB1.out).mono fun i _ hi => .inl hi,HM.out,Turn.new HB1.out⟩
   case round =>
    obtain ⟨k,rfl,hk,hset,hmost,hturn⟩ := hrel
    by_cases hkn : k < n
    ·obtain ⟨b,off,f,rfl,hbB,c0,c1,c2,c3,hf,ht⟩ := (HC.out wr hturn).at_ hkn
     have hft := allT_at HT.out hf
     obtain ⟨ft,fk,fg,fv⟩ := f
     dsimp only at c0 c1 c2 c3 hft
     obtain ⟨i,rfl,hi⟩ := isT_nat hft
     have hi2 : i < (doAll T (l.take k)).length := by rw [doAll_length]; exact hi
     have hnew : doAll T (l.take (k + 1)) = (doAll T (l.take k)).set i (one (tab (doAll T (l.take k)) (i : Int)) ⟨i,fk,fg,fv⟩) := by rw [ht,doAll_snoc,do1,Int.toNat_natCast]
     have hmost2 : Most (doAll T (l.take (k + 1))) (M + (k + 1)) := by
      rw [ht,doAll_snoc]
      exact hmost.do1 (by rw [isT_length (doAll_length _ _)]; exact hft)
     have hshort := hmost (i : Int)
     generalize hTT : doAll T (l.take k) = TT at *
     generalize hTN : doAll T (l.take (k + 1)) = TN at *
     have HTN := hid hTN
     clear hTN
     obtain ⟨bb,ps,G,hX⟩ := hset
     have hb01 : Below wr.heap.size wr (wr.alloc (.cells #[.int .i64 i,.int .i64 fk,.bool fg,.string fv] 64)).drew := ((Below.refl _ _).alloc (Nat.le_refl _) _).drew
     have hX1 := hX.keep hb01.size fun x hx _ => hb01.block x hx
     obtain ⟨q,l0,e1,e2,d1,hq0⟩ := hX.get hi2
     have d0 : wr.cell? ⟨p,0,none⟩ = some (.slice (some ⟨bb,0,none⟩) TT.length TT.length) := hX.box.cell 0
     have d2 : wr.cell? ⟨bb,i,none⟩ = some (.pointer (some ⟨q,0,none⟩)) := d1
     have hpl : p < wr.heap.size := hX.box.lt
     have hbl : bb < wr.heap.size := hX.row.lt
     have HQ := hid (hX1.each i q l0 e1 e2)
     have htab := tab_get hi2 e2
     rw [htab] at hnew hshort
     subst hnew
     have HX1 := hid (And.intro hX1 e1)
     have HTU := hid (And.intro hturn hb01)
     have HMO := hid hmost2
     have l1 : (k : Int) < (n : Int) := by omega
     have l2 : (i : Int) < (TT.length : Int) := by omega
     have hs0 : l0.length <= 1099511627774 := by omega
     clear hX hX1 e1 e2 d1 hq0 htab hturn hb01 hmost hmost2 hf ht hft hTT hshort
     go_wp2_with fail
     go_region_with (first
      | (go_at_call 175; refine (apply_any _ q l0 ⟨i,fk,fg,fv⟩ _ HQ.out hs0).mono ?_; rintro e w2 ⟨rfl,h1,h2⟩; have H2 := hid (And.intro h1 h2); clear h1 h2)
      | fail)
     all_goals (go_wp2; refine ⟨⟨k + 1,by rw [Int.natCast_add]; rfl,hkn,by rw [HTN.out]; exact step_set HTU.out.1 HTU.out.2 (HX1.out.1.step hi2 HX1.out.2 H2.out.1 H2.out.2).1 H2.out.2.size,by rw [HTN.out]; exact HMO.out,?_⟩,by simp only [RowKit.intOf,Int.toNat_natCast]; omega⟩)
     all_goals exact HTU.out.1.two ((Turn.new HTU.out.2).trans (HX1.out.1.step hi2 HX1.out.2 H2.out.1 H2.out.2).2 fun _ h => .inl h)
    ·have l1 : decide ((k : Int) < (n : Int)) = false := decide_eq_false (by omega)
     obtain rfl : k = n := by omega
     rw [show l.take k = l by rw [<- HLEN.out,List.take_length]] at hset
     have HSE := hid (And.intro hset hturn)
     clear hset hturn hmost
     go_wp2
     go_ret
     refine ⟨rfl,?_,HSE.out.2⟩
     unfold appl
     rw [HT.out]
     exact HSE.out.1
end Tbl
namespace Src
open Go.RowKit Base
open Foot (Turn Out)
open DiskMath (Fl Dk)
open WalMath (Lg Sg Cap)
open SrcMath (Sc)
open Wal (Both New LogAt DiskT SgOk Ok Small Win)
open Disk (DiskAt)
open Tbl (SetAt)
structure LOk (l : Lg) : Prop where
 ok : Ok l
 small : Small l
 len : l.segs.length <= 16384
 runs : WalMath.Runs (WalMath.low l.segs) l.segs
def scells (p g gd : Nat) (S : Sc) : Array Value := #[.pointer (some ⟨p,0,none⟩),.pointer (some ⟨gd,0,none⟩),.pointer (some ⟨g,0,none⟩),.pointer (some ⟨gd,0,none⟩),.int .i64 S.lsn,.int .i64 (SrcMath.other S.file)]
structure Parts (T : Nat -> Prop) (w : World) (s p g gd : Nat) (S : Sc) (d : Dk) (L K : Nat -> Prop) : Prop where
 log : Both L w g gd S.l d
 set : SetAt w K p S.T
 box : Blk w s 60 (scells p g gd S)
 inL : ∀ i,L i -> T i /\ i < w.heap.size
 inK : ∀ i,K i -> T i /\ i < w.heap.size
 inS : T s
 apart : ∀ i,L i -> ¬ K i /\ i ≠ s
 sK : ¬ K s
def SrcAt (T : Nat -> Prop) (w : World) (s p g gd : Nat) (S : Sc) (d : Dk) : Prop := ∃ L K,Parts T w s p g gd S d L K
section
variable {T T' L K : Nat -> Prop} {w w' w'' : World} {s p g gd : Nat} {S : Sc} {d d' : Dk}
theorem Both.keep {l : Lg} (h : Wal.Both L w g gd l d) (hL : ∀ i,L i -> i < w.heap.size) (hz : w.heap.size <= w'.heap.size) (hk : ∀ i,i < w.heap.size -> L i -> w'.heap[i]? = w.heap[i]?) : Wal.Both L w' g gd l d := by
 obtain ⟨F,G,h1,h2,h3,h4,h5⟩ := h
 exact ⟨F,G,h1.keep fun i hi hf => hk i hi (h4 i hf).1,h2.keep hz fun i hi hg => hk i hi (h5 i hg).1,h3,fun i hi => ⟨(h4 i hi).1,Nat.lt_of_lt_of_le (h4 i hi).2 hz⟩,fun i hi => ⟨(h5 i hi).1,Nat.lt_of_lt_of_le (h5 i hi).2 hz⟩⟩
theorem SrcAt.new (h : SrcAt T w s p g gd S d) (hb : Below w.heap.size w w') : SrcAt T w' s p g gd S d := by
 obtain ⟨L,K,h⟩ := h
 exact ⟨L,K,h.log.new hb,h.set.new hb,(hb.block s h.box.lt).trans h.box,fun i hi => ⟨(h.inL i hi).1,Nat.lt_of_lt_of_le (h.inL i hi).2 hb.size⟩,fun i hi => ⟨(h.inK i hi).1,Nat.lt_of_lt_of_le (h.inK i hi).2 hb.size⟩,h.inS,h.apart,h.sK⟩
theorem SrcAt.mono (h : SrcAt T w s p g gd S d) (hT : ∀ i,T i -> T' i) : SrcAt T' w s p g gd S d := by
 obtain ⟨L,K,h⟩ := h
 exact ⟨L,K,h.log,h.set,h.box,fun i hi => ⟨hT i (h.inL i hi).1,(h.inL i hi).2⟩,fun i hi => ⟨hT i (h.inK i hi).1,(h.inK i hi).2⟩,hT s h.inS,h.apart,h.sK⟩
theorem SrcAt.lt (h : SrcAt T w s p g gd S d) : s < w.heap.size := by
 obtain ⟨L,K,h⟩ := h
 exact h.box.lt
theorem SrcAt.box (h : SrcAt T w s p g gd S d) : Blk w s 60 (scells p g gd S) := by
 obtain ⟨L,K,h⟩ := h
 exact h.box
theorem SrcAt.set (h : SrcAt T w s p g gd S d) : ∃ K,SetAt w K p S.T /\ ∀ i,K i -> T i /\ i < w.heap.size := by
 obtain ⟨L,K,h⟩ := h
 exact ⟨K,h.set,h.inK⟩
theorem SrcAt.log (h : SrcAt T w s p g gd S d) : ∃ G,LogAt G w g gd S.l /\ ∀ i,G i -> T i /\ i < w.heap.size := by
 obtain ⟨L,K,h⟩ := h
 obtain ⟨F,G,h1,h2,h3,h4,h5⟩ := h.log
 exact ⟨G,h2,fun i hi => h.inL i (h5 i hi).1⟩
theorem SrcAt.dsk (h : SrcAt T w s p g gd S d) : ∃ F,DiskAt F w gd d /\ ∀ i,F i -> T i /\ i < w.heap.size := by
 obtain ⟨L,K,h⟩ := h
 obtain ⟨F,G,h1,h2,h3,h4,h5⟩ := h.log
 exact ⟨F,h1,fun i hi => h.inL i (h4 i hi).1⟩
theorem SrcAt.onDisk (h : SrcAt T w s p g gd S d) : DiskT T w gd d := h.dsk
theorem SrcAt.logs (h : SrcAt T w s p g gd S d) (hT : New T w) : ∃ L,Both L w g gd S.l d /\ New L w /\ (∀ i,i < w.heap.size -> L i -> T i) /\ (∀ i,L i -> i ≠ s) /\ Hid (∀ w' l' d',Both L w' g gd l' d' -> Turn L w w' -> SrcAt T w' s p g gd { S with l := l' } d' /\ Turn T w w') := by
 obtain ⟨L,K,h⟩ := h
 have hs := h.box.lt
 refine ⟨fun i => L i \/ w.heap.size <= i,?_,fun i hi => .inr hi,fun i hi hl => ?_,fun i hi => ?_,fun w' l' d' hb ht => ⟨⟨fun i => (L i \/ w.heap.size <= i) /\ i < w'.heap.size,K,?_,?_,?_,?_,?_,h.inS,?_,h.sK⟩,?_⟩⟩
 ·obtain ⟨F,G,h1,h2,h3,h4,h5⟩ := h.log
  exact ⟨F,G,h1,h2,h3,fun i hi => ⟨.inl (h4 i hi).1,(h4 i hi).2⟩,fun i hi => ⟨.inl (h5 i hi).1,(h5 i hi).2⟩⟩
 ·rcases hl with hl | hl
  ·exact (h.inL i hl).1
  ·omega
 ·rcases hi with hi | hi
  ·exact (h.apart i hi).2
  ·omega
 ·obtain ⟨F,G,h1,h2,h3,h4,h5⟩ := hb
  exact ⟨F,G,h1,h2,h3,fun i hi => ⟨⟨(h4 i hi).1,(h4 i hi).2⟩,(h4 i hi).2⟩,fun i hi => ⟨⟨(h5 i hi).1,(h5 i hi).2⟩,(h5 i hi).2⟩⟩
 ·exact h.set.keep ht.size fun i hi hk => ht.block i hi fun hl => by
   rcases hl with hl | hl
   ·exact (h.apart i hl).1 hk
   ·omega
 ·refine (ht.block s hs fun hl => ?_).trans h.box
  rcases hl with hl | hl
  ·exact (h.apart s hl).2 rfl
  ·omega
 ·rintro i ⟨hl | hl,h2⟩
  ·exact ⟨(h.inL i hl).1,h2⟩
  ·exact ⟨hT i hl,h2⟩
 ·exact fun i hi => ⟨(h.inK i hi).1,Nat.lt_of_lt_of_le (h.inK i hi).2 ht.size⟩
 ·rintro i ⟨hl | hl,h2⟩
  ·exact h.apart i hl
  ·exact ⟨fun hk => by have := (h.inK i hk).2; omega,by omega⟩
 ·exact ht.mono fun i hi => by
   rcases hi with hl | hl
   ·exact (h.inL i hl).1
   ·exact hT i hl
theorem SrcAt.disks (h : SrcAt T w s p g gd S d) (hT : New T w) : ∃ F,DiskAt F w gd d /\ (∀ i,F i -> T i /\ i < w.heap.size /\ i ≠ s) /\ Hid (∀ w' d',DiskAt (Out F w w') w' gd d' -> Turn F w w' -> SrcAt T w' s p g gd S d' /\ Turn T w w') := by
 obtain ⟨L,h1,h2,h3,h4,h5⟩ := h.logs hT
 obtain ⟨F,k1,k2,k3⟩ := h1.disk h2
 exact ⟨F,k1,fun i hi => ⟨h3 i (k2 i hi).2 (k2 i hi).1,(k2 i hi).2,h4 i (k2 i hi).1⟩,fun w' d' a b => h5.out w' S.l d' (k3.out w' d' a b).1 (k3.out w' d' a b).2⟩
theorem SrcAt.sets (h : SrcAt T w s p g gd S d) (hT : New T w) : ∃ K,SetAt w K p S.T /\ (∀ i,K i -> T i /\ i < w.heap.size /\ i ≠ s) /\ Hid (∀ w' T',SetAt w' (Out K w w') p T' -> Turn K w w' -> SrcAt T w' s p g gd { S with T := T' } d /\ Turn T w w') := by
 obtain ⟨L,K,h⟩ := h
 have hs := h.box.lt
 refine ⟨K,h.set,fun i hi => ⟨(h.inK i hi).1,(h.inK i hi).2,fun e => h.sK (e ▸ hi)⟩,fun w' T' hb ht => ⟨⟨L,Out K w w',?_,hb,?_,?_,?_,h.inS,?_,?_⟩,ht.mono fun i hi => (h.inK i hi).1⟩⟩
 ·exact Both.keep h.log (fun i hi => (h.inL i hi).2) ht.size fun i hi hl => ht.block i hi (h.apart i hl).1
 ·exact (ht.block s hs h.sK).trans h.box
 ·exact fun i hi => ⟨(h.inL i hi).1,Nat.lt_of_lt_of_le (h.inL i hi).2 ht.size⟩
 ·rintro i (hi | hi)
  ·exact ⟨(h.inK i hi).1,Nat.lt_of_lt_of_le (h.inK i hi).2 ht.size⟩
  ·exact ⟨hT i hi.1,hi.2⟩
 ·intro i hi
  refine ⟨?_,(h.apart i hi).2⟩
  rintro (hk | hk)
  ·exact (h.apart i hi).1 hk
  ·have := (h.inL i hi).2
   omega
 ·rintro (hk | hk)
  ·exact h.sK hk
  ·omega
theorem SrcAt.boxes (h : SrcAt T w s p g gd S d) {S' : Sc} (hl : S'.l = S.l) (hT : S'.T = S.T) (hk : ∀ i,i < w.heap.size -> i ≠ s -> w'.heap[i]? = w.heap[i]?) (hz : w.heap.size <= w'.heap.size) (hb : Blk w' s 60 (scells p g gd S')) : SrcAt T w' s p g gd S' d := by
 obtain ⟨L,K,h⟩ := h
 refine ⟨L,K,?_,?_,hb,fun i hi => ⟨(h.inL i hi).1,Nat.lt_of_lt_of_le (h.inL i hi).2 hz⟩,fun i hi => ⟨(h.inK i hi).1,Nat.lt_of_lt_of_le (h.inK i hi).2 hz⟩,h.inS,h.apart,h.sK⟩
 ·rw [hl]
  exact Both.keep h.log (fun i hi => (h.inL i hi).2) hz fun i hi hL => hk i hi (h.apart i hL).2
 ·rw [hT]
  exact h.set.keep hz fun i hi hK => hk i hi fun e => h.sK (e ▸ hK)
theorem SrcAt.cells (h : SrcAt T w s p g gd S d) : w.cell? ⟨s,0,none⟩ = some (.pointer (some ⟨p,0,none⟩)) /\ w.cell? ⟨s,1,none⟩ = some (.pointer (some ⟨gd,0,none⟩)) /\ w.cell? ⟨s,2,none⟩ = some (.pointer (some ⟨g,0,none⟩)) /\ w.cell? ⟨s,3,none⟩ = some (.pointer (some ⟨gd,0,none⟩)) /\ w.cell? ⟨s,4,none⟩ = some (.int .i64 S.lsn) /\ w.cell? ⟨s,5,none⟩ = some (.int .i64 (SrcMath.other S.file)) := by
 have hb := h.box
 exact ⟨hb.cell 0,hb.cell 1,hb.cell 2,hb.cell 3,hb.cell 4,hb.cell 5⟩
end
theorem row_turn {T : Nat -> Prop} {w w' : World} {sz n c : Nat} {A : Option Addr} {vs : List Value} (h : Row w w.heap.size sz A n c vs) (hl : Lies (fun i => ¬ T i) A n) (ht : Turn T w w') : Row w' w'.heap.size sz A n c vs :=
 ⟨h.1,h.2.1,h.2.2.1,fun hn => by
  obtain ⟨b,off,e,hb,hc⟩ := h.2.2.2 hn
  exact ⟨b,off,e,Nat.lt_of_lt_of_le hb ht.size,fun j u hu => (World.cell?_of_block (ht.block b hb (hl hn b off e))).trans (hc j u hu)⟩⟩
theorem SrcAt.win {T : Nat -> Prop} {w w' : World} {s p g gd : Nat} {S : Sc} {d : Dk} (h : SrcAt T w s p g gd S d) (hb : Below w.heap.size w w') : SrcAt (Win T w.heap.size w'.heap.size) w' s p g gd S d := by
 obtain ⟨L,K,h⟩ := h
 exact ⟨L,K,h.log.new hb,h.set.new hb,(hb.block s h.box.lt).trans h.box,fun i hi => ⟨⟨(h.inL i hi).1,.inl (h.inL i hi).2⟩,Nat.lt_of_lt_of_le (h.inL i hi).2 hb.size⟩,fun i hi => ⟨⟨(h.inK i hi).1,.inl (h.inK i hi).2⟩,Nat.lt_of_lt_of_le (h.inK i hi).2 hb.size⟩,⟨h.inS,.inl h.box.lt⟩,h.apart,h.sK⟩
theorem SrcAt.old {T : Nat -> Prop} {w : World} {s p g gd : Nat} {S : Sc} {d : Dk} (h : SrcAt T w s p g gd S d) : SrcAt (fun i => T i /\ i < w.heap.size) w s p g gd S d := by
 obtain ⟨L,K,h⟩ := h
 exact ⟨L,K,h.log,h.set,h.box,fun i hi => ⟨h.inL i hi,(h.inL i hi).2⟩,fun i hi => ⟨h.inK i hi,(h.inK i hi).2⟩,⟨h.inS,h.box.lt⟩,h.apart,h.sK⟩
theorem new_win {T : Nat -> Prop} {w w' : World} (h : New T w) (hz : w.heap.size <= w'.heap.size) : New (Win T w.heap.size w'.heap.size) w' := fun i hi => ⟨h i (Nat.le_trans hz hi),.inr hi⟩
end Src
end Go.Proofs.YtefnmnpfecfdaaaGreat
