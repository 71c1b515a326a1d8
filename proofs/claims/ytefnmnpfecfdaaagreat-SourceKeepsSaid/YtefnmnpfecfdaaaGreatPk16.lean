/-
  Texts of one proof: TblNew, PlayMod, PlayCut, PlayBig, PlayChg, TblChg.
-/
import Derived.Test.YtefnmnpfecfdaaaGreatPk15
import Derived.WalkLawsBesides
import Derived.Deep.RegionHeld3
set_option linter.all false
set_option maxRecDepth 100000
set_option maxHeartbeats 3200000
open Go.Lib (hid)
namespace Go.Proofs.YtefnmnpfecfdaaaGreat
namespace Tbl
open Go.RowKit Base IdxMath Foot Idx
def nilp : Value := .pointer none
def half (ps : List Nat) (m : Nat) : Array Value := (ps.map ptr ++ List.replicate m nilp).toArray
theorem half_at (ps : List Nat) (m : Nat) (hm : 0 < m) : (half ps m)[ps.length]? = some nilp := by
 simp [half,hm]
theorem half_set (ps : List Nat) (m q : Nat) : (half ps (m + 1)).setIfInBounds ps.length (ptr q) = half (ps ++ [q]) m := by
 simp [half,List.replicate_succ,List.set_append]
structure Half (w wr : World) (g p n k : Nat) (ps : List Nat) (G : Nat -> Nat -> Prop) : Prop where
 box : Blk wr p 125 #[.slice (some ⟨g,0,none⟩) n n]
 row : Blk wr g 122 (half ps (n - k))
 len : ps.length = k
 le : k <= n
 ne : p ≠ g
 hg : w.heap.size <= g
 hp : w.heap.size <= p
 each : ∀ i q,ps[i]? = some q -> IdxAt wr (G i) q []
 ing : ∀ i x,i < k -> x < wr.heap.size -> G i x -> w.heap.size <= x /\ x ≠ p /\ x ≠ g
 apart : ∀ i j x,i < k -> j < k -> i ≠ j -> x < wr.heap.size -> G i x -> ¬ G j x
 new : Below w.heap.size w wr
def Part (w wr : World) (g p n k : Nat) : Prop := ∃ ps G,Half w wr g p n k ps G
theorem Part.lay {w wr w2 : World} {g p n k q : Nat} (h : Part w wr g p n k) (hk : k < n) (hq : IdxAt w2 (fun x => wr.heap.size <= x /\ x < w2.heap.size) q []) (hb : Below wr.heap.size wr w2) : Part w (w2.setCell ⟨g,k,none⟩ (ptr q)) g p n (k + 1) := by
 obtain ⟨ps,G,h⟩ := h
 have hfar : ∀ x,x ≠ g -> (w2.setCell ⟨g,k,none⟩ (ptr q)).heap[x]? = w2.heap[x]? := fun x hx => Below.heap_setCell w2 _ _ x hx
 have hplt := h.box.lt
 have hglt := h.row.lt
 have hsz := size_setCell w2 ⟨g,k,none⟩ (ptr q)
 have hle := hb.size
 have hlen := h.len
 refine ⟨ps ++ [q],fun j x => if j = k then wr.heap.size <= x /\ x < w2.heap.size else G j x /\ x < wr.heap.size,?_⟩
 refine ⟨(hfar p h.ne).trans (h.box.below hb hplt),?_,by rw [List.length_append,h.len]; rfl,hk,h.ne,h.hg,h.hp,?_,?_,?_,?_⟩
 ·have h1 := (h.row.below hb hglt).set_ k (ptr q)
  rw [show n - k = n - (k + 1) + 1 by omega,<- hlen,half_set] at h1
  rw [<- hlen]
  exact h1
 ·intro j q' h1
  by_cases hj : j = k
  ·subst hj
   rw [<- hlen,List.getElem?_append_right (Nat.le_refl _),Nat.sub_self] at h1
   obtain rfl := Option.some.inj h1
   refine (hq.mono fun x hx hG => ?_).keep fun x hx hG => hfar x ?_
   ·rw [if_pos rfl]; exact hG
   ·rw [if_pos rfl] at hG; omega
  ·have hjk : j < k := by
    have := (List.getElem?_eq_some_iff.1 h1).1
    rw [List.length_append,hlen] at this
    simp only [List.length_cons,List.length_nil] at this
    omega
   rw [List.getElem?_append_left (by omega)] at h1
   have h4 : IdxAt w2 (fun x => G j x /\ x < wr.heap.size) q' [] := ((h.each j q' h1).mono (F' := fun x => G j x /\ x < wr.heap.size) fun x hx hG => ⟨hG,hx⟩).new hb
   refine (h4.mono fun x hx hG => ?_).keep fun x hx hG => hfar x ?_
   ·rw [if_neg hj]; exact hG
   ·rw [if_neg hj] at hG
    exact (h.ing j x hjk hG.2 hG.1).2.2
 ·intro j x hj hx hG
  by_cases hjk : j = k
  ·rw [if_pos hjk] at hG
   have := h.hg
   exact ⟨by omega,by omega,by omega⟩
  ·rw [if_neg hjk] at hG
   exact h.ing j x (by omega) hG.2 hG.1
 ·intro i j x hi hj hij hx h1 h2
  by_cases hik : i = k
  ·rw [if_pos hik] at h1
   rw [if_neg (fun e => hij (hik.trans e.symm))] at h2
   omega
  ·rw [if_neg hik] at h1
   by_cases hjk : j = k
   ·rw [if_pos hjk] at h2
    omega
   ·rw [if_neg hjk] at h2
    exact h.apart i j x (by omega) (by omega) hij h1.2 h1.1 h2.1
 ·exact (Turn.below (F := fun x => w.heap.size <= x) ((Turn.new (F := fun x => w.heap.size <= x) (held_two h.new hb)).setCell (.inl h.hg) _) (fun i hi => hi) (Nat.le_refl _))
theorem Part.done {w wr : World} {g p n : Nat} (h : Part w wr g p n n) (h1 : 1 <= n) (h8 : n <= 8) : SetAt wr (fun i => w.heap.size <= i /\ i < wr.heap.size) p (List.replicate n []) := by
 obtain ⟨ps,G,h⟩ := h
 have hl : (List.replicate n ([] : List Rw)).length = n := List.length_replicate
 refine ⟨g,ps,G,?_⟩
 refine ⟨by rw [hl]; exact h.box,?_,by rw [hl,h.len],by rw [hl]; exact h8,by rw [hl]; exact h1,⟨h.hp,h.box.lt⟩,⟨h.hg,h.row.lt⟩,h.ne,?_,?_,?_⟩
 ·have := h.row
  rw [Nat.sub_self] at this
  unfold half at this
  simpa using this
 ·intro i q l e1 e2
  obtain rfl : l = [] := List.eq_of_mem_replicate (List.mem_of_getElem? e2)
  exact h.each i q e1
 ·intro i x hi hx hG
  rw [hl] at hi
  have := h.ing i x hi hx hG
  exact ⟨⟨this.1,hx⟩,this.2⟩
 ·intro i j x hi hj
  rw [hl] at hi hj
  exact h.apart i j x hi hj
theorem Part.start {w w1 : World} {n : Nat} (ho : w1.ownsRow w.heap.size 122 1 (.slice (some ⟨w.heap.size,0,none⟩) n n) n (List.replicate n nilp)) (hb : Below w.heap.size w w1) (hn : 1 <= n) :
 Part w (w1.alloc (.cells #[.slice (some ⟨w.heap.size,0,none⟩) n n] 125)) w.heap.size w1.heap.size n 0 := by
 rcases ho.2 with ⟨hv,h0⟩ | ⟨b,cap,cur,hv,hbase,hg,h1,h2,h3,h4⟩
 ·omega
 ·simp only [Value.slice.injEq,Option.some.injEq,Addr.mk.injEq] at hv
  obtain ⟨⟨rfl,_⟩,_,rfl⟩ := hv
  have hc : cur = half [] n := by
   apply Array.toList_inj.1
   rw [List.take_of_length_le (by rw [Array.length_toList,h3]; exact Nat.le_refl _)] at h4
   rw [h4]
   simp [half]
  subst hc
  have hlt : w.heap.size < w1.heap.size := Blk.lt (w := w1) hg
  refine ⟨[],fun _ _ => False,Blk.new _ _ _,Blk.alloc hg _,rfl,Nat.zero_le _,by omega,Nat.le_refl _,by omega,?_,?_,?_,hb.alloc hb.size _⟩
  ·intro i q h; simp at h
  ·intro i x hi; omega
  ·intro i j x hi; omega
def Made (w : World) (n : Int) (e : Ending) (w' : World) : Prop :=
 if 1 <= n /\ n <= 8 then ∃ p,e = .returned (.tuple #[.pointer (some ⟨p,0,none⟩),.int .i64 0]) /\ SetAt w' (fun i => w.heap.size <= i /\ i < w'.heap.size) p (List.replicate n.toNat []) /\ Below w.heap.size w w'
 else e = .returned (.tuple #[.pointer none,.int .i64 1]) /\ w' = w
theorem et : Elem Tryz.prog 123 122 1 8 (.agg #[nilp]) := .of (by rfl) (by rfl) rfl (by omega)
theorem new_any (n : Int) (w : World) : Calls Tryz.prog 36 #[.int .i64 n] w (Made w n) := by
 rcases Int.lt_or_le n 1 with h1 | h1
 ·go_enter Tryz.func36,Tryz.ntmps36
  go_wp2
  go_ret2
  unfold Made
  rw [if_neg (by omega)]
  exact ⟨rfl,rfl⟩
 rcases Int.lt_or_le 8 n with h8 | h8
 ·go_enter Tryz.func36,Tryz.ntmps36
  go_wp2
  go_ret2
  unfold Made
  rw [if_neg (by omega)]
  exact ⟨rfl,rfl⟩
 obtain ⟨m,rfl⟩ := Int.eq_ofNat_of_zero_le (show 0 <= n by omega)
 have HM1 : 1 <= m := by omega
 have HM8 : m <= 8 := by omega
 go_enter Tryz.func36,Tryz.ntmps36
 go_wp2_with (first
  | (refine wpList_make_elem _ rfl (.tmp 12) (.tmp 12) rfl et w.heap.size .i64 .i64 _ _ m rfl rfl rfl rfl (by omega) (by omega) (Nat.le_refl _) ?_
     intro w1 ho1 hb1
     replace ho1 : w1.ownsRow w.heap.size 122 1 (.slice (some ⟨w.heap.size,0,none⟩) m m) m (madeCells #[nilp] (m * 1)).toList := ho1
     rw [Nat.mul_one,toList_madeCells_one] at ho1
     have HP := hid (Part.start ho1 hb1 HM1)
     clear ho1 hb1))
 generalize w1.alloc (.cells #[.slice (some ⟨w.heap.size,0,none⟩) m m] 125) = w2 at HP ⊢
 generalize w1.heap.size = p at HP ⊢
 generalize w.heap.size = g at HP ⊢
 clear w1
 go_loopw [21,5] (fun vi vj wr => ∃ k : Nat,vi = .int .i64 k /\ k <= m /\ Part w wr g p m k) (fun vi _ _ => m - (RowKit.intOf vi).toNat)
 case atStart => exact ⟨0,rfl,Nat.zero_le _,HP.out⟩
 case round =>
  obtain ⟨k,rfl,hk,hpart⟩ := hrel
  have HK := hid hpart
  clear HP
  obtain ⟨ps,G,hH⟩ := hpart
  have c0 : wr.cell? ⟨p,0,none⟩ = some (.slice (some ⟨g,0,none⟩) m m) := hH.box.cell 0
  by_cases hkm : k < m
  ·have l1 : (k : Int) < (m : Int) := by omega
   have c1 : wr.cell? ⟨g,k,none⟩ = some nilp := by rw [hH.row.cell k,<- hH.len]; exact half_at _ _ (by have := hH.len; omega)
   have z1 : wr.frozen? ⟨g,k,none⟩ = false := hH.row.frozen k
   have HR := hid hH.row
   have hglt : g < wr.heap.size := hH.row.lt
   clear hH
   go_wp2_with fail
   go_region_with (first
    | (go_at_call 93; refine (Idx.new_any wr.heap.size none 0 0 [] wr.drew (Rs.nil_ _ _) (Nat.le_refl _) (by omega)).mono ?_; rintro e w3 ⟨q,rfl,hq,hb2⟩; have hb2' : Below wr.heap.size wr w3 := held_two (held_start wr) hb2; have d0 := held_cell hb2' c0; have d1 := held_cell hb2' c1; have dz := (HR.out.below hb2' hglt).frozen k; have HQ := hid (And.intro hq hb2'); clear hb2 hb2' hq)
    | fail)
   all_goals (go_wp2; refine ⟨⟨k + 1,by rw [Int.natCast_add]; rfl,hkm,HK.out.lay hkm HQ.out.1 HQ.out.2⟩,?_⟩; simp only [RowKit.intOf,Int.toNat_natCast]; omega)
  ·have l1 : decide ((k : Int) < (m : Int)) = false := decide_eq_false (by omega)
   obtain rfl : k = m := by omega
   clear hH
   go_wp2
   go_ret2
   unfold Made
   rw [if_pos (by omega)]
   obtain ⟨ps',G',hH'⟩ := HK.out
   exact ⟨p,rfl,by rw [Int.toNat_natCast]; exact HK.out.done HM1 HM8,hH'.new⟩
end Tbl
namespace Field
open Go.RowKit Base
def modZ (v : Int) (n : Nat) : Nat := ((v % 18446744073709551616) % n).toNat
theorem modZ_lt (v : Int) {n : Nat} (h : 0 < n) : modZ v n < n := by
 unfold modZ
 have h1 := Int.emod_nonneg (v % 18446744073709551616) (b := (n : Int)) (by omega)
 have h2 := Int.emod_lt_of_pos (v % 18446744073709551616) (b := (n : Int)) (by omega)
 omega
theorem mod_any (v : Int) (n : Nat) (w : World) (hn : 0 < n) (hm : n <= 1099511627776) :
 Calls Tryz.prog 12 #[.int .i64 v,.int .i64 n] w fun e w' => e = .returned (.int .i64 (modZ v n)) /\ w = w' := by
 have hne : ((n : Int) == 0) = false := by simp; omega
 go_enter Tryz.func12,Tryz.ntmps12
 go_wp2
 go_ret
 refine ⟨ret_int ?_,rfl⟩
 have hw : IntKind.u64.wrap v = v % 18446744073709551616 := by simp [IntKind.wrap,IntKind.bits,IntKind.signed]
 have h0 : 0 <= v % 18446744073709551616 := Int.emod_nonneg _ (by omega)
 rw [hw,Int.tmod_eq_emod_of_nonneg h0]
 unfold modZ
 generalize v % 18446744073709551616 = y at h0
 have h1 : 0 <= y % (n : Int) := Int.emod_nonneg _ (by omega)
 have h2 : y % (n : Int) < n := Int.emod_lt_of_pos _ (by omega)
 generalize y % (n : Int) = z at h1 h2
 rw [IntWalk.wrap64_in z (by omega)]
 omega
end Field
namespace Field
open Go.RowKit Base
theorem extract_take (s : ByteArray) (n : Nat) : s.extract 0 n = str (s.data.toList.take n) := by
 have h : (s.extract 0 n).data.toList = s.data.toList.take n := by simp [ByteArray.data_extract]
 rw [<- str_of (s.extract 0 n),h]
theorem cut_any (s : ByteArray) (n : Nat) (w : World) (_hs : s.size <= 9223372036854775807) (hn : n <= 1099511627776) :
 Calls Tryz.prog 100 #[.string s,.int .i64 n] w fun e w' => e = .returned (.string (str (s.data.toList.take n))) /\ w = w' := by
 by_cases hlt : n < s.size
 ·go_enter Tryz.func100,Tryz.ntmps100
  go_wp2
  go_ret
  exact ⟨by rw [<- extract_take]; rfl,rfl⟩
 ·have e : str (s.data.toList.take n) = s := by rw [List.take_of_length_le (by rw [size_list]; omega),str_of]
  rw [e]
  clear e
  go_enter Tryz.func100,Tryz.ntmps100
  go_wp2
  go_ret
  exact ⟨rfl,rfl⟩
end Field
namespace Field
open Go.RowKit Base
def bigZ (v : Int) (n : Nat) : Nat := ((v % 18446744073709551616) % n).toNat
theorem bigZ_lt (v : Int) {n : Nat} (h : 0 < n) : bigZ v n < n := by
 unfold bigZ
 have h1 := Int.emod_nonneg (v % 18446744073709551616) (b := (n : Int)) (by omega)
 have h2 := Int.emod_lt_of_pos (v % 18446744073709551616) (b := (n : Int)) (by omega)
 omega
theorem playbig_any (v : Int) (n : Nat) (w : World) (hn : 0 < n) (hm : n <= 1099511627776) :
 Calls Tryz.prog 31 #[.int .i64 v,.int .i64 n] w fun e w' => e = .returned (.int .i64 (bigZ v n)) /\ w = w' := by
 have hne : ((n : Int) == 0) = false := by simp; omega
 go_enter Tryz.func31,Tryz.ntmps31
 go_wp2
 go_ret
 refine ⟨ret_int ?_,rfl⟩
 have hw : IntKind.u64.wrap v = v % 18446744073709551616 := by simp [IntKind.wrap,IntKind.bits,IntKind.signed]
 have h0 : 0 <= v % 18446744073709551616 := Int.emod_nonneg _ (by omega)
 rw [hw,Int.tmod_eq_emod_of_nonneg h0]
 unfold bigZ
 generalize v % 18446744073709551616 = y at h0
 have h1 : 0 <= y % (n : Int) := Int.emod_nonneg _ (by omega)
 have h2 : y % (n : Int) < n := Int.emod_lt_of_pos _ (by omega)
 generalize y % (n : Int) = z at h1 h2
 rw [IntWalk.wrap64_in z (by omega)]
 omega
end Field
namespace PChg
open Go.RowKit Base FieldMath TxnMath
open Field (modZ modZ_lt mod_any bigZ bigZ_lt playbig_any cut_any)
def gcells (c : Ch) : List Value := [.int .i64 c.tbl,.int .i64 c.key,.bool c.gone,.string c.val]
def gval (c : Ch) : Value := .agg #[.int .i64 c.tbl,.int .i64 c.key,.bool c.gone,.string c.val]
def gv (l : List Ch) : List Value := l.flatMap gcells
theorem gv_append (l m : List Ch) : gv (l ++ m) = gv l ++ gv m := List.flatMap_append
theorem gv_one (l : List Ch) : ∀ u ∈ gv l,u.oneCell' = true := by
 intro u hu
 obtain ⟨f,_,hf⟩ := List.mem_flatMap.1 hu
 simp only [gcells,List.mem_cons,List.not_mem_nil,or_false] at hf
 rcases hf with rfl | rfl | rfl | rfl <;> rfl
theorem gv_cons (x : Ch) (l : List Ch) : gv (x :: l) = .int .i64 x.tbl :: .int .i64 x.key :: .bool x.gone :: .string x.val :: gv l := rfl
theorem gv_length (l : List Ch) : (gv l).length = l.length * 4 := by
 induction l with
 | nil => rfl
 | cons f l ih => rw [gv_cons]; simp only [List.length_cons,ih]; omega
theorem gv_get (l : List Ch) (k : Nat) (f : Ch) (h : l[k]? = some f) : (gv l)[k * 4]? = some (.int .i64 f.tbl) /\ (gv l)[k * 4 + 1]? = some (.int .i64 f.key) /\ (gv l)[k * 4 + 2]? = some (.bool f.gone) /\ (gv l)[k * 4 + 3]? = some (.string f.val) := by
 induction l generalizing k with
 | nil => simp at h
 | cons g l ih =>
   rw [gv_cons]
   cases k with
   | zero =>
     simp only [List.getElem?_cons_zero,Option.some.injEq] at h
     subst h
     exact ⟨rfl,rfl,rfl,rfl⟩
   | succ k =>
     rw [List.getElem?_cons_succ] at h
     have := ih k h
     rw [show (k + 1) * 4 = k * 4 + 1 + 1 + 1 + 1 by omega]
     simpa using this
def Cs (w : World) (B : Nat) (A : Option Addr) (n c : Nat) (l : List Ch) : Prop := Row w B 4 A n c (gv l)
section
variable {w w' : World} {B B' n c : Nat} {A : Option Addr} {l : List Ch}
theorem Cs.len (h : Cs w B A n c l) : l.length = n := by have := h.1; rw [gv_length] at this; omega
theorem Cs.le (h : Cs w B A n c l) : n <= c /\ c <= 9223372036854775807 := ⟨h.2.1,h.2.2.1⟩
theorem Cs.below (h : Cs w B A n c l) (hb : Below B w w') : Cs w' B A n c l := Row.below h hb
theorem Cs.more (h : Cs w B A n c l) (hB : B <= B') : Cs w B' A n c l := Row.more h hB
theorem Cs.at_ (h : Cs w B A n c l) {k : Nat} (hk : k < n) :
 ∃ b off f,A = some ⟨b,off,none⟩ /\ b < B /\ w.cell? ⟨b,off + k * 4,none⟩ = some (.int .i64 f.tbl) /\ w.cell? ⟨b,off + k * 4 + 1,none⟩ = some (.int .i64 f.key) /\ w.cell? ⟨b,off + k * 4 + 2,none⟩ = some (.bool f.gone) /\ w.cell? ⟨b,off + k * 4 + 3,none⟩ = some (.string f.val) /\ l[k]? = some f /\ l.take (k + 1) = l.take k ++ [f] := by
 obtain ⟨b,off,e,hb,hc⟩ := h.2.2.2 (by omega)
 have hl : k < l.length := by rw [h.len]; exact hk
 have hg : l[k]? = some l[k] := List.getElem?_eq_getElem hl
 have := gv_get l k _ hg
 exact ⟨b,off,l[k],e,hb,hc _ _ this.1,hc _ _ this.2.1,hc _ _ this.2.2.1,hc _ _ this.2.2.2,hg,List.take_succ_eq_append_getElem hl⟩
end
theorem ech : Elem Tryz.prog 35 64 4 40 (.agg #[.int .i64 0,.int .i64 0,.bool false,.string ⟨#[]⟩]) := Elem.of Tryz.underlying35 (by kernel_rfl) rfl (by omega)
theorem one_ch (w : World) (f : Ch) {s : Nat} (hs : s = w.heap.size) : Row (w.alloc (.cells #[.int .i64 f.tbl,.int .i64 f.key,.bool f.gone,.string f.val] 64)) (w.heap.size + 1) 4 (some ⟨s,0,none⟩) 1 1 (gv [f]) :=
 Row.lit w #[.int .i64 f.tbl,.int .i64 f.key,.bool f.gone,.string f.val] _ (0,0) hs rfl (by omega)
theorem may_mk {n a k : Int} {g : Bool} {v : ByteArray} (h1 : 0 <= a) (h2 : a < n) (h3 : 1 <= k) (h4 : k <= 1099511627776) (h5 : g = true -> v.size = 0) (h6 : v.size <= 32) : Ch.may n ⟨a,k,g,v⟩ = true := by
 unfold Ch.may
 dsimp only
 rw [decide_eq_true h1,decide_eq_true h2,decide_eq_true h3,decide_eq_true h4]
 cases g with
 | true => simp [h5 rfl]
 | false => simp [h6]
def MadeCh (N : Nat) (w : World) (e : Ending) (w' : World) : Prop := ∃ c : Ch,e = .returned (gval c) /\ c.may N = true /\ Below w.heap.size w w'
def ChCut (w : World) (f : Ch) (a k : Int) (p : Value) (wx : World) : Prop := ∃ C,p = .pointer (some ⟨C,0,none⟩) /\ Blk wx C 64 #[.int .i64 a,.int .i64 k,.bool f.gone,.string ⟨#[]⟩] /\ Blk wx w.heap.size 64 #[.int .i64 f.tbl,.int .i64 f.key,.bool f.gone,.string f.val] /\ Blk wx (w.heap.size + 1) 64 #[.int .i64 0,.int .i64 0,.bool false,.string ⟨#[]⟩] /\ w.heap.size + 1 < C /\ Below w.heap.size w wx
theorem pchange_any (N : Nat) (hN : 1 <= N) (hN8 : N <= 8) (f : Ch) (w : World) (hs : f.val.size <= 9223372036854775807) :
 Calls Tryz.prog 41 #[gval f,.int .i64 N] w (MadeCh N w) := by
 obtain ⟨ft,fk,fg,fv⟩ := f
 unfold gval
 dsimp only at hs ⊢
 have C1 := fun w => mod_any ft N w (by omega) (by omega)
 have b1 := modZ_lt ft (n := N) (by omega)
 have C2 := fun w => playbig_any fk 12 w (by omega) (by omega)
 have b2 := bigZ_lt fk (n := 12) (by omega)
 have C3 := fun w => playbig_any fk 31 w (by omega) (by omega)
 have b3 := bigZ_lt fk (n := 31) (by omega)
 have C4 := fun w => playbig_any fk 1099511627776 w (by omega) (by omega)
 have b4 := bigZ_lt fk (n := 1099511627776) (by omega)
 generalize modZ ft N = a at C1 b1
 generalize bigZ fk 12 = k1 at C2 b2
 generalize bigZ fk 31 = k2 at C3 b3
 generalize bigZ fk 1099511627776 = k3 at C4 b4
 have D1 := hid C1
 have D2 := hid C2
 have D3 := hid C3
 have D4 := hid C4
 have B4 := hid b4
 clear C1 C2 C3 C4 b4
 have hcv : (str (fv.data.toList.take 32)).size <= 32 := by rw [str_size,List.length_take]; omega
 have CV := hid (fun w => cut_any fv 32 w hs (by omega))
 have HCV := hid hcv
 clear hcv
 have hwr : IntKind.i64.wrap (1 + (k1 : Int)) = 1 + (k1 : Int) := IntWalk.i64_in _ (by omega)
 have HWR := hid hwr
 clear hwr
 go_enter Tryz.func41,Tryz.ntmps41
 go_upto_region 1 with fail
 have hx : Blk ((w.alloc (.cells #[.int .i64 ft,.int .i64 fk,.bool fg,.string fv] 64)).alloc (.cells #[.int .i64 0,.int .i64 0,.bool false,.string ⟨#[]⟩] 64)) w.heap.size 64 #[.int .i64 ft,.int .i64 fk,.bool fg,.string fv] := (Blk.new _ _ _).alloc _
 have hy : Blk ((w.alloc (.cells #[.int .i64 ft,.int .i64 fk,.bool fg,.string fv] 64)).alloc (.cells #[.int .i64 0,.int .i64 0,.bool false,.string ⟨#[]⟩] 64)) (w.heap.size + 1) 64 #[.int .i64 0,.int .i64 0,.bool false,.string ⟨#[]⟩] := by have := Blk.new (w.alloc (.cells #[.int .i64 ft,.int .i64 fk,.bool fg,.string fv] 64)) 64 #[.int .i64 0,.int .i64 0,.bool false,.string ⟨#[]⟩]; simpa using this
 have hw : Below w.heap.size w ((w.alloc (.cells #[.int .i64 ft,.int .i64 fk,.bool fg,.string fv] 64)).alloc (.cells #[.int .i64 0,.int .i64 0,.bool false,.string ⟨#[]⟩] 64)) := ((Below.refl _ _).alloc (Nat.le_refl _) _).alloc (by simp) _
 generalize ((w.alloc (.cells #[.int .i64 ft,.int .i64 fk,.bool fg,.string fv] 64)).alloc (.cells #[.int .i64 0,.int .i64 0,.bool false,.string ⟨#[]⟩] 64)) = W at hx hy hw
 have HX := hid hx
 have HY := hid hy
 have HW := hid hw
 clear hx hy hw
 go_cut [5] (fun p wx => ChCut w ⟨ft,fk,fg,fv⟩ a (1 + (k1 : Int)) p wx)
 case first =>
  go_region_held3 (fun w' => w'.cell? ⟨w.heap.size,0,none⟩ = some (.int .i64 ft) /\ w'.cell? ⟨w.heap.size,1,none⟩ = some (.int .i64 fk) /\ w'.cell? ⟨w.heap.size,2,none⟩ = some (.bool fg))
   (first
     | exact ⟨HX.out.cell 0,HX.out.cell 1,HX.out.cell 2⟩
     | exact ⟨(HX.out.alloc _).cell 0,(HX.out.alloc _).cell 1,(HX.out.alloc _).cell 2⟩
     | assumption)
   (first
     | (go_at_call 12; refine (D1.out _).mono ?_; rintro e w1 ⟨rfl,rfl⟩)
     | (go_at_call 31; refine (D2.out _).mono ?_; rintro e w1 ⟨rfl,rfl⟩)
     | fail)
  all_goals (
   rw [HWR.out]
   go_wp2_with fail
   go_meet
   exact ⟨W.heap.size,rfl,Blk.new W _ _,HX.out.alloc _,HY.out.alloc _,HY.out.lt,(HW.out.alloc HW.out.size _).drew⟩)
 case rest =>
  obtain ⟨C,rfl,hc,hx2,hy2,hlt,hbel⟩ := hcut
  have x0 : wc.cell? ⟨w.heap.size,0,none⟩ = some (.int .i64 ft) := hx2.cell 0
  have x1 : wc.cell? ⟨w.heap.size,1,none⟩ = some (.int .i64 fk) := hx2.cell 1
  have x2 : wc.cell? ⟨w.heap.size,2,none⟩ = some (.bool fg) := hx2.cell 2
  have x3 : wc.cell? ⟨w.heap.size,3,none⟩ = some (.string fv) := hx2.cell 3
  have c0 : wc.cell? ⟨C,0,none⟩ = some (.int .i64 a) := hc.cell 0
  have c1 : wc.cell? ⟨C,1,none⟩ = some (.int .i64 (1 + (k1 : Int))) := hc.cell 1
  have c2 : wc.cell? ⟨C,2,none⟩ = some (.bool fg) := hc.cell 2
  have c3 : wc.cell? ⟨C,3,none⟩ = some (.string ⟨#[]⟩) := hc.cell 3
  have r0 : wc.cell? ⟨w.heap.size + 1,0,none⟩ = some (.int .i64 0) := hy2.cell 0
  have r1 : wc.cell? ⟨w.heap.size + 1,1,none⟩ = some (.int .i64 0) := hy2.cell 1
  have r2 : wc.cell? ⟨w.heap.size + 1,2,none⟩ = some (.bool false) := hy2.cell 2
  have r3 : wc.cell? ⟨w.heap.size + 1,3,none⟩ = some (.string ⟨#[]⟩) := hy2.cell 3
  have fc1 := hc.frozen 1
  have fc3 := hc.frozen 3
  have fr0 := hy2.frozen 0
  have fr1 := hy2.frozen 1
  have fr2 := hy2.frozen 2
  have fr3 := hy2.frozen 3
  have hRC : w.heap.size + 1 ≠ C := by omega
  have hCR : C ≠ w.heap.size + 1 := by omega
  have hXC : w.heap.size ≠ C := by omega
  have hCX : C ≠ w.heap.size := by omega
  have HB := hid hbel
  have hCw : w.heap.size <= C := by omega
  clear hc hx2 hy2 hbel
  by_cases h30 : k2 = 30
  ·have t1 : ((k2 : Int) == 30) = true := by simp; omega
   have hk3 : k3 < 1099511627776 := B4.out
   cases fg with
   | true =>
     go_wp2_with fail
     refine (D3.out _).mono ?_
     rintro e w1 ⟨rfl,rfl⟩
     go_wp2_with fail
     refine (D4.out _).mono ?_
     rintro e w1 ⟨rfl,rfl⟩
     go_wp2
     refine bodyPost_ret (v := gval ⟨a,1 + (k3 : Int),true,⟨#[]⟩⟩) (by simp [gval,results,Tryz.results41,go_sem,hRC,hCR,r0,r1,r2,r3]) rfl ⟨⟨a,1 + (k3 : Int),true,⟨#[]⟩⟩,rfl,may_mk (by omega) (by omega) (by omega) (by omega) (by intro h; first | rfl | cases h) (by first | exact HCV.out | exact Nat.zero_le _),?_⟩
     exact (((((HB.out.setCell (by exact hCw) _).setCell (by exact Nat.le_succ _) _).setCell (by exact Nat.le_succ _) _).setCell (by exact Nat.le_succ _) _).setCell (by exact Nat.le_succ _) _)
   | false =>
     go_wp2_with fail
     refine (D3.out _).mono ?_
     rintro e w1 ⟨rfl,rfl⟩
     go_wp2_with fail
     refine (D4.out _).mono ?_
     rintro e w1 ⟨rfl,rfl⟩
     go_wp2_with fail
     refine (CV.out _).mono ?_
     rintro e w1 ⟨rfl,rfl⟩
     go_wp2
     refine bodyPost_ret (v := gval ⟨a,1 + (k3 : Int),false,str (fv.data.toList.take 32)⟩) (by simp [gval,results,Tryz.results41,go_sem,hRC,hCR,r0,r1,r2,r3]) rfl ⟨⟨a,1 + (k3 : Int),false,str (fv.data.toList.take 32)⟩,rfl,may_mk (by omega) (by omega) (by omega) (by omega) (by intro h; first | rfl | cases h) (by first | exact HCV.out | exact Nat.zero_le _),?_⟩
     exact ((((((HB.out.setCell (by exact hCw) _).setCell (by exact hCw) _).setCell (by exact Nat.le_succ _) _).setCell (by exact Nat.le_succ _) _).setCell (by exact Nat.le_succ _) _).setCell (by exact Nat.le_succ _) _)
  ·have t1 : ((k2 : Int) == 30) = false := by simp; omega
   cases fg with
   | true =>
     go_wp2_with fail
     refine (D3.out _).mono ?_
     rintro e w1 ⟨rfl,rfl⟩
     go_wp2
     refine bodyPost_ret (v := gval ⟨a,1 + (k1 : Int),true,⟨#[]⟩⟩) (by simp [gval,results,Tryz.results41,go_sem,hRC,hCR,r0,r1,r2,r3]) rfl ⟨⟨a,1 + (k1 : Int),true,⟨#[]⟩⟩,rfl,may_mk (by omega) (by omega) (by omega) (by omega) (by intro h; first | rfl | cases h) (by first | exact HCV.out | exact Nat.zero_le _),?_⟩
     exact ((((HB.out.setCell (by exact Nat.le_succ _) _).setCell (by exact Nat.le_succ _) _).setCell (by exact Nat.le_succ _) _).setCell (by exact Nat.le_succ _) _)
   | false =>
     go_wp2_with fail
     refine (D3.out _).mono ?_
     rintro e w1 ⟨rfl,rfl⟩
     go_wp2_with fail
     refine (CV.out _).mono ?_
     rintro e w1 ⟨rfl,rfl⟩
     go_wp2
     refine bodyPost_ret (v := gval ⟨a,1 + (k1 : Int),false,str (fv.data.toList.take 32)⟩) (by simp [gval,results,Tryz.results41,go_sem,hRC,hCR,r0,r1,r2,r3]) rfl ⟨⟨a,1 + (k1 : Int),false,str (fv.data.toList.take 32)⟩,rfl,may_mk (by omega) (by omega) (by omega) (by omega) (by intro h; first | rfl | cases h) (by first | exact HCV.out | exact Nat.zero_le _),?_⟩
     exact (((((HB.out.setCell (by exact hCw) _).setCell (by exact Nat.le_succ _) _).setCell (by exact Nat.le_succ _) _).setCell (by exact Nat.le_succ _) _).setCell (by exact Nat.le_succ _) _)
theorem all_snoc {α : Type} {l : List α} {p : α -> Prop} {x : α} (h : ∀ y ∈ l,p y) (hx : p x) : ∀ y ∈ l ++ [x],p y := by
 intro y hy
 rcases List.mem_append.1 hy with hy | hy
 ·exact h y hy
 ·rw [List.mem_singleton] at hy
  subst hy
  exact hx
def SomeCh (N M : Nat) (w : World) (e : Ending) (w' : World) : Prop := ∃ (l : List Ch) (A : Option Addr) (n c : Nat),e = .returned (.slice A n c) /\ n <= M /\ w'.ownsRow w.heap.size 64 4 (.slice A n c) n (gv l) /\ (∀ f ∈ l,f.may N = true) /\ Below w.heap.size w w'
def SomeRel (N M : Nat) (w : World) (n : Nat) (v i : Value) (wr : World) : Prop := ∃ (k : Nat) (l : List Ch) (A : Option Addr) (c : Nat),k <= n /\ k <= M /\ i = .int .i64 k /\ v = .slice A k c /\ wr.ownsRow w.heap.size 64 4 (.slice A k c) k (gv l) /\ (∀ f ∈ l,f.may N = true) /\ Below w.heap.size w wr
theorem pchanges_any (N M : Nat) (hN : 1 <= N) (hN8 : N <= 8) (hM : M <= 1000) (B : Nat) (A : Option Addr) (n c : Nat) (l : List Ch) (w : World) (h : Cs w B A n c l) (hB : B <= w.heap.size) (hok : ∀ f ∈ l,f.val.size <= 9223372036854775807) :
 Calls Tryz.prog 13 #[.slice A n c,.int .i64 N,.int .i64 M] w (SomeCh N M w) := by
 have hle := h.le
 have HR := hid h
 have HOK := hid hok
 clear h hok
 go_enter Tryz.func13,Tryz.ntmps13
 go_wp2
 go_loopw [7,8] (fun v i wr => SomeRel N M w n v i wr) (fun _ i _ => n - (RowKit.intOf i).toNat)
 case atStart => exact ⟨0,[],none,0,by omega,by omega,rfl,rfl,World.ownsRow_nil _ _ _ _,(fun f hf => by cases hf),Below.refl _ _⟩
 case round =>
  obtain ⟨k,pre,A1,c1,hk,hk5,rfl,rfl,hown,hall,hbel⟩ := hrel
  have HO := hid hown
  have HA := hid hall
  have HB := hid hbel
  have hz := hbel.size
  clear hown hall hbel
  by_cases hgo : k < n /\ k < M
  ·obtain ⟨hlt,hlt5⟩ := hgo
   obtain ⟨b,off,f,rfl,hb,q0,q1,q2,q3,hget,_⟩ := (HR.out.below (HB.out.mono hB)).at_ hlt
   have HG := hid (HOK.out f (List.mem_of_getElem? hget))
   clear hget
   have l1 : (k : Int) < (n : Int) := by omega
   have l2 : (k : Int) < (M : Int) := by omega
   go_wp2_with fail
   refine (pchange_any N hN hN8 f _ HG.out).mono ?_
   rintro e w2 ⟨f2,rfl,hm2,hb2⟩
   have HM2 := hid hm2
   have HB2 := hid (held_call HB.out hb2 : Below w.heap.size w w2)
   have HO2 := hid (own_keep HO.out hb2)
   have hz2 : w.heap.size <= w2.heap.size := HB2.out.size
   clear hm2 hb2
   unfold gval
   go_wp2_with (first
    | (at_builtin
       refine wpList_append_row rfl (.tmp 20) (.tmp 27) rfl ech w.heap.size _ k (gv pre) rfl (own_keep HO2.out ((Below.refl _ _).alloc (Nat.le_refl _) _)) _ _ 1 1 (gv [f2]) rfl (one_ch w2 f2 rfl) (gv_one _) (by omega) (by omega) (by simp; omega) ?_
       intro A3 c3 w3 hown3 _ hb3
       rw [<- gv_append] at hown3
       have HO3 := hid hown3
       have HB3 := hid ((HB2.out.alloc hz2 _).trans hb3)
       clear hown3 hb3)
    | fail)
   go_roundw
   case rel => exact ⟨k + 1,pre ++ [f2],A3,c3,by omega,by omega,by go_num,rfl,HO3.out,all_snoc HA.out HM2.out,HB3.out⟩
   case measure => simp [RowKit.intOf]; omega
  ·by_cases hkn : k < n
   all_goals
    have h5 : k < n -> ¬ k < M := fun h h5 => hgo ⟨h,h5⟩
    clear hgo
   ·have l1 : (k : Int) < (n : Int) := by omega
    have l2 : ¬ (k : Int) < (M : Int) := by omega
    go_wp2
    go_ret
    exact ⟨pre,A1,k,c1,rfl,hk5,HO.out,HA.out,HB.out⟩
   ·have l1 : ¬ (k : Int) < (n : Int) := by omega
    go_wp2
    go_ret
    exact ⟨pre,A1,k,c1,rfl,hk5,HO.out,HA.out,HB.out⟩
end PChg
namespace Tbl
open Go.RowKit Base IdxMath Foot Idx
open PChg (gcells gval gv gv_cons gv_length gv_get Cs)
def Did (w : World) (F : Nat -> Prop) (p : Nat) (l : List Rw) (e : Ending) (w' : World) : Prop :=
 e = .returned (.tuple #[]) /\ IdxAt w' (Out F w w') p l /\ Turn F w w'
theorem out_from {F : Nat -> Prop} {w wa w1 : World} {i : Nat} (h : w.heap.size <= wa.heap.size) (hi : Out F wa w1 i) : Out F w w1 i := hi.imp id fun k => ⟨Nat.le_trans h k.1,k.2⟩
theorem apply_any (F : Nat -> Prop) (p : Nat) (l : List Rw) (c : Cg) (w : World) (h : IdxAt w F p l) (hsz : l.length <= 1099511627774) :
 Calls Tryz.prog 175 #[.agg #[.pointer (some ⟨p,0,none⟩)],gval c] w (Did w F p (one l c)) := by
 obtain ⟨t,k,gone,v⟩ := c
 have hb : Below w.heap.size w ((w.alloc (.cells #[.pointer (some ⟨p,0,none⟩)] 122)).alloc (.cells #[.int .i64 t,.int .i64 k,.bool gone,.string v] 64)) :=
  ((Below.refl _ _).alloc (Nat.le_refl _) _).alloc (by simp) _
 have HI := hid (h.new hb)
 have HT : Hid (Turn F w _) := Turn.new hb
 clear h hb
 unfold gval
 dsimp only
 cases gone with
 | true =>
   go_enter Tryz.func175,Tryz.ntmps175
   go_wp2_with fail
   refine (del_any F p l k _ HI.out hsz).mono ?_
   rintro e w1 ⟨rfl,h1,h2⟩
   have H1 := hid (And.intro h1 h2)
   clear h1 h2
   go_wp2
   go_end0
   exact ⟨rfl,H1.out.1.mono fun i hi hO => out_from HT.out.size hO,HT.out.trans H1.out.2 fun _ h => .inl h⟩
 | false =>
   go_enter Tryz.func175,Tryz.ntmps175
   go_wp2_with fail
   refine (put_any F p l k v _ HI.out hsz).mono ?_
   rintro e w1 ⟨rfl,h1,h2⟩
   have H1 := hid (And.intro h1 h2)
   clear h1 h2
   go_wp2
   go_end0
   exact ⟨rfl,H1.out.1.mono fun i hi hO => out_from HT.out.size hO,HT.out.trans H1.out.2 fun _ h => .inl h⟩
theorem hasAll_any (F : Nat -> Prop) (p : Nat) (T : List (List Rw)) (A : Option Addr) (n c : Nat) (l : List Cg) (w : World) (h : SetAt w F p T) (hl : Cs w w.heap.size A n c l) :
 Calls Tryz.prog 166 #[.pointer (some ⟨p,0,none⟩),.slice A n c] w fun e w' => e = .returned (.bool (allT T l)) /\ Below w.heap.size w w' := by
 have HS := hid h
 have HC := hid hl
 have hle := hl.le
 have HL := hid hl.len
 clear h hl
 go_enter Tryz.func166,Tryz.ntmps166
 go_wp2
 go_loopw [9] (fun vi wr => ∃ k : Nat,vi = .int .i64 k /\ k <= n /\ allT T (l.take k) = true /\ Below w.heap.size w wr) (fun vi _ => n - (RowKit.intOf vi).toNat)
 case atStart => exact ⟨0,rfl,Nat.zero_le _,rfl,Below.refl _ _⟩
 case round =>
  obtain ⟨k,rfl,hk,hall,hb⟩ := hrel
  have HB := hid hb
  have HA := hid hall
  clear hb hall
  by_cases hkn : k < n
  ·obtain ⟨b,off,f,rfl,hbB,c0,c1,c2,c3,hf,ht⟩ := (HC.out.below HB.out).at_ hkn
   have l1 : (k : Int) < (n : Int) := by omega
   have HT := hid ht
   have HF := hid hf
   obtain ⟨ft,fk,fg,fv⟩ := f
   dsimp only at c0 c1 c2 c3
   clear hf ht
   have HW1 : Hid (Below w.heap.size w (wr.alloc (.cells #[.int .i64 ft,.int .i64 fk,.bool fg,.string fv] 64))) := HB.out.alloc HB.out.size _
   go_wp2_with fail
   refine (has_any F p T ft _ (HS.out.new HW1.out)).mono ?_
   rintro e w1 ⟨rfl,rfl⟩
   cases hT : isT T ft with
   | true =>
     have HX : Hid (allT T (l.take (k + 1)) = true) := by show _ = _; rw [HT.out,allT_snoc,HA.out]; exact hT
     clear hT
     go_wp2
     refine ⟨⟨k + 1,by rw [Int.natCast_add]; rfl,hkn,HX.out,HW1.out⟩,?_⟩; simp only [RowKit.intOf,Int.toNat_natCast]; omega
   | false =>
     have HX := hid (allT_not HF.out hT)
     clear hT
     go_wp2
     go_ret
     exact ⟨by rw [HX.out]; rfl,HW1.out⟩
  ·have l1 : decide ((k : Int) < (n : Int)) = false := decide_eq_false (by omega)
   obtain rfl : k = n := by omega
   rw [show l.take k = l by rw [<- HL.out,List.take_length]] at HA
   go_wp2
   go_ret
   exact ⟨by rw [HA.out]; rfl,HB.out⟩
end Tbl
end Go.Proofs.YtefnmnpfecfdaaaGreat
