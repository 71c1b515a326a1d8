/-
  Texts of one proof: WalRead, TxnMem, TxnMay, TxnFields.
-/
import Derived.Test.YtefnmnpfecfdaaaGreatPf25
set_option linter.all false
set_option maxRecDepth 100000
set_option maxHeartbeats 3200000
open Go.Lib (hid)
namespace Go.Proofs.YtefnmnpfecfdaaaGreat
namespace Wal
open Go.RowKit Base WalMath
open Go.Sort (grow)
open Disk (DiskAt I64 Fits)
open Foot (Turn Out)
open DiskMath (Fl Dk)
theorem above_any (G : Nat -> Prop) (g gd : Nat) (l : Lg) (lsn : Int) (i p q : Nat) (s : Sg) (w : World) (h : LogAt G w g gd l) (hs : l.segs[i]? = some s) (hp : w.cell? ⟨p,0,none⟩ = some (.pointer (some ⟨g,0,none⟩))) (hq : w.cell? ⟨q,0,none⟩ = some (.int .i64 lsn)) :
 Calls Tryz.prog 115 #[.int .i64 i,.pointer (some ⟨p,0,none⟩),.pointer (some ⟨q,0,none⟩)] w fun e w' => e = .returned (.bool (decide (lsn < s.first))) /\ ∃ m,w' = w.drewN m := by
 obtain ⟨A,n,c,qs,lp,h⟩ := h
 have c0 := h.cells.1
 obtain ⟨b,q,rfl,_,_,hb,hpn,⟨hnc,hcm⟩,_,k0,k1,k2,k3⟩ := h.at_ hs
 clear h hs k0 k2 k3
 generalize s.first = x at *
 go_enter Tryz.func115,Tryz.ntmps115
 go_wp2
 go_quiet (fail)
 go_wp2
 go_ret
 exact ⟨rfl,nq,rfl⟩
theorem count_upto (n k : Nat) (p : Nat -> Bool) (hk : k < n) (h1 : ∀ i,i <= k -> p i = false) (h2 : ∀ i,k < i -> i < n -> p i = true) : (List.range n).countP (fun i => !p i) = k + 1 := by
 induction n with
 | zero => omega
 | succ n ih =>
   rw [List.range_succ,List.countP_append,List.countP_singleton]
   by_cases hkn : k = n
   ·subst hkn
    rw [h1 k (Nat.le_refl _)]
    have : (List.range k).countP (fun i => !p i) = k := by
     have := List.countP_eq_length (p := fun i => !p i) (l := List.range k)
     rw [List.length_range] at this
     rw [this]
     intro a ha
     rw [List.mem_range] at ha
     simp [h1 a (by omega)]
    rw [this]
    simp
   ·rw [ih (by omega) (fun i hi hin => h2 i hi (by omega)),h2 n (by omega) (by omega)]
    simp
theorem below_grow (w : World) (q : Nat) (os : Array Obj) : Below w.heap.size w (grow (w.drewN q) os) := Go.Proofs.below_grown_sl _ _ _ _ (Nat.le_refl _)
def firstAt (l : List Sg) (i : Nat) : Int := ((l[i]?).map Sg.first).getD 0
theorem search_any (G : Nat -> Prop) (g gd : Nat) (l : Lg) (lsn : Int) (k p q : Nat) (w : World) (h : LogAt G w g gd l) (hp : w.cell? ⟨p,0,none⟩ = some (.pointer (some ⟨g,0,none⟩))) (hq : w.cell? ⟨q,0,none⟩ = some (.int .i64 lsn)) (hN : l.segs.length <= 16384) (hk : k < l.segs.length)
 (hbs : ∀ (j : Nat) (t : Sg),l.segs[j]? = some t -> (j <= k -> t.first <= lsn) /\ (k < j -> lsn < t.first)) :
 Calls Tryz.prog 114 #[.int .i64 l.segs.length,.func (.func 115) #[] #[.pointer (some ⟨p,0,none⟩),.pointer (some ⟨q,0,none⟩)]] w fun e w' => e = .returned (.int .i64 (k + 1 : Nat)) /\ Below w.heap.size w w' := by
 have eg : ∀ args w,(callFunc 115 args).run Tryz.prog w = .ok (.enter 115 args) w := enters_of Tryz.func115 (by kernel_rfl) rfl
 have hat : ∀ i,i < l.segs.length -> ∃ t,l.segs[i]? = some t /\ firstAt l.segs i = t.first := fun i hi => ⟨l.segs[i],List.getElem?_eq_getElem hi,by rw [firstAt,List.getElem?_eq_getElem hi]; rfl⟩
 have hc := Go.Proofs.Any.sort_Search Tryz.searchA 115 #[.pointer (some ⟨p,0,none⟩),.pointer (some ⟨q,0,none⟩)] l.segs.length (fun i => decide (lsn < firstAt l.segs i)) w eg (by omega)
  (fun m os i hi => by
    obtain ⟨t,ht,hf⟩ := hat i hi
    have hb := below_grow w m os
    refine (above_any G g gd l lsn i p q t _ (h.new hb) ht (held_cell hb hp) (held_cell hb hq)).mono ?_
    rintro e w' ⟨rfl,r,rfl⟩
    exact ⟨by rw [hf],r,#[],by simp⟩)
  (fun a b hab hb hpa => by
    obtain ⟨t,ht,hf⟩ := hat a (by omega)
    obtain ⟨u,hu,hg⟩ := hat b hb
    rw [hf] at hpa
    rw [hg]
    simp only [decide_eq_true_eq] at hpa ⊢
    have h1 := hbs a t ht
    have h2 := hbs b u hu
    rcases Nat.lt_or_ge k b with hkb | hkb
    ·exact h2.2 hkb
    ·have := h1.1 (by omega); omega)
 change Calls Tryz.prog 114 _ _ _ at hc
 refine hc.mono ?_
 rintro e w' ⟨rfl,r,os,rfl⟩
 refine ⟨?_,below_grow w r os⟩
 rw [count_upto l.segs.length k _ hk (fun i hi => ?_) (fun i hi hin => ?_)]
 ·obtain ⟨t,ht,hf⟩ := hat i (by omega)
  rw [hf]
  have := (hbs i t ht).1 hi
  simpa using this
 ·obtain ⟨t,ht,hf⟩ := hat i hin
  rw [hf]
  have := (hbs i t ht).2 hi
  simpa using this
theorem readyes_any (G : Nat -> Prop) (g gd : Nat) (l : Lg) (lsn : Int) (k : Nat) (s : Sg) (p : List UInt8) (w : World) (h : LogAt G w g gd l) (ho : ∀ s ∈ l.segs,SgOk s) (hN : l.segs.length <= 16384) (hlo : low l.segs <= lsn) (hhi : lsn <= hd l.segs)
 (hs : l.segs[k]? = some s) (h0 : s.first <= lsn) (h1 : lsn - s.first < s.rows.length) (hp : s.rows[(lsn - s.first).toNat]? = some p) (hbs : ∀ (j : Nat) (t : Sg),l.segs[j]? = some t -> (j <= k -> t.first <= lsn) /\ (k < j -> lsn < t.first)) :
 Calls Tryz.prog 50 #[.pointer (some ⟨g,0,none⟩),.int .i64 lsn] w (ReadS w (some p)) := by
 have HL := hid h
 have HO := hid ho
 have HS := hid hs
 have HBS := hid hbs
 have HP := hid hp
 have hsk := ho s (List.mem_of_getElem? hs)
 have hpl : p.length <= 1048576 := hsk.2.2.2.2.2 p (List.mem_of_getElem? hp)
 obtain ⟨_,_,hf1,hf2,_,_⟩ := hsk
 clear h ho hs hbs hp
 have HW : Hid (Below w.heap.size w ((w.alloc (.cells #[.pointer (some ⟨g,0,none⟩)] 179)).alloc (.cells #[.int .i64 lsn] 2))) := ((Below.refl _ _).alloc (Nat.le_refl _) _).alloc (by simp) _
 have hc0 : ((w.alloc (.cells #[.pointer (some ⟨g,0,none⟩)] 179)).alloc (.cells #[.int .i64 lsn] 2)).cell? ⟨w.heap.size,0,none⟩ = some (.pointer (some ⟨g,0,none⟩)) := by simp
 have hc1 : ((w.alloc (.cells #[.pointer (some ⟨g,0,none⟩)] 179)).alloc (.cells #[.int .i64 lsn] 2)).cell? ⟨w.heap.size + 1,0,none⟩ = some (.int .i64 lsn) := by simp
 have hd1 : decide (lsn < low l.segs) = false := by simpa using hlo
 have hd2 : decide (hd l.segs < lsn) = false := by simpa using hhi
 clear hlo hhi
 generalize hlo : low l.segs = lo at hd1
 generalize hhi : hd l.segs = hi at hd2
 have HLO := hid hlo
 have HHI := hid hhi
 clear hlo hhi
 go_enter Tryz.func50,Tryz.ntmps50
 go_wp2_with fail
 generalize (w.alloc (.cells #[.pointer (some ⟨g,0,none⟩)] 179)).alloc (.cells #[.int .i64 lsn] 2) = W at hc0 hc1 HW ⊢
 generalize hs0 : w.heap.size = s0 at hc0 hc1
 have HS0 := hid hs0
 clear hs0
 have HLW := hid (HL.out.new HW.out)
 go_region_held3 (fun w' => w'.cell? ⟨s0,0,none⟩ = some (.pointer (some ⟨g,0,none⟩)) /\ w'.cell? ⟨s0 + 1,0,none⟩ = some (.int .i64 lsn) /\ Below W.heap.size W w')
  (first
    | exact held2 (held_start W) hc0 hc1
    | assumption
    | (go_split_ands; exact held2 (held_call (by assumption) hbc) hc0 hc1)
    | fail)
  (first
    | (go_at_call 49; go_split_ands; refine (low_any G g gd l _ (HLW.out.new (by assumption))).mono ?_; rintro e wc ⟨rfl,rfl⟩; rw [HLO.out])
    | (go_at_call 48; go_split_ands; refine (head_any G g gd l _ (HLW.out.new (by assumption)) HO.out).mono ?_; rintro e wc ⟨rfl,hbc⟩; rw [HHI.out])
    | fail)
 have HB2 := hid (held_call (held_start W) hbc)
 clear hbc hd1 hd2
 have HL2 := hid (HLW.out.new HB2.out)
 have e0 := held_cell HB2.out hc0
 have e1 := held_cell HB2.out hc1
 have HE0 := hid e0
 have HE1 := hid e1
 have HB3 := hid (held_two HW.out HB2.out)
 clear hc0 hc1 HW HB2 HLW
 obtain ⟨A,n,c,qs,lp,hL⟩ := HL2.out
 have c0 := hL.cells.1
 have hlen := hL.len
 obtain ⟨b,q,rfl,_,_,hb,hpn,⟨hnc,hcm⟩,hE,k0,k1,k2,k3⟩ := hL.at_ HS.out
 have HEn := hid hE
 have HSE := hid (search_any G g gd l lsn k s0 (s0 + 1) _ HL2.out e0 e1 hN (by rw [hlen]; exact hpn) HBS.out)
 rw [hlen] at HSE
 clear hL hE hlen
 have hwk : IntKind.i64.wrap ((k + 1 : Nat) - 1 : Int) = k := by rw [IntWalk.i64_in _ (by omega)]; omega
 generalize wc = w2 at *
 go_wp2_with fail
 refine HSE.out.mono ?_
 rintro e w3 ⟨rfl,hb3⟩
 have HB4 := hid (held_two HB3.out hb3)
 replace e0 := held_cell hb3 e0
 replace e1 := held_cell hb3 e1
 replace c0 := held_cell hb3 c0
 replace k0 := held_cell hb3 k0
 replace k1 := held_cell hb3 k1
 replace k2 := held_cell hb3 k2
 replace k3 := held_cell hb3 k3
 have HEn3 := hid (HEn.out.below hb3)
 clear hb3 HEn HSE
 obtain ⟨j,hj⟩ := Int.eq_ofNat_of_zero_le (show 0 <= lsn - s.first by omega)
 have hjr : j < s.rows.length := by omega
 obtain ⟨b2,o2,A4,n4,c4,p4,hA4,hb4,hcell4,hy4,hget4,_⟩ := HEn3.out.lists.at_ (k := j) hjr
 have hpp : p4 = p := by
  have := HP.out
  rw [hj,Int.toNat_natCast,hget4] at this
  exact Option.some.inj this
 subst hpp
 have hn4 := hy4.len
 rw [hA4] at k2
 have hlen4 := HEn3.out.lists.le
 have HY4 := hid hy4
 have hwj : IntKind.i64.wrap (lsn - s.first) = j := by rw [IntWalk.i64_in _ (by omega)]; exact hj
 have hp4 : n4 <= 140737488355328 := by omega
 clear hA4 hget4 hy4 HP HBS HS HL HO HLO HHI HE0 HE1 hN HEn3 HL2
 generalize s.rows.length = r at *
 generalize s.file = f at *
 generalize s.first = x at *
 generalize s.size = z at *
 generalize q.c = cq at *
 subst hn4
 have e1' : ∀ o,(w3.alloc o).cell? ⟨s0 + 1,0,none⟩ = some (.int .i64 lsn) := fun o => Lib.cell?_alloc_some o e1
 have hcell5 : ∀ o,(w3.alloc o).cell? ⟨b2,o2 + j,none⟩ = some (.slice A4 p4.length c4) := fun o => Lib.cell?_alloc_some o hcell4
 go_wp2_with fail
 refine (Disk.clone_any w3.heap.size A4 _ c4 p4 _ (HY4.out.alloc (Nat.le_refl _) _) (by simp) hp4).mono ?_
 rintro e w4 ⟨A5,c5,rfl,hown5,hb5⟩
 have HO5 := hid (own_mono hown5 (Nat.le_trans HB4.out.size (by simp)))
 have HB5 := hid (held_two (held_alloc HB4.out _) hb5)
 clear hown5 hb5
 go_wp2
 go_ret2
 exact ⟨A5,c5,rfl,HO5.out,HB5.out⟩
theorem read_any (G : Nat -> Prop) (g gd : Nat) (l : Lg) (lsn : Int) (w : World) (h : LogAt G w g gd l) (ho : ∀ s ∈ l.segs,SgOk s) (hN : l.segs.length <= 16384) (hr : Runs (low l.segs) l.segs) :
 Calls Tryz.prog 50 #[.pointer (some ⟨g,0,none⟩),.int .i64 lsn] w (ReadS w (entry l.segs lsn)) := by
 unfold entry
 by_cases hn : low l.segs <= lsn /\ lsn <= hd l.segs
 ·rw [if_pos hn]
  have h0 : l.segs ≠ [] := fun e => by
   rw [e] at hn
   have a : low [] = 1 := rfl
   have b : hd [] = 0 := rfl
   omega
  have hh := runs_hd hr h0
  obtain ⟨k,s,h1,h2,h3,h4,h5⟩ := runs_at hr hn.1 (by omega)
  have hlt : (lsn - s.first).toNat < s.rows.length := by omega
  rw [List.getElem?_eq_getElem hlt] at h4
  rw [<- h4]
  exact readyes_any G g gd l lsn k s _ w h ho hN hn.1 hn.2 h1 h2 h3 (List.getElem?_eq_getElem hlt) h5
 ·rw [if_neg hn]
  exact readno_any G g gd l lsn w h ho hn
end Wal
namespace Txn
open Go.RowKit Base FieldMath TxnMath
open Field (ret_bool empty_iff)
def ccells (c : Ch) : List Value := [.int .i64 c.tbl,.int .i64 c.key,.bool c.gone,.string c.val]
def cv (l : List Ch) : List Value := l.flatMap ccells
theorem cv_append (l m : List Ch) : cv (l ++ m) = cv l ++ cv m := List.flatMap_append
theorem cv_length (l : List Ch) : (cv l).length = l.length * 4 := by
 induction l with
 | nil => rfl
 | cons f l ih =>
   show (ccells f ++ cv l).length = _
   rw [List.length_append,ih,List.length_cons]
   show 4 + l.length * 4 = _
   omega
theorem cv_one (l : List Ch) : ∀ u ∈ cv l,u.oneCell' = true := by
 intro u hu
 obtain ⟨f,_,hf⟩ := List.mem_flatMap.1 hu
 simp only [ccells,List.mem_cons,List.not_mem_nil,or_false] at hf
 rcases hf with rfl | rfl | rfl | rfl <;> rfl
theorem cv_get (l : List Ch) (k : Nat) (f : Ch) (h : l[k]? = some f) (i : Nat) (hi : i < 4) : (cv l)[k * 4 + i]? = (ccells f)[i]? := by
 induction l generalizing k with
 | nil => simp at h
 | cons g l ih =>
   show (ccells g ++ cv l)[k * 4 + i]? = _
   cases k with
   | zero =>
     simp only [List.getElem?_cons_zero,Option.some.injEq] at h
     subst h
     rw [List.getElem?_append_left (by show 0 * 4 + i < 4; omega)]
     congr 1
     omega
   | succ k =>
     rw [List.getElem?_cons_succ] at h
     rw [List.getElem?_append_right (by show 4 <= (k + 1) * 4 + i; omega),<- ih k h]
     congr 1
     show (k + 1) * 4 + i - 4 = _
     omega
def Chs (w : World) (B : Nat) (A : Option Addr) (n c : Nat) (l : List Ch) : Prop := Row w B 4 A n c (cv l)
def sv (l : List ByteArray) : List Value := l.map .string
theorem sv_one (l : List ByteArray) : ∀ u ∈ sv l,u.oneCell' = true := by
 intro u hu
 obtain ⟨f,_,rfl⟩ := List.mem_map.1 hu
 rfl
def Sigs (w : World) (B : Nat) (A : Option Addr) (n c : Nat) (l : List ByteArray) : Prop := Row w B 1 A n c (sv l)
section
variable {w w' : World} {B B' n c : Nat} {A : Option Addr} {l : List Ch} {m : List ByteArray}
theorem Chs.len (h : Chs w B A n c l) : l.length = n := by have := h.1; rw [cv_length] at this; omega
theorem Chs.le (h : Chs w B A n c l) : n <= c /\ c <= 9223372036854775807 := ⟨h.2.1,h.2.2.1⟩
theorem Chs.below (h : Chs w B A n c l) (hb : Below B w w') : Chs w' B A n c l := Row.below h hb
theorem Chs.at_ (h : Chs w B A n c l) {k : Nat} (hk : k < n) :
 ∃ b off f,A = some ⟨b,off,none⟩ /\ b < B /\ w.cell? ⟨b,off + k * 4,none⟩ = some (.int .i64 f.tbl) /\ w.cell? ⟨b,off + k * 4 + 1,none⟩ = some (.int .i64 f.key) /\ w.cell? ⟨b,off + k * 4 + 2,none⟩ = some (.bool f.gone) /\ w.cell? ⟨b,off + k * 4 + 3,none⟩ = some (.string f.val) /\
   l[k]? = some f /\ l.take (k + 1) = l.take k ++ [f] := by
 obtain ⟨b,off,e,hb,hc⟩ := h.2.2.2 (by omega)
 have hl : k < l.length := by rw [h.len]; exact hk
 have hg : l[k]? = some l[k] := List.getElem?_eq_getElem hl
 refine ⟨b,off,l[k],e,hb,?_,?_,?_,?_,hg,List.take_succ_eq_append_getElem hl⟩
 ·exact hc (k * 4 + 0) _ (by rw [cv_get l k _ hg 0 (by omega)]; rfl)
 ·exact hc (k * 4 + 1) _ (by rw [cv_get l k _ hg 1 (by omega)]; rfl)
 ·exact hc (k * 4 + 2) _ (by rw [cv_get l k _ hg 2 (by omega)]; rfl)
 ·exact hc (k * 4 + 3) _ (by rw [cv_get l k _ hg 3 (by omega)]; rfl)
theorem Sigs.len (h : Sigs w B A n c m) : m.length = n := by have := h.1; rw [sv,List.length_map] at this; omega
theorem Sigs.below (h : Sigs w B A n c m) (hb : Below B w w') : Sigs w' B A n c m := Row.below h hb
theorem Sigs.at_ (h : Sigs w B A n c m) {k : Nat} (hk : k < n) :
 ∃ b off s,A = some ⟨b,off,none⟩ /\ b < B /\ w.cell? ⟨b,off + k,none⟩ = some (.string s) /\ m[k]? = some s /\ m.take (k + 1) = m.take k ++ [s] := by
 obtain ⟨b,off,e,hb,hc⟩ := h.2.2.2 (by omega)
 have hl : k < m.length := by rw [h.len]; exact hk
 have hg : m[k]? = some m[k] := List.getElem?_eq_getElem hl
 exact ⟨b,off,m[k],e,hb,hc k _ (by rw [sv,List.getElem?_map,hg]; rfl),hg,List.take_succ_eq_append_getElem hl⟩
end
def chv (c : Ch) : Value := .agg #[.int .i64 c.tbl,.int .i64 c.key,.bool c.gone,.string c.val]
def txv (lsn kind mark : Int) (A : Option Addr) (n c : Nat) (A' : Option Addr) (n' c' : Nat) : Value := .agg #[.int .i64 lsn,.int .i64 kind,.slice A n c,.slice A' n' c',.int .i64 mark]
theorem mayLsn_any (n : Int) (w : World) : Calls Tryz.prog 188 #[.int .i64 n] w fun e w' => e = .returned (.bool (mayLsn n)) /\ w = w' := by
 by_cases h1 : 1 <= n
 ·have HE := hid (show decide (n <= 1099511627776) = mayLsn n by unfold mayLsn; rw [decide_eq_true h1,Bool.true_and])
  go_enter Tryz.func188,Tryz.ntmps188
  go_wp2
  go_ret
  exact ⟨ret_bool HE.out,rfl⟩
 ·have HE := hid (show false = mayLsn n by unfold mayLsn; rw [decide_eq_false h1,Bool.false_and])
  go_enter Tryz.func188,Tryz.ntmps188
  go_wp2
  go_ret
  exact ⟨ret_bool HE.out,rfl⟩
theorem maychange_any (t k : Int) (g : Bool) (v : ByteArray) (n : Int) (w : World) : Calls Tryz.prog 165 #[.agg #[.int .i64 t,.int .i64 k,.bool g,.string v],.int .i64 n] w fun e w' => e = .returned (.bool (Ch.may n ⟨t,k,g,v⟩)) /\ Below w.heap.size w w' := by
 by_cases h1 : t < 0
 ·go_enter Tryz.func165,Tryz.ntmps165
  go_wp2
  go_ret
  exact ⟨ret_bool (by simp [Ch.may]; omega),(Below.refl _ _).alloc (Nat.le_refl _) _⟩
 ·by_cases h2 : n <= t
  ·go_enter Tryz.func165,Tryz.ntmps165
   go_wp2
   go_ret
   exact ⟨ret_bool (by simp [Ch.may]; omega),(Below.refl _ _).alloc (Nat.le_refl _) _⟩
  ·by_cases h3 : k < 1
   ·go_enter Tryz.func165,Tryz.ntmps165
    go_wp2
    go_ret
    exact ⟨ret_bool (by simp [Ch.may]; omega),(Below.refl _ _).alloc (Nat.le_refl _) _⟩
   ·by_cases h4 : 1099511627776 < k
    ·go_enter Tryz.func165,Tryz.ntmps165
     go_wp2
     go_ret
     exact ⟨ret_bool (by simp [Ch.may]; omega),(Below.refl _ _).alloc (Nat.le_refl _) _⟩
    ·cases g with
     | true =>
       go_enter Tryz.func165,Tryz.ntmps165
       go_wp2
       go_ret
       exact ⟨ret_bool (by simp [Ch.may,empty_iff,show 0 <= t by omega,show t < n by omega,show 1 <= k by omega,show k <= 1099511627776 by omega]),(Below.refl _ _).alloc (Nat.le_refl _) _⟩
     | false =>
       go_enter Tryz.func165,Tryz.ntmps165
       go_wp2
       go_ret
       exact ⟨ret_bool (by simp [Ch.may,show 0 <= t by omega,show t < n by omega,show 1 <= k by omega,show k <= 1099511627776 by omega]; omega),(Below.refl _ _).alloc (Nat.le_refl _) _⟩
def MayRel (w : World) (l : List Ch) (n : Nat) (i : Value) (wr : World) : Prop := ∃ k : Nat,k <= n /\ i = .int .i64 k /\ (∀ f ∈ l.take k,f.may 8 = true) /\ Below w.heap.size w wr
theorem all_take {α : Type} {l : List α} {p : α -> Bool} {n : Nat} (hl : l.length <= n) (h : ∀ f ∈ l.take n,p f = true) : l.all p = true := by
 rw [List.take_of_length_le hl] at h
 exact List.all_eq_true.2 h
theorem all_not {α : Type} {l : List α} {p : α -> Bool} {k : Nat} {f : α} (hg : l[k]? = some f) (h : p f = false) : l.all p = false := by
 rw [Bool.eq_false_iff]
 intro h2
 rw [List.all_eq_true.1 h2 f (List.mem_of_getElem? hg)] at h
 cases h
theorem take_all {α : Type} {l : List α} {p : α -> Bool} {k : Nat} {f : α} (h : ∀ x ∈ l.take k,p x = true) (e : l.take (k + 1) = l.take k ++ [f]) (hf : p f = true) : ∀ x ∈ l.take (k + 1),p x = true := by
 intro x hx
 rw [e] at hx
 rcases List.mem_append.1 hx with hx | hx
 ·exact h x hx
 ·rw [List.mem_singleton] at hx
  subst hx
  exact hf
theorem mayChanges_any (B : Nat) (A : Option Addr) (n c : Nat) (l : List Ch) (w : World) (h : Chs w B A n c l) (hB : B <= w.heap.size) : Calls Tryz.prog 189 #[.slice A n c] w fun e w' => e = .returned (.bool (mayChs l)) /\ Below w.heap.size w w' := by
 have hlen := h.len
 have HL := hid hlen
 have HR := hid h
 clear h
 by_cases h16 : 16 < n
 ·have HE := hid (show mayChs l = false by unfold mayChs; rw [hlen]; simp; omega)
  clear hlen
  go_enter Tryz.func189,Tryz.ntmps189
  go_wp2
  go_ret
  exact ⟨ret_bool (a := false) HE.out.symm,Below.refl _ _⟩
 ·have HE := hid (show mayChs l = l.all (Ch.may 8) by unfold mayChs; rw [hlen,decide_eq_true (by omega),Bool.true_and])
  clear hlen
  go_enter Tryz.func189,Tryz.ntmps189
  go_wp2
  go_loopw [10] (fun i wr => MayRel w l n i wr) (fun i _ => n - (RowKit.intOf i).toNat)
  case atStart => exact ⟨0,Nat.zero_le _,rfl,(fun f hf => by simp at hf),Below.refl _ _⟩
  case round =>
   obtain ⟨k,hk,rfl,hall,hbel⟩ := hrel
   have HA := hid hall
   have HB := hid hbel
   clear hall hbel
   by_cases hlt : k < n
   ·obtain ⟨b,off,f,rfl,hb,c0,c1,c2,c3,hget,htake⟩ := (HR.out.below (HB.out.mono hB)).at_ hlt
    have HG := hid hget
    have HT := hid htake
    clear hget htake
    obtain ⟨t,ky,g,v⟩ := f
    dsimp only at c0 c1 c2 c3
    have HBl := hid (show Below w.heap.size w (wr.alloc (.cells #[.int .i64 t,.int .i64 ky,.bool g,.string v] 64)) from HB.out.alloc HB.out.size _)
    cases hm : Ch.may 8 ⟨t,ky,g,v⟩ with
    | true =>
      have HM := hid hm
      go_wp2_with fail
      refine (maychange_any t ky g v 8 _).mono ?_
      rintro e w1 ⟨rfl,hb1⟩
      rw [HM.out]
      have HB1 := hid (held_two HBl.out hb1)
      clear hb1 hm
      go_wp2
      go_roundw
      case rel => exact ⟨k + 1,by omega,by go_num,take_all HA.out HT.out HM.out,HB1.out⟩
      case measure => simp [RowKit.intOf]; omega
    | false =>
      have HM := hid hm
      go_wp2_with fail
      refine (maychange_any t ky g v 8 _).mono ?_
      rintro e w1 ⟨rfl,hb1⟩
      rw [HM.out]
      have HB1 := hid (held_two HBl.out hb1)
      clear hb1 hm
      go_wp2
      go_ret
      exact ⟨ret_bool (a := false) (by rw [HE.out,all_not HG.out HM.out]),HB1.out⟩
   ·go_wp2
    go_ret
    exact ⟨ret_bool (a := true) (by rw [HE.out,all_take (n := k) (by rw [HL.out]; omega) HA.out]),HB.out⟩
def SigRel (m : List ByteArray) (n : Nat) (i : Value) : Prop := ∃ k : Nat,k <= n /\ i = .int .i64 k /\ ∀ f ∈ m.take k,decide (f.size <= 40) = true
theorem maySignals_any (B : Nat) (A : Option Addr) (n c : Nat) (l : List ByteArray) (w : World) (h : Sigs w B A n c l) : Calls Tryz.prog 190 #[.slice A n c] w fun e w' => e = .returned (.bool (maySigs l)) /\ w = w' := by
 have hlen := h.len
 have HL := hid hlen
 have HR := hid h
 clear h
 by_cases h2 : 2 < n
 ·have HE := hid (show maySigs l = false by unfold maySigs; rw [hlen]; simp; omega)
  clear hlen
  go_enter Tryz.func190,Tryz.ntmps190
  go_wp2
  go_ret
  exact ⟨ret_bool (a := false) HE.out.symm,rfl⟩
 ·have HE := hid (show maySigs l = l.all (fun s => decide (s.size <= 40)) by unfold maySigs; rw [hlen,decide_eq_true (by omega),Bool.true_and])
  clear hlen
  go_enter Tryz.func190,Tryz.ntmps190
  go_wp2
  go_loop [10] (fun i => SigRel l n i) (fun i => n - (RowKit.intOf i).toNat)
  case atStart => exact ⟨0,Nat.zero_le _,rfl,fun f hf => by simp at hf⟩
  case round =>
   obtain ⟨k,hk,rfl,hall⟩ := hrel
   have HA := hid hall
   clear hall
   by_cases hlt : k < n
   ·obtain ⟨b,off,s,rfl,hb,c0,hget,htake⟩ := HR.out.at_ hlt
    have HG := hid hget
    have HT := hid htake
    clear hget htake
    by_cases hs : s.size <= 40
    ·have HM := hid (decide_eq_true hs)
     go_wp2
     go_round
     case rel => exact ⟨k + 1,by omega,by go_num,take_all HA.out HT.out HM.out⟩
     case measure => simp [RowKit.intOf]; omega
    ·have HM := hid (decide_eq_false hs)
     go_wp2
     go_ret
     exact ⟨ret_bool (a := false) (by rw [HE.out,all_not HG.out HM.out]),rfl⟩
   ·go_wp2
    go_ret
    exact ⟨ret_bool (a := true) (by rw [HE.out,all_take (n := k) (by rw [HL.out]; omega) HA.out]),rfl⟩
end Txn
namespace Txn
open Go.RowKit Base FieldMath TxnMath
open Field (ret_bool empty_iff)
theorem beq_nat (n : Nat) : ((n : Int) == 0) = (true && (0 == 0 && n == 0)) := by rw [Bool.eq_iff_iff]; simp
theorem may_lsn {lsn kind mark : Int} {l : List Ch} {m : List ByteArray} (h : mayLsn lsn = false) : Tx.may ⟨lsn,kind,l,m,mark⟩ = false := by unfold Tx.may; rw [h]; rfl
theorem may_one {lsn mark : Int} {l : List Ch} {m : List ByteArray} (h : mayLsn lsn = true) : Tx.may ⟨lsn,1,l,m,mark⟩ = (mark == 0 && (mayChs l && maySigs m)) := by unfold Tx.may; rw [h]; rfl
theorem may_two {lsn kind mark : Int} {l : List Ch} {m : List ByteArray} (h : mayLsn lsn = true) (hk : kind = 2 \/ kind = 3) : Tx.may ⟨lsn,kind,l,m,mark⟩ = (mayLsn mark && (l.length == 0 && m.length == 0)) := by
 unfold Tx.may
 dsimp only
 rw [h,if_neg (by omega),if_pos hk]
 rfl
theorem may_none {lsn kind mark : Int} {l : List Ch} {m : List ByteArray} (h : mayLsn lsn = true) (h1 : kind ≠ 1) (h2 : kind ≠ 2) (h3 : kind ≠ 3) : Tx.may ⟨lsn,kind,l,m,mark⟩ = false := by
 unfold Tx.may
 dsimp only
 rw [h,if_neg h1,if_neg (by omega)]
 rfl
theorem may_any (B : Nat) (lsn kind mark : Int) (A : Option Addr) (n c : Nat) (l : List Ch) (A' : Option Addr) (n' c' : Nat) (m : List ByteArray) (w : World) (h1 : Chs w B A n c l) (h2 : Sigs w B A' n' c' m) (hB : B <= w.heap.size) :
 Calls Tryz.prog 120 #[.agg #[.int .i64 lsn,.int .i64 kind,.slice A n c,.slice A' n' c',.int .i64 mark]] w fun e w' => e = .returned (.bool (Tx.may ⟨lsn,kind,l,m,mark⟩)) /\ Below w.heap.size w w' := by
 have HL := hid (fun w => mayLsn_any lsn w)
 have HK := hid (fun w => mayLsn_any mark w)
 have HN := hid h1.len
 have HN' := hid h2.len
 have HW : Hid (Below w.heap.size w (w.alloc (.cells #[.int .i64 lsn,.int .i64 kind,.slice A n c,.slice A' n' c',.int .i64 mark] 39))) := (Below.refl _ _).alloc (Nat.le_refl _) _
 have hX : Blk (w.alloc (.cells #[.int .i64 lsn,.int .i64 kind,.slice A n c,.slice A' n' c',.int .i64 mark] 39)) w.heap.size 39 #[.int .i64 lsn,.int .i64 kind,.slice A n c,.slice A' n' c',.int .i64 mark] := Blk.new _ _ _
 have HX := hid hX
 have HC := hid (h1.below (HW.out.mono hB))
 have HS := hid (h2.below (HW.out.mono hB))
 have HBW := hid (Nat.le_trans hB HW.out.size)
 clear h1 h2 hX
 cases hl : mayLsn lsn with
 | false =>
   have HE := hid (may_lsn (kind := kind) (mark := mark) (l := l) (m := m) hl)
   rw [hl] at HL
   clear hl
   go_enter Tryz.func120,Tryz.ntmps120
   go_wp2_with (first | (go_at_call 188; refine (HL.out _).mono ?_; rintro e w1 ⟨rfl,rfl⟩) | fail)
   go_ret
   exact ⟨ret_bool (a := false) HE.out.symm,HW.out⟩
 | true =>
   have H1 := hid hl
   rw [hl] at HL
   clear hl
   by_cases k1 : kind = 1
   ·subst k1
    by_cases hm : mark = 0
    ·subst hm
     cases hc : mayChs l with
     | false =>
       have HE := hid (show Tx.may ⟨lsn,1,l,m,0⟩ = false by rw [may_one H1.out,hc]; rfl)
       have CC := hid (mayChanges_any B A n c l _ HC.out HBW.out)
       rw [hc] at CC
       clear hc
       go_enter Tryz.func120,Tryz.ntmps120
       go_wp2_with (first
        | (go_at_call 188; refine (HL.out _).mono ?_; rintro e w1 ⟨rfl,rfl⟩)
        | (go_at_call 189; refine CC.out.mono ?_; rintro e w1 ⟨rfl,hb1⟩; have HB1 := hid (held_two HW.out hb1); clear hb1)
        | fail)
       go_ret
       exact ⟨ret_bool (a := false) HE.out.symm,HB1.out⟩
     | true =>
       have HE := hid (show Tx.may ⟨lsn,1,l,m,0⟩ = maySigs m by rw [may_one H1.out,hc]; simp)
       have CC := hid (mayChanges_any B A n c l _ HC.out HBW.out)
       rw [hc] at CC
       clear hc
       go_enter Tryz.func120,Tryz.ntmps120
       go_wp2_with fail
       refine (HL.out _).mono ?_
       rintro e w1 ⟨rfl,rfl⟩
       go_wp2_with fail
       refine CC.out.mono ?_
       rintro e w1 ⟨rfl,hb1⟩
       have HB1 := hid (held_two HW.out hb1)
       have HX1 := hid (HX.out.below hb1 (by simp))
       have x3 : w1.cell? ⟨w.heap.size,3,none⟩ = some (.slice A' n' c') := HX1.out.cell 3
       have HS1 := hid (HS.out.below (hb1.mono HBW.out))
       clear hb1 CC
       go_wp2_with fail
       refine (maySignals_any B A' n' c' m _ HS1.out).mono ?_
       rintro e w2 ⟨rfl,rfl⟩
       go_wp2
       go_ret
       exact ⟨ret_bool HE.out.symm,HB1.out⟩
    ·have HE := hid (show Tx.may ⟨lsn,1,l,m,mark⟩ = false by rw [may_one H1.out]; simp [hm])
     have hm' : (mark == 0) = false := by simpa using hm
     clear hm
     go_enter Tryz.func120,Tryz.ntmps120
     go_wp2_with (first | (go_at_call 188; refine (HL.out _).mono ?_; rintro e w1 ⟨rfl,rfl⟩) | fail)
     go_ret
     exact ⟨ret_bool (a := false) HE.out.symm,HW.out⟩
   ·have k1' : (kind == 1) = false := by simpa using k1
    by_cases k23 : kind = 2 \/ kind = 3
    ·have HE := hid (may_two (mark := mark) (l := l) (m := m) H1.out k23)
     rw [HN.out,HN'.out] at HE
     generalize mayLsn mark = mk at *
     rcases k23 with rfl | rfl
     all_goals (
      cases mk with
      | false =>
        clear k1 k1'
        go_enter Tryz.func120,Tryz.ntmps120
        go_wp2_with fail
        refine (HL.out _).mono ?_
        rintro e w1 ⟨rfl,rfl⟩
        go_wp2_with fail
        refine (HK.out _).mono ?_
        rintro e w1 ⟨rfl,rfl⟩
        go_wp2
        go_ret
        exact ⟨ret_bool (a := false) (by rw [HE.out]; rfl),HW.out⟩
      | true =>
        clear k1 k1'
        by_cases hn0 : n = 0
        ·subst hn0
         go_enter Tryz.func120,Tryz.ntmps120
         go_wp2_with fail
         refine (HL.out _).mono ?_
         rintro e w1 ⟨rfl,rfl⟩
         go_wp2_with fail
         refine (HK.out _).mono ?_
         rintro e w1 ⟨rfl,rfl⟩
         go_wp2
         go_ret
         exact ⟨ret_bool (by rw [HE.out]; exact beq_nat n'),HW.out⟩
        ·have hn1 : ((n : Int) == 0) = false := by simpa using hn0
         have hn2 : (n == 0) = false := by simpa using hn0
         clear hn0
         go_enter Tryz.func120,Tryz.ntmps120
         go_wp2_with fail
         refine (HL.out _).mono ?_
         rintro e w1 ⟨rfl,rfl⟩
         go_wp2_with fail
         refine (HK.out _).mono ?_
         rintro e w1 ⟨rfl,rfl⟩
         go_wp2
         go_ret
         exact ⟨ret_bool (a := false) (by rw [HE.out,hn2]; rfl),HW.out⟩)
    ·have HE := hid (may_none (mark := mark) (l := l) (m := m) H1.out k1 (fun e => k23 (.inl e)) (fun e => k23 (.inr e)))
     have k2' : (kind == 2) = false := by simp; omega
     have k3' : (kind == 3) = false := by simp; omega
     clear k1 k23
     go_enter Tryz.func120,Tryz.ntmps120
     go_wp2_with (first | (go_at_call 188; refine (HL.out _).mono ?_; rintro e w1 ⟨rfl,rfl⟩) | fail)
     go_ret
     exact ⟨ret_bool (a := false) HE.out.symm,HW.out⟩
end Txn
namespace Txn
open Go.RowKit Base FieldMath TxnMath
open Field (fv fv_append fv_one fv_length Flds ef ret_bool empty_iff Encoded)
theorem cnumber_any (n : Int) (w : World) :
 Calls Tryz.prog 219 #[.int .i64 n] w fun e w' => e = .returned (.agg #[.int .i64 1,.int .i64 n,.string ⟨#[]⟩]) /\ Below w.heap.size w w' := by
 go_enter Tryz.func219,Tryz.ntmps219
 go_wp2
 exact bodyPost_ret (v := .agg #[.int .i64 1,.int .i64 n,.string ⟨#[]⟩]) (by simp [results,Tryz.results219,go_sem]) rfl ⟨rfl,(Below.refl _ _).alloc (Nat.le_refl _) _⟩
theorem ctext_any (s : ByteArray) (w : World) :
 Calls Tryz.prog 221 #[.string s] w fun e w' => e = .returned (.agg #[.int .i64 2,.int .i64 0,.string s]) /\ Below w.heap.size w w' := by
 go_enter Tryz.func221,Tryz.ntmps221
 go_wp2
 exact bodyPost_ret (v := .agg #[.int .i64 2,.int .i64 0,.string s]) (by simp [results,Tryz.results221,go_sem]) rfl ⟨rfl,(Below.refl _ _).alloc (Nat.le_refl _) _⟩
theorem yes_any (b : Bool) (w : World) :
 Calls Tryz.prog 220 #[.bool b] w fun e w' => e = .returned (.agg #[.int .i64 1,.int .i64 (flag b),.string ⟨#[]⟩]) /\ Below w.heap.size w w' := by
 cases b with
 | true =>
   go_enter Tryz.func220,Tryz.ntmps220
   go_wp2_with fail
   refine (cnumber_any _ _).mono ?_
   rintro e w1 ⟨rfl,hb⟩
   have hx : Blk w1 w.heap.size 143 #[.int .i64 0,.int .i64 0,.string ⟨#[]⟩] := (Blk.new w _ _).below hb (by simp)
   have f0 := hx.frozen 0
   have f1 := hx.frozen 1
   have f2 := hx.frozen 2
   have k0 : w1.cell? ⟨w.heap.size,0,none⟩ = some (.int .i64 0) := hx.cell 0
   have k1 : w1.cell? ⟨w.heap.size,1,none⟩ = some (.int .i64 0) := hx.cell 1
   have k2 : w1.cell? ⟨w.heap.size,2,none⟩ = some (.string ⟨#[]⟩) := hx.cell 2
   have HB : Hid (Below w.heap.size w w1) := ((Below.refl _ _).alloc (Nat.le_refl _) _).trans (hb.mono (by simp))
   clear hb hx
   go_wp2
   exact bodyPost_ret (v := .agg #[.int .i64 1,.int .i64 1,.string ⟨#[]⟩]) (by simp [results,Tryz.results220,go_sem,k0,k1,k2]) rfl ⟨rfl,((HB.out.setCell (by exact Nat.le_refl _) _).setCell (by exact Nat.le_refl _) _).setCell (by exact Nat.le_refl _) _⟩
 | false =>
   go_enter Tryz.func220,Tryz.ntmps220
   go_wp2_with fail
   refine (cnumber_any _ _).mono ?_
   rintro e w1 ⟨rfl,hb⟩
   have hx : Blk w1 w.heap.size 143 #[.int .i64 0,.int .i64 0,.string ⟨#[]⟩] := (Blk.new w _ _).below hb (by simp)
   have f0 := hx.frozen 0
   have f1 := hx.frozen 1
   have f2 := hx.frozen 2
   have k0 : w1.cell? ⟨w.heap.size,0,none⟩ = some (.int .i64 0) := hx.cell 0
   have k1 : w1.cell? ⟨w.heap.size,1,none⟩ = some (.int .i64 0) := hx.cell 1
   have k2 : w1.cell? ⟨w.heap.size,2,none⟩ = some (.string ⟨#[]⟩) := hx.cell 2
   have HB : Hid (Below w.heap.size w w1) := ((Below.refl _ _).alloc (Nat.le_refl _) _).trans (hb.mono (by simp))
   clear hb hx
   go_wp2
   exact bodyPost_ret (v := .agg #[.int .i64 1,.int .i64 0,.string ⟨#[]⟩]) (by simp [results,Tryz.results220,go_sem,k0,k1,k2]) rfl ⟨rfl,((HB.out.setCell (by exact Nat.le_refl _) _).setCell (by exact Nat.le_refl _) _).setCell (by exact Nat.le_refl _) _⟩
def Gath (w : World) (g : Nat) (l : List Fld) : Prop := ∃ A c,Blk w g 287 #[.slice A l.length c] /\ w.ownsRow (g + 1) 143 3 (.slice A l.length c) l.length (fv l)
theorem Gath.new {w w' : World} {g : Nat} {l : List Fld} (h : Gath w g l) (hb : Below w.heap.size w w') : Gath w' g l := by
 obtain ⟨A,c,h1,h2⟩ := h
 exact ⟨A,c,h1.below hb h1.lt,own_keep h2 hb⟩
theorem Gath.alloc {w : World} {g : Nat} {l : List Fld} (h : Gath w g l) (o : Obj) : Gath (w.alloc o) g l := h.new ((Below.refl _ _).alloc (Nat.le_refl _) o)
theorem Gath.lt {w : World} {g : Nat} {l : List Fld} (h : Gath w g l) : g < w.heap.size := by
 obtain ⟨A,c,h1,_⟩ := h
 exact h1.lt
def Added (w : World) (g : Nat) (l : List Fld) (w' : World) : Prop := Gath w' g l /\ Below g w w' /\ ∀ b T cs,Blk w b T cs -> b ≠ g -> T ≠ 143 -> Blk w' b T cs
theorem add_any (g : Nat) (l m : List Fld) (B : Nat) (A' : Option Addr) (n' c' : Nat) (w : World) (h : Gath w g l) (hm : Flds w B A' n' c' m) (hl : l.length <= 1000000) (hn : n' <= 1000000) :
 Calls Tryz.prog 218 #[.pointer (some ⟨g,0,none⟩),.slice A' n' c'] w fun e w' => e = .returned (.tuple #[]) /\ Added w g (l ++ m) w' := by
 have hml := hm.len
 have HML := hid hml
 have HM := hid hm
 obtain ⟨A,c,hb,ho⟩ := h
 have hlt := hb.lt
 have k0 : w.cell? ⟨g,0,none⟩ = some (.slice A l.length c) := hb.cell 0
 have f0 := hb.frozen 0
 have HX := hid hb
 have HO := hid ho
 clear hb ho hm hml
 go_enter Tryz.func218,Tryz.ntmps218
 go_wp2_with (first
  | (at_builtin
     refine wpList_append_row rfl (.tmp 8) (.tmp 9) rfl ef (g + 1) _ l.length (fv l) rfl HO.out B A' n' c' (fv m) rfl HM.out (fv_one _) (by omega) (by omega) (by omega) ?_
     intro A2 c2 w2 hown2 hg2 hb2
     rw [<- fv_append] at hown2
     have hx2 : Blk w2 g 287 #[.slice A l.length c] := HX.out.below hb2 (by omega)
     have k2 : w2.cell? ⟨g,0,none⟩ = some (.slice A l.length c) := hx2.cell 0
     have f2 := hx2.frozen 0
     have HX2 := hid hx2
     have HO2 := hid hown2
     have HG2 := hid hg2
     have HB2 := hid hb2
     clear hown2 hg2 hb2 hx2)
  | fail)
 go_end0
 have hll : (l ++ m).length = l.length + n' := by rw [List.length_append,HML.out]
 have hne : ∀ k,(Value.slice A2 (l.length + n') c2).ownBlock = some k -> k ≠ g := fun k hk => by have := (HO2.out.lt k hk).1; omega
 refine ⟨rfl,⟨A2,c2,?_,?_⟩,(HB2.out.mono (by omega)).setCell (by exact Nat.le_refl _) _,fun b T cs hbk hbg hT => ?_⟩
 ·rw [hll]
  exact HX2.out.set_ 0 _
 ·rw [hll]
  exact HO2.out.kept (only_setCell (World.grownBy.refl _ (some g)) (.inl rfl) _) (.inr fun e => by exact hne g e rfl)
 ·have h1 : Blk w2 b T cs := hbk.grown HG2.out.1 (fun e => by
   rcases HO.out.2 with ⟨hv,_⟩ | ⟨k,cap,cur,hv,_,hk,_⟩
   ·rw [hv] at e; cases e
   ·rw [hv] at e
    obtain rfl : b = k := by simp only [Value.ownBlock] at e; injection e
    unfold Blk at hbk
    rw [hbk] at hk
    injection hk with hk
    injection hk with _ h3
    exact hT h3)
  exact h1.far (by exact hbg) _
end Txn
end Go.Proofs.YtefnmnpfecfdaaaGreat
