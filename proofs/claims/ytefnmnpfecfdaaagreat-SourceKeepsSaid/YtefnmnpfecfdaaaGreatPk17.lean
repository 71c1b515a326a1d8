/-
  Texts of one proof: TblApply, IdxRef, IdxHelp, TblSeen, IdxOpen, ChgLists, Eb.
-/
import Derived.Test.YtefnmnpfecfdaaaGreatPk16
set_option linter.all false
set_option maxRecDepth 100000
set_option maxHeartbeats 3200000
open Go.Lib (hid)
namespace Go.Proofs.YtefnmnpfecfdaaaGreat
namespace Tbl
open Go.RowKit Base IdxMath Foot Idx
open PChg (gcells gval gv gv_cons gv_length gv_get Cs)
theorem Lie.step {w w' : World} {F : Nat -> Prop} {p b : Nat} {ps : List Nat} {G : Nat -> Nat -> Prop} {T : List (List Rw)} (h : Lie w F p b ps G T) {i : Nat} (hi : i < T.length) {q : Nat} {l' : List Rw}
 (hqi : ps[i]? = some q) (hq : IdxAt w' (Out (G i) w w') q l') (ht : Turn (G i) w w') : SetAt w' (Out F w w') p (T.set i l') /\ Turn F w w' := by
 have hplt := h.box.lt
 have hblt := h.row.lt
 have hsz := ht.size
 have hip : i < ps.length := by rw [h.len]; exact hi
 have hTF : Turn F w w' := ⟨ht.os,ht.tape,ht.output,ht.size,fun x hx hn => ht.block x hx fun hg => hn (h.ing i x hi hx hg).1⟩
 refine ⟨⟨b,ps,fun j x => if j = i then Out (G i) w w' x else G j x /\ x < w.heap.size,?_⟩,hTF⟩
 refine ⟨?_,?_,by rw [List.length_set,h.len],by rw [List.length_set]; exact h.most,by rw [List.length_set]; exact h.some_,.inl h.inp,.inl h.inb,h.ne,?_,?_,?_⟩
 ·rw [List.length_set]
  exact (ht.block p hplt fun hg => (h.ing i p hi hplt hg).2.1 rfl).trans h.box
 ·exact (ht.block b hblt fun hg => (h.ing i b hi hblt hg).2.2 rfl).trans h.row
 ·intro j q' l h1 h2
  by_cases hj : j = i
  ·subst hj
   rw [List.getElem?_set_self hi] at h2
   obtain rfl := Option.some.inj h2
   rw [hqi] at h1
   obtain rfl := Option.some.inj h1
   exact hq.mono fun x hx hG => by rw [if_pos rfl]; exact hG
  ·rw [List.getElem?_set_ne (fun e => hj e.symm)] at h2
   have hjl : j < T.length := (List.getElem?_eq_some_iff.1 h2).1
   refine ((h.each j q' l h1 h2).mono (F' := fun x => if j = i then Out (G i) w w' x else G j x /\ x < w.heap.size) fun x hx hG => ?_).keep fun x hx hG => ?_
   ·rw [if_neg hj]; exact ⟨hG,hx⟩
   ·rw [if_neg hj] at hG
    exact ht.block x hx fun hg => h.apart j i x hjl hi hj hx hG.1 hg
 ·intro j x hj hx hG
  rw [List.length_set] at hj
  by_cases hji : j = i
  ·rw [if_pos hji] at hG
   rcases Nat.lt_or_ge x w.heap.size with hxl | hxl
   ·rcases hG with hG | hG
    ·have := h.ing i x hi hxl hG
     exact ⟨.inl this.1,this.2⟩
    ·omega
   ·exact ⟨.inr ⟨hxl,hx⟩,by omega,by omega⟩
  ·rw [if_neg hji] at hG
   have := h.ing j x hj hG.2 hG.1
   exact ⟨.inl this.1,this.2⟩
 ·intro j k x hj hk hjk hx h1 h2
  rw [List.length_set] at hj hk
  by_cases hji : j = i
  ·rw [if_pos hji] at h1
   rw [if_neg (fun e => hjk (hji.trans e.symm))] at h2
   rcases h1 with h1 | h1
   ·exact h.apart i k x hi hk (fun e => hjk (hji.trans e)) h2.2 h1 h2.1
   ·omega
  ·rw [if_neg hji] at h1
   by_cases hki : k = i
   ·rw [if_pos hki] at h2
    rcases h2 with h2 | h2
    ·exact h.apart i j x hi hj (fun e => hji e.symm) h1.2 h2 h1.1
    ·omega
   ·rw [if_neg hki] at h2
    exact h.apart j k x hj hk hjk h1.2 h1.1 h2.1
theorem step_set {F : Nat -> Prop} {w wr wa w2 : World} {p : Nat} {T : List (List Rw)} (h1 : Turn F w wr) (h2 : Below wr.heap.size wr wa) (h3 : SetAt w2 (Out (Out F w wr) wa w2) p T) (h4 : wa.heap.size <= w2.heap.size) : SetAt w2 (Out F w w2) p T := by
 have e1 := h1.size
 have e2 := h2.size
 refine h3.mono fun i hi h => ?_
 rcases h with (h | h) | h
 ·exact .inl h
 ·exact .inr ⟨h.1,hi⟩
 ·exact .inr ⟨by omega,hi⟩
theorem apply_set (F : Nat -> Prop) (p : Nat) (T : List (List Rw)) (M : Nat) (A : Option Addr) (n c : Nat) (l : List Cg) (w : World) (h : SetAt w F p T) (hl : ∀ wr,Turn F w wr -> Cs wr wr.heap.size A n c l) (hM : Most T M) (hsz : M + n <= 1099511627774) :
 Calls Tryz.prog 105 #[.pointer (some ⟨p,0,none⟩),.slice A n c] w (SetTurned w F p (allT T l) (appl T l)) := by
 have HH := hid (hasAll_any F p T A n c l w h (hl w (.refl _ _)))
 have HS := hid h
 have HC := hid hl
 have HLEN := hid (hl w (.refl _ _)).len
 have hle := (hl w (.refl _ _)).le
 have HM := hid hM
 clear h hl hM
 cases ht : allT T l with
 | false =>
   have HT := hid ht
   clear ht
   go_enter Tryz.func105,Tryz.ntmps105
   go_wp2_with fail
   refine HH.out.mono ?_
   rintro e w1 ⟨rfl,hb⟩
   rw [HT.out]
   have HB1 := hid hb
   clear hb
   go_wp2
   go_ret
   refine ⟨rfl,?_,Turn.new HB1.out⟩
   unfold appl
   rw [HT.out]
   exact (HS.out.new HB1.out).mono fun i _ hi => .inl hi
 | true =>
   have HT := hid ht
   clear ht
   go_enter Tryz.func105,Tryz.ntmps105
   go_wp2_with fail
   refine HH.out.mono ?_
   rintro e w1 ⟨rfl,hb⟩
   rw [HT.out]
   have HB1 := hid hb
   clear hb
   go_wp2
   go_loopw [13,6] (fun vi _ wr => ∃ k : Nat,vi = .int .i64 k /\ k <= n /\ SetAt wr (Out F w wr) p (doAll T (l.take k)) /\ Most (doAll T (l.take k)) (M + k) /\ Turn F w wr) (fun vi _ _ => n - (RowKit.intOf vi).toNat)
   case atStart => exact ⟨0,rfl,Nat.zero_le _,(HS.out.new HB1.out).mono fun i _ hi => .inl hi,HM.out,Turn.new HB1.out⟩
   case round =>
    obtain ⟨k,rfl,hk,hset,hmost,hturn⟩ := hrel
    by_cases hkn : k < n
    ·obtain ⟨b,off,f,rfl,hbB,c0,c1,c2,c3,hf,ht⟩ := (HC.out wr hturn).at_ hkn
     have hft := allT_at HT.out hf
     obtain ⟨ft,fk,fg,fv⟩ := f
     dsimp only at c0 c1 c2 c3 hft
     obtain ⟨i,rfl,hi⟩ := isT_nat hft
     have hi2 : i < (doAll T (l.take k)).length := by rw [doAll_length]; exact hi
     have hnew : doAll T (l.take (k + 1)) = (doAll T (l.take k)).set i (one (tab (doAll T (l.take k)) (i : Int)) ⟨i,fk,fg,fv⟩) := by rw [ht,doAll_snoc,do1,Int.toNat_natCast]
     have hmost2 : Most (doAll T (l.take (k + 1))) (M + (k + 1)) := by
      rw [ht,doAll_snoc]
      exact hmost.do1 (by rw [isT_length (doAll_length _ _)]; exact hft)
     have hshort := hmost (i : Int)
     generalize hTT : doAll T (l.take k) = TT at *
     generalize hTN : doAll T (l.take (k + 1)) = TN at *
     have HTN := hid hTN
     clear hTN
     obtain ⟨bb,ps,G,hX⟩ := hset
     have hb01 : Below wr.heap.size wr (wr.alloc (.cells #[.int .i64 i,.int .i64 fk,.bool fg,.string fv] 64)).drew := ((Below.refl _ _).alloc (Nat.le_refl _) _).drew
     have hX1 := hX.keep hb01.size fun x hx _ => hb01.block x hx
     obtain ⟨q,l0,e1,e2,d1,hq0⟩ := hX.get hi2
     have d0 : wr.cell? ⟨p,0,none⟩ = some (.slice (some ⟨bb,0,none⟩) TT.length TT.length) := hX.box.cell 0
     have d2 : wr.cell? ⟨bb,i,none⟩ = some (.pointer (some ⟨q,0,none⟩)) := d1
     have hpl : p < wr.heap.size := hX.box.lt
     have hbl : bb < wr.heap.size := hX.row.lt
     have HQ := hid (hX1.each i q l0 e1 e2)
     have htab := tab_get hi2 e2
     rw [htab] at hnew hshort
     subst hnew
     have HX1 := hid (And.intro hX1 e1)
     have HTU := hid (And.intro hturn hb01)
     have HMO := hid hmost2
     have l1 : (k : Int) < (n : Int) := by omega
     have l2 : (i : Int) < (TT.length : Int) := by omega
     have hs0 : l0.length <= 1099511627774 := by omega
     clear hX hX1 e1 e2 d1 hq0 htab hturn hb01 hmost hmost2 hf ht hft hTT hshort
     go_wp2_with fail
     go_region_with (first
      | (go_at_call 175; refine (apply_any _ q l0 ⟨i,fk,fg,fv⟩ _ HQ.out hs0).mono ?_; rintro e w2 ⟨rfl,h1,h2⟩; have H2 := hid (And.intro h1 h2); clear h1 h2)
      | fail)
     all_goals (go_wp2; refine ⟨⟨k + 1,by rw [Int.natCast_add]; rfl,hkn,by rw [HTN.out]; exact step_set HTU.out.1 HTU.out.2 (HX1.out.1.step hi2 HX1.out.2 H2.out.1 H2.out.2).1 H2.out.2.size,by rw [HTN.out]; exact HMO.out,?_⟩,by simp only [RowKit.intOf,Int.toNat_natCast]; omega⟩)
     all_goals exact HTU.out.1.two ((Turn.new HTU.out.2).trans (HX1.out.1.step hi2 HX1.out.2 H2.out.1 H2.out.2).2 fun _ h => .inl h)
    ·have l1 : decide ((k : Int) < (n : Int)) = false := decide_eq_false (by omega)
     obtain rfl : k = n := by omega
     rw [show l.take k = l by rw [<- HLEN.out,List.take_length]] at hset
     have HSE := hid (And.intro hset hturn)
     clear hset hturn hmost
     go_wp2
     go_ret
     refine ⟨rfl,?_,HSE.out.2⟩
     unfold appl
     rw [HT.out]
     exact HSE.out.1
end Tbl
namespace Idx
open Go.RowKit Base IdxMath Foot
open Go.Sort (grow)
def Rz (w : World) (B : Nat) (A : Option Addr) (n c : Nat) (l : List Rw) : Prop := Rs w B A n c l /\ (A = none -> c = 0)
theorem Rz.of_own {w : World} {A : Option Addr} {n c base : Nat} {l : List Rw} (h : w.ownsRow base 52 2 (.slice A n c) n (rv l)) : Rz w w.heap.size A n c l := by
 refine ⟨Rs.of_own h,fun hA => ?_⟩
 subst hA
 rcases h.2 with ⟨hv,h1⟩ | ⟨g,cap,cur,hv,_⟩
 ·simp only [Value.slice.injEq] at hv; exact hv.2.2
 ·simp only [Value.slice.injEq] at hv
  obtain ⟨h1,_⟩ := hv
  cases h1
theorem one_row (w : World) (k : Int) (v : ByteArray) {s : Nat} (hs : s = w.heap.size) : Row (w.alloc (.cells #[.int .i64 k,.string v] 52)) (w.heap.size + 1) 2 (some ⟨s,0,none⟩) 1 1 (rv [⟨k,v⟩]) :=
 Row.lit w #[.int .i64 k,.string v] 52 (0,0) hs rfl (by omega)
theorem take_ne {l : List Rw} {k : Int} {i : Nat} {x : Rw} (h : ∀ y ∈ l.take i,y.key ≠ k) (ht : l.take (i + 1) = l.take i ++ [x]) (hk : x.key ≠ k) : ∀ y ∈ l.take (i + 1),y.key ≠ k := fun y hy => by
 rw [ht] at hy
 rcases List.mem_append.1 hy with hy | hy
 ·exact h y hy
 ·rw [List.mem_singleton] at hy
  subst hy
  exact hk
theorem pos_step {l : List Rw} {k : Int} {i : Nat} {x : Rw} (hi : i <= pos l k) (hx : l[i]? = some x) (h : x.key < k) : i + 1 <= pos l k := by
 induction l generalizing i with
 | nil => simp at hx
 | cons y r ih =>
   unfold pos at hi ⊢
   by_cases hy : y.key < k
   ·rw [if_pos hy] at hi ⊢
    cases i with
    | zero => omega
    | succ i => have := ih (i := i) (by omega) (by simpa using hx); omega
   ·rw [if_neg hy] at hi
    obtain rfl : i = 0 := by omega
    simp at hx
    subst hx
    exact absurd h hy
theorem pos_stop {l : List Rw} {k : Int} {i : Nat} {x : Rw} (hi : i <= pos l k) (hx : l[i]? = some x) (h : ¬ x.key < k) : i = pos l k := by
 induction l generalizing i with
 | nil => simp at hx
 | cons y r ih =>
   unfold pos at hi ⊢
   by_cases hy : y.key < k
   ·rw [if_pos hy] at hi ⊢
    cases i with
    | zero =>
      simp at hx
      subst hx
      exact absurd hy h
    | succ i => have := ih (i := i) (by omega) (by simpa using hx); omega
   ·rw [if_neg hy] at hi ⊢
    omega
def PutR (w : World) (l : List Rw) (k : Int) (v : ByteArray) (e : Ending) (w' : World) : Prop :=
 ∃ A c,e = .returned (.tuple #[.slice A (put l k v).length c,.bool (!there l k)]) /\ w'.ownsRow w.heap.size 52 2 (.slice A (put l k v).length c) (put l k v).length (rv (put l k v)) /\ Below w.heap.size w w'
theorem refput_any (B : Nat) (A : Option Addr) (n c : Nat) (l : List Rw) (k : Int) (v : ByteArray) (w : World) (h : Rz w B A n c l) (hB : B <= w.heap.size) (hsz : n <= 1099511627774) :
 Calls Tryz.prog 126 #[.slice A n c,.int .i64 k,.string v] w (PutR w l k v) := by
 have hlen := h.1.len
 have hle := h.1.le
 have HR := hid h
 have hple := pos_le l k
 rw [hlen] at hple
 have HL := hid hlen
 clear h hlen
 go_enter Tryz.func126,Tryz.ntmps126
 go_wp2
 go_loop [8] (fun vi => ∃ i : Nat,vi = .int .i64 i /\ i <= pos l k) (fun vi => n - (RowKit.intOf vi).toNat)
 case atStart => exact ⟨0,rfl,Nat.zero_le _⟩
 case round =>
  obtain ⟨i,rfl,hi⟩ := hrel
  by_cases hin : i < n
  ·obtain ⟨b,off,x,rfl,hbB,c0,c1,hx,_⟩ := HR.out.1.at_ hin
   have HX := hid hx
   have l1 : (i : Int) < (n : Int) := by omega
   clear hx
   by_cases hxk : x.key < k
   ·have HXK := hid hxk
    have HI := hid hi
    clear hi
    go_wp2
    go_round
    case rel => exact ⟨i + 1,by go_num,pos_step HI.out HX.out HXK.out⟩
    case measure => simp [RowKit.intOf]; omega
   ·have hip := pos_stop hi HX.out hxk
    have HIP := hid hip
    have HF : Hid (Rs w B (some ⟨b,off,none⟩) i c (l.take i)) := HR.out.1.front (by omega)
    have HC := hid (HR.out.1.cut (k := i) (by omega))
    have HC1 := hid (HR.out.1.cut (k := i + 1) (by omega))
    have HTL := hid (show (rv (l.take i)) = (rv (l.take i)) from rfl)
    clear hip hi hple
    have l2 : i <= c := by omega
    have l3 : (i : Int) + 1 <= (n : Int) := by omega
    have l4 : (0 : Int) <= (i : Int) + 1 := by omega
    have l5 : ((i : Int) + 1).toNat = i + 1 := by omega
    have l6 : ¬ c = i := by omega
    by_cases hxe : x.key = k
    ·have HT := hid (there_yes (l := l) (k := k) (by rw [<- HIP.out]; exact HX.out) hxe)
     have HAFT : Hid (put l k v = l.take i ++ [⟨k,v⟩] ++ l.drop (i + 1)) := by show _ = _; rw [put_eq,aft,if_pos HT.out,<- HIP.out]; simp
     have HLN : Hid ((put l k v).length = i + 1 + (n - (i + 1))) := by show _ = _; rw [put_length,if_pos HT.out,HL.out]; omega
     by_cases hci : c = i + 1
     ·have hn1 : n = i + 1 := by omega
      subst hci
      subst hn1
      have HD : Hid (Rs w B (some ⟨b,off,none⟩) 0 0 (l.drop (i + 1))) := by show Rs _ _ _ _ _ _; rw [<- HL.out,List.drop_length]; exact Row.none_ _ _ _ _ (by omega)
      rw [Nat.sub_self] at HLN
      have hxe2 : (x.key == k) = true := by simpa using hxe
      clear hxe
      go_wp2_with (first
       | (at_builtin
          refine wpList_append_row rfl (.tmp 25) (.tmp 28) rfl er w.heap.size _ 0 [] rfl (own_empty _ _ _ _ rfl (Nat.le_refl _)) B _ i _ (rv (l.take i)) rfl (Row.alloc HF.out hB _) (rv_one _) (by omega) (by omega) (by simp) ?_
          intro A1 c1 w1 hown1 _ hb1
          rw [Nat.zero_add,List.nil_append] at hown1
          rw [Nat.zero_add]
          have HY1 := hid hown1
          have HB1 := hid (((Below.refl w.heap.size w).alloc (Nat.le_refl _) _).trans hb1)
          clear hown1 hb1)
       | (at_builtin
          refine wpList_append_row rfl (.tmp 30) (.tmp 34) rfl er w.heap.size (.slice A1 i c1) i (rv (l.take i)) rfl (own_keep HY1.out ((Below.refl _ _).alloc (Nat.le_refl _) _)) (w1.heap.size + 1) (some ⟨w1.heap.size,0,none⟩) 1 1 (rv [(⟨k,v⟩ : Rw)]) rfl (one_row w1 k v rfl) (rv_one _) (by omega) (by omega) (by have := HB1.out.size; simp; omega) ?_
          intro A2 c2 w2 hown2 _ hb2
          rw [<- rv_append] at hown2
          have HY2 := hid hown2
          have HB2 := hid ((HB1.out.alloc HB1.out.size _).trans hb2)
          have d0 := (HB2.out.cell (p := ⟨b,off + i * 2,none⟩) (by show b < _; omega)).trans c0
          clear hown2 hb2)
       | (at_builtin
          refine wpList_append_row rfl (.tmp 49) (.tmp 53) rfl er w.heap.size (.slice A2 (i + 1) c2) (i + 1) (rv (l.take i ++ [(⟨k,v⟩ : Rw)])) rfl HY2.out B _ 0 _ (rv (l.drop (i + 1))) rfl (Row.below HD.out (HB2.out.mono hB)) (rv_one _) (by omega) (by omega) HB2.out.size ?_
          intro A3 c3 w3 hown3 _ hb3
          rw [<- rv_append,<- HAFT.out,<- HLN.out] at hown3
          rw [<- HLN.out]
          have HY3 := hid hown3
          have HB3 := hid (HB2.out.trans hb3)
          clear hown3 hb3)
       | fail)
      go_ret2
      exact ⟨A3,c3,by rw [HT.out]; rfl,HY3.out,HB3.out⟩
     ·have HD : Hid (Rs w B (some ⟨b,off + (i + 1) * 2,none⟩) (n - (i + 1)) (c - (i + 1)) (l.drop (i + 1))) := by have := HC1.out; rw [if_neg hci,Option.map_some,add_none] at this; exact this
      have hxe2 : (x.key == k) = true := by simpa using hxe
      clear hxe
      go_wp2_with (first
       | (at_builtin
          refine wpList_append_row rfl (.tmp 25) (.tmp 28) rfl er w.heap.size _ 0 [] rfl (own_empty _ _ _ _ rfl (Nat.le_refl _)) B _ i _ (rv (l.take i)) rfl (Row.alloc HF.out hB _) (rv_one _) (by omega) (by omega) (by simp) ?_
          intro A1 c1 w1 hown1 _ hb1
          rw [Nat.zero_add,List.nil_append] at hown1
          rw [Nat.zero_add]
          have HY1 := hid hown1
          have HB1 := hid (((Below.refl w.heap.size w).alloc (Nat.le_refl _) _).trans hb1)
          clear hown1 hb1)
       | (at_builtin
          refine wpList_append_row rfl (.tmp 30) (.tmp 34) rfl er w.heap.size (.slice A1 i c1) i (rv (l.take i)) rfl (own_keep HY1.out ((Below.refl _ _).alloc (Nat.le_refl _) _)) (w1.heap.size + 1) (some ⟨w1.heap.size,0,none⟩) 1 1 (rv [(⟨k,v⟩ : Rw)]) rfl (one_row w1 k v rfl) (rv_one _) (by omega) (by omega) (by have := HB1.out.size; simp; omega) ?_
          intro A2 c2 w2 hown2 _ hb2
          rw [<- rv_append] at hown2
          have HY2 := hid hown2
          have HB2 := hid ((HB1.out.alloc HB1.out.size _).trans hb2)
          have d0 := (HB2.out.cell (p := ⟨b,off + i * 2,none⟩) (by show b < _; omega)).trans c0
          clear hown2 hb2)
       | (at_builtin
          refine wpList_append_row rfl (.tmp 49) (.tmp 53) rfl er w.heap.size (.slice A2 (i + 1) c2) (i + 1) (rv (l.take i ++ [(⟨k,v⟩ : Rw)])) rfl HY2.out B _ (n - (i + 1)) _ (rv (l.drop (i + 1))) rfl (Row.below HD.out (HB2.out.mono hB)) (rv_one _) (by omega) (by omega) HB2.out.size ?_
          intro A3 c3 w3 hown3 _ hb3
          rw [<- rv_append,<- HAFT.out,<- HLN.out] at hown3
          rw [<- HLN.out]
          have HY3 := hid hown3
          have HB3 := hid (HB2.out.trans hb3)
          clear hown3 hb3)
       | fail)
      go_ret2
      exact ⟨A3,c3,by rw [HT.out]; rfl,HY3.out,HB3.out⟩
    ·have HT := hid (there_no (l := l) (k := k) (by rw [<- HIP.out]; exact HX.out) hxe)
     have HAFT : Hid (put l k v = l.take i ++ [⟨k,v⟩] ++ l.drop i) := by show _ = _; rw [put_eq,aft,if_neg (by rw [HT.out]; simp),<- HIP.out]; simp
     have HLN : Hid ((put l k v).length = i + 1 + (n - i)) := by show _ = _; rw [put_length,if_neg (by rw [HT.out]; simp),HL.out]; omega
     have HD : Hid (Rs w B (some ⟨b,off + i * 2,none⟩) (n - i) (c - i) (l.drop i)) := by have := HC.out; rw [if_neg l6,Option.map_some,add_none] at this; exact this
     have hxe2 : (x.key == k) = false := by rw [beq_eq_false_iff_ne]; exact hxe
     clear hxe
     go_wp2_with (first
      | (at_builtin
         refine wpList_append_row rfl (.tmp 25) (.tmp 28) rfl er w.heap.size _ 0 [] rfl (own_empty _ _ _ _ rfl (Nat.le_refl _)) B _ i _ (rv (l.take i)) rfl (Row.alloc HF.out hB _) (rv_one _) (by omega) (by omega) (by simp) ?_
         intro A1 c1 w1 hown1 _ hb1
         rw [Nat.zero_add,List.nil_append] at hown1
         rw [Nat.zero_add]
         have HY1 := hid hown1
         have HB1 := hid (((Below.refl w.heap.size w).alloc (Nat.le_refl _) _).trans hb1)
         clear hown1 hb1)
      | (at_builtin
         refine wpList_append_row rfl (.tmp 30) (.tmp 34) rfl er w.heap.size (.slice A1 i c1) i (rv (l.take i)) rfl (own_keep HY1.out ((Below.refl _ _).alloc (Nat.le_refl _) _)) (w1.heap.size + 1) (some ⟨w1.heap.size,0,none⟩) 1 1 (rv [(⟨k,v⟩ : Rw)]) rfl (one_row w1 k v rfl) (rv_one _) (by omega) (by omega) (by have := HB1.out.size; simp; omega) ?_
         intro A2 c2 w2 hown2 _ hb2
         rw [<- rv_append] at hown2
         have HY2 := hid hown2
         have HB2 := hid ((HB1.out.alloc HB1.out.size _).trans hb2)
         have d0 := (HB2.out.cell (p := ⟨b,off + i * 2,none⟩) (by show b < _; omega)).trans c0
         clear hown2 hb2)
      | (at_builtin
         refine wpList_append_row rfl (.tmp 55) (.tmp 58) rfl er w.heap.size (.slice A2 (i + 1) c2) (i + 1) (rv (l.take i ++ [(⟨k,v⟩ : Rw)])) rfl HY2.out B _ (n - i) _ (rv (l.drop i)) rfl (Row.below HD.out (HB2.out.mono hB)) (rv_one _) (by omega) (by omega) HB2.out.size ?_
         intro A3 c3 w3 hown3 _ hb3
         rw [<- rv_append,<- HAFT.out,<- HLN.out] at hown3
         rw [<- HLN.out]
         have HY3 := hid hown3
         have HB3 := hid (HB2.out.trans hb3)
         clear hown3 hb3)
      | fail)
     go_ret2
     exact ⟨A3,c3,by rw [HT.out]; rfl,HY3.out,HB3.out⟩
  ·have hip : i = pos l k := by omega
   have hin2 : n = i := by omega
   subst hin2
   have HIP := hid hip
   have HT := hid (show there l k = false from there_end (by rw [HL.out,<- HIP.out]; exact Nat.le_refl _))
   have HAFT : Hid (put l k v = l.take n ++ [⟨k,v⟩] ++ l.drop n) := by show _ = _; rw [put_eq,aft,if_neg (by rw [HT.out]; simp),<- HIP.out]; simp
   have HLN : Hid ((put l k v).length = n + 1 + 0) := by show _ = _; rw [put_length,if_neg (by rw [HT.out]; simp),HL.out]
   have HF : Hid (Rs w B A n c (l.take n)) := HR.out.1.front (Nat.le_refl _)
   have hdn : l.drop n = [] := by rw [<- HL.out]; exact List.drop_length
   have HDN := hid hdn
   have l2 : n <= c := hle.1
   have l3 : decide ((n : Int) < (n : Int)) = false := by simp
   clear hip hi hin hple hdn
   cases A with
   | none =>
     have hc0 := HR.out.2 rfl
     subst hc0
     have hn0 : n = 0 := by omega
     subst hn0
     have HD : Hid (Rs w B none 0 0 (l.drop 0)) := by show Rs _ _ _ _ _ _; rw [HDN.out]; exact Rs.nil_ _ _
     go_wp2_with (first
      | (at_builtin
         refine wpList_append_row rfl (.tmp 25) (.tmp 28) rfl er w.heap.size _ 0 [] rfl (own_empty _ _ _ _ rfl (Nat.le_refl _)) B _ 0 _ (rv (l.take 0)) rfl (Row.alloc HF.out hB _) (rv_one _) (by omega) (by omega) (by simp) ?_
         intro A1 c1 w1 hown1 _ hb1
         rw [Nat.zero_add,List.nil_append] at hown1
         rw [Nat.zero_add]
         have HY1 := hid hown1
         have HB1 := hid (((Below.refl w.heap.size w).alloc (Nat.le_refl _) _).trans hb1)
         clear hown1 hb1)
      | (at_builtin
         refine wpList_append_row rfl (.tmp 30) (.tmp 34) rfl er w.heap.size (.slice A1 0 c1) 0 (rv (l.take 0)) rfl (own_keep HY1.out ((Below.refl _ _).alloc (Nat.le_refl _) _)) (w1.heap.size + 1) (some ⟨w1.heap.size,0,none⟩) 1 1 (rv [(⟨k,v⟩ : Rw)]) rfl (one_row w1 k v rfl) (rv_one _) (by omega) (by omega) (by have := HB1.out.size; simp; omega) ?_
         intro A2 c2 w2 hown2 _ hb2
         rw [<- rv_append] at hown2
         have HY2 := hid hown2
         have HB2 := hid ((HB1.out.alloc HB1.out.size _).trans hb2)
         clear hown2 hb2)
      | (at_builtin
         refine wpList_append_row rfl (.tmp 55) (.tmp 58) rfl er w.heap.size (.slice A2 (0 + 1) c2) (0 + 1) (rv (l.take 0 ++ [(⟨k,v⟩ : Rw)])) rfl HY2.out B _ 0 _ (rv (l.drop 0)) rfl (Row.below HD.out (HB2.out.mono hB)) (rv_one _) (by omega) (by omega) HB2.out.size ?_
         intro A3 c3 w3 hown3 _ hb3
         rw [<- rv_append,<- HAFT.out,<- HLN.out] at hown3
         rw [<- HLN.out]
         have HY3 := hid hown3
         have HB3 := hid (HB2.out.trans hb3)
         clear hown3 hb3)
      | fail)
     go_ret2
     exact ⟨A3,c3,by rw [HT.out]; rfl,HY3.out,HB3.out⟩
   | some a =>
     by_cases hci : c = n
     ·have HD : Hid (Rs w B (some a) 0 0 (l.drop n)) := by show Rs _ _ _ _ _ _; rw [HDN.out]; exact Row.none_ _ _ _ _ (by omega)
      subst hci
      go_wp2_with (first
       | (at_builtin
          refine wpList_append_row rfl (.tmp 25) (.tmp 28) rfl er w.heap.size _ 0 [] rfl (own_empty _ _ _ _ rfl (Nat.le_refl _)) B _ c _ (rv (l.take c)) rfl (Row.alloc HF.out hB _) (rv_one _) (by omega) (by omega) (by simp) ?_
          intro A1 c1 w1 hown1 _ hb1
          rw [Nat.zero_add,List.nil_append] at hown1
          rw [Nat.zero_add]
          have HY1 := hid hown1
          have HB1 := hid (((Below.refl w.heap.size w).alloc (Nat.le_refl _) _).trans hb1)
          clear hown1 hb1)
       | (at_builtin
          refine wpList_append_row rfl (.tmp 30) (.tmp 34) rfl er w.heap.size (.slice A1 c c1) c (rv (l.take c)) rfl (own_keep HY1.out ((Below.refl _ _).alloc (Nat.le_refl _) _)) (w1.heap.size + 1) (some ⟨w1.heap.size,0,none⟩) 1 1 (rv [(⟨k,v⟩ : Rw)]) rfl (one_row w1 k v rfl) (rv_one _) (by omega) (by omega) (by have := HB1.out.size; simp; omega) ?_
          intro A2 c2 w2 hown2 _ hb2
          rw [<- rv_append] at hown2
          have HY2 := hid hown2
          have HB2 := hid ((HB1.out.alloc HB1.out.size _).trans hb2)
          clear hown2 hb2)
       | (at_builtin
          refine wpList_append_row rfl (.tmp 55) (.tmp 58) rfl er w.heap.size (.slice A2 (c + 1) c2) (c + 1) (rv (l.take c ++ [(⟨k,v⟩ : Rw)])) rfl HY2.out B _ 0 _ (rv (l.drop c)) rfl (Row.below HD.out (HB2.out.mono hB)) (rv_one _) (by omega) (by omega) HB2.out.size ?_
          intro A3 c3 w3 hown3 _ hb3
          rw [<- rv_append,<- HAFT.out,<- HLN.out] at hown3
          rw [<- HLN.out]
          have HY3 := hid hown3
          have HB3 := hid (HB2.out.trans hb3)
          clear hown3 hb3)
       | fail)
      go_ret2
      exact ⟨A3,c3,by rw [HT.out]; rfl,HY3.out,HB3.out⟩
     ·have HD : Hid (∀ a',Rs w B (some a') 0 (c - n) (l.drop n)) := fun a' => by rw [HDN.out]; exact Row.none_ _ _ _ _ (by omega)
      go_wp2_with (first
       | (at_builtin
          refine wpList_append_row rfl (.tmp 25) (.tmp 28) rfl er w.heap.size _ 0 [] rfl (own_empty _ _ _ _ rfl (Nat.le_refl _)) B _ n _ (rv (l.take n)) rfl (Row.alloc HF.out hB _) (rv_one _) (by omega) (by omega) (by simp) ?_
          intro A1 c1 w1 hown1 _ hb1
          rw [Nat.zero_add,List.nil_append] at hown1
          rw [Nat.zero_add]
          have HY1 := hid hown1
          have HB1 := hid (((Below.refl w.heap.size w).alloc (Nat.le_refl _) _).trans hb1)
          clear hown1 hb1)
       | (at_builtin
          refine wpList_append_row rfl (.tmp 30) (.tmp 34) rfl er w.heap.size (.slice A1 n c1) n (rv (l.take n)) rfl (own_keep HY1.out ((Below.refl _ _).alloc (Nat.le_refl _) _)) (w1.heap.size + 1) (some ⟨w1.heap.size,0,none⟩) 1 1 (rv [(⟨k,v⟩ : Rw)]) rfl (one_row w1 k v rfl) (rv_one _) (by omega) (by omega) (by have := HB1.out.size; simp; omega) ?_
          intro A2 c2 w2 hown2 _ hb2
          rw [<- rv_append] at hown2
          have HY2 := hid hown2
          have HB2 := hid ((HB1.out.alloc HB1.out.size _).trans hb2)
          clear hown2 hb2)
       | (at_builtin
          refine wpList_append_row rfl (.tmp 55) (.tmp 58) rfl er w.heap.size (.slice A2 (n + 1) c2) (n + 1) (rv (l.take n ++ [(⟨k,v⟩ : Rw)])) rfl HY2.out B _ 0 _ (rv (l.drop n)) rfl (Row.below (HD.out _) (HB2.out.mono hB)) (rv_one _) (by omega) (by omega) HB2.out.size ?_
          intro A3 c3 w3 hown3 _ hb3
          rw [<- rv_append,<- HAFT.out,<- HLN.out] at hown3
          rw [<- HLN.out]
          have HY3 := hid hown3
          have HB3 := hid (HB2.out.trans hb3)
          clear hown3 hb3)
       | fail)
      go_ret2
      exact ⟨A3,c3,by rw [HT.out]; rfl,HY3.out,HB3.out⟩
end Idx
namespace Idx
open Go.RowKit Base IdxMath Foot
open Go.Sort (grow)
theorem ret_bool' {a b : Bool} (h : a = b) : Ending.returned (.bool a) = .returned (.bool b) := by rw [h]
theorem req_same (k : Int) (s : ByteArray) (w : World) :
 Calls Tryz.prog 59 #[.agg #[.int .i64 k,.string s],.agg #[.int .i64 k,.string s]] w fun e w' => e = .returned (.bool true) /\ Below w.heap.size w w' := by
 go_enter Tryz.func59,Tryz.ntmps59
 go_wp2
 go_ret
 exact ⟨ret_bool' (by simp),((Below.refl _ _).alloc (Nat.le_refl _) _).alloc (by simp) _⟩
theorem rsame_same (B B' : Nat) (A A' : Option Addr) (n c c' : Nat) (l : List Rw) (w : World) (h : Rs w B A n c l) (h' : Rs w B' A' n c' l) (hB : B <= w.heap.size) (hB' : B' <= w.heap.size) :
 Calls Tryz.prog 58 #[.slice A n c,.slice A' n c',.func (.func 59) #[] #[]] w fun e w' => e = .returned (.bool true) /\ Below w.heap.size w w' := by
 have hle := h.le
 have HR := hid h
 have HR' := hid h'
 clear h h'
 go_enter Tryz.func58,Tryz.ntmps58
 go_wp2
 go_loopw [7] (fun i wr => ∃ k : Nat,k <= n /\ i = .int .i64 k /\ Below w.heap.size w wr) (fun i _ => n - (RowKit.intOf i).toNat)
 case atStart => exact ⟨0,by omega,rfl,Below.refl _ _⟩
 case round =>
  obtain ⟨k,hk,rfl,hbel⟩ := hrel
  have HB := hid hbel
  clear hbel
  by_cases hlt : k < n
  ·obtain ⟨b,off,f,rfl,hb,q0,q1,hget,_⟩ := (HR.out.below (HB.out.mono hB)).at_ hlt
   obtain ⟨b',off',f',rfl,hb',p0,p1,hget',_⟩ := (HR'.out.below (HB.out.mono hB')).at_ hlt
   obtain rfl : f = f' := by rw [hget] at hget'; injection hget'
   clear hget hget'
   go_wp2
   go_still_tail 9,(by kernel_rfl)
   go_wp2_with fail
   refine (req_same _ _ _).mono ?_
   rintro e w2 ⟨rfl,hb2⟩
   have HB2 := hid (HB.out.drew.trans (hb2.mono HB.out.size))
   clear hb2
   go_wp2
   go_roundw
   case rel => exact ⟨k + 1,by omega,by go_num,HB2.out⟩
   case measure => simp [RowKit.intOf]; omega
  ·go_wp2
   go_ret
   exact ⟨rfl,HB.out⟩
theorem rplain_same (B B' : Nat) (A A' : Option Addr) (n n' c c' : Nat) (l : List Rw) (w : World) (h : Rs w B A n c l) (h' : Rs w B' A' n' c' l) (hB : B <= w.heap.size) (hB' : B' <= w.heap.size) :
 Calls Tryz.prog 22 #[.slice A n c,.slice A' n' c'] w fun e w' => e = .returned (.bool true) /\ Below w.heap.size w w' := by
 obtain rfl : n = n' := by rw [<- h.len,<- h'.len]
 go_enter Tryz.func22,Tryz.ntmps22
 go_wp2_with fail
 refine (rsame_same B B' A A' n c c' l _ h h' hB hB').mono ?_
 rintro e w2 ⟨rfl,hb2⟩
 have HB2 := hid hb2
 clear hb2
 go_wp2
 go_ret
 exact ⟨rfl,HB2.out⟩
end Idx
namespace Tbl
open Go.RowKit Base
open Go.Maps (Keyed)
open Go.ChangeShapes Go.WideShapes
def pk (a k : Int) : Value := .agg #[.int .i64 a,.int .i64 k]
theorem laidOutP : laidOutB Tryz.prog = true := by kernel_rfl
theorem rowP : (279 : TypeId) < Tryz.prog.types.size := of_decide_eq_true (by kernel_rfl)
theorem wideP : (match Tryz.prog.underlying 279 with | some (.array _ _) | some (.struct _) => true | _ => false) = true := by rw [Tryz.underlying279]
theorem lawP : Keyed Tryz.prog 279 := Keyed.of_law (deep_law_laid laidOutP (m := 2) (by omega) rowP (by kernel_rfl) wideP)
def In64 (k : Int) : Prop := -9223372036854775808 <= k /\ k <= 9223372036854775807
theorem In64.wf {k : Int} (h : In64 k) : (Lit.int .i64 k).wf = true := by
 simp only [Lit.wf,Bool.and_eq_true,decide_eq_true_eq]
 exact h
theorem keyLits_pk (d : Nat) {a k : Int} (ha : In64 a) (hk : In64 k) : Tryz.prog.keyLits (d + 2) 279 [.int .i64 a,.int .i64 k] = some [.int .i64 a,.int .i64 k] := by
 have h1 := ha.wf
 have h2 := hk.wf
 have c1 : Tryz.prog.cellsOf 279 = 2 := by kernel_rfl
 have c2 : Tryz.prog.cellsOf 3 = 1 := by kernel_rfl
 have c3 : Tryz.prog.cellsOf 2 = 1 := by kernel_rfl
 simp [Program.keyLits,Tryz.underlying279,Tryz.underlying3,Tryz.underlying2,h1,h2,c1,c2,c3]
theorem key_pk {a k : Int} (ha : In64 a) (hk : In64 k) : ∃ kl,keyOf Tryz.prog 279 (pk a k) = some kl := by
 have h0 : Tryz.prog.keyType 279 = true := by kernel_rfl
 have h1 : (pk a k).formed Tryz.prog 279 = true := by
  have c1 : Tryz.prog.cellsOf 279 = 2 := by kernel_rfl
  simp [pk,Value.formed,Tryz.underlying279,c1]
 have hsz : 0 < Tryz.prog.types.size := Nat.lt_of_le_of_lt (Nat.zero_le _) rowP
 obtain ⟨d,hd⟩ : ∃ d,Tryz.prog.types.size + 1 = d + 2 := ⟨Tryz.prog.types.size - 1,by omega⟩
 unfold keyOf
 rw [Tryz.underlying279]
 dsimp only
 rw [if_pos (by rw [h0,h1]; rfl),hd]
 have e : (pk a k).cells.toList = [.int .i64 a,.int .i64 k] := by simp [pk,Value.cells]
 rw [e,keyLits_pk d ha hk]
 exact ⟨_,rfl⟩
def Look (D : DataW Unit) (f : Int -> Int -> Option Bool) : Prop :=
 ∀ a k kl,keyOf Tryz.prog 279 (pk a k) = some kl -> (∀ v,f a k = some v -> ∀ zd,D.atKey kl zd = .lit (.bool v)) /\ (f a k = none -> ∀ zd,D.atKey kl zd = zd)
def Seen (w : World) (b n : Nat) (f : Int -> Int -> Option Bool) : Prop := ∃ D : DataW Unit,w.ownsMap Tryz.prog 279 (plainElem Tryz.prog 4) b n D /\ Maps.IsMap D /\ Look D f
theorem Seen.made (w : World) : Seen (w.alloc (.map #[] 0)) w.heap.size 0 (fun _ _ => none) :=
 ⟨.map [],World.ownsMap_made _ _ _ _,⟨_,rfl⟩,fun a k kl h => ⟨fun v hv => (by cases hv),fun _ zd => by simp [DataW.atKey]⟩⟩
section
variable {w w' : World} {b n : Nat} {f : Int -> Int -> Option Bool}
theorem Seen.lt (h : Seen w b n f) : b < w.heap.size := by obtain ⟨D,h1,_⟩ := h; exact h1.lt
theorem Seen.kept {row : Option Nat} (h : Seen w b n f) (hg : w.grownBy w' row) (hne : some b ≠ row) : Seen w' b n f := by obtain ⟨D,h1,h2⟩ := h; exact ⟨D,h1.kept hg hne,h2⟩
theorem Seen.same (h : Seen w b n f) (hk : w'.heap[b]? = w.heap[b]?) : Seen w' b n f := by
 obtain ⟨D,⟨es,clock,hb,r⟩,h2⟩ := h
 exact ⟨D,⟨es,clock,hk.trans hb,r⟩,h2⟩
end
def putF (f : Int -> Int -> Option Bool) (a k : Int) (v : Bool) (x y : Int) : Option Bool := if x = a /\ y = k then some v else f x y
theorem bool_inv {v : Value} {z : DataW Unit × List MemPlace} (h : plainElem Tryz.prog 4 v = some z) : ∃ x,v = .bool x /\ z = (.lit (.bool x),[]) := by
 unfold plainElem at h
 rw [Tryz.underlying4] at h
 split at h
 ·injection h with h; exact ⟨_,rfl,h.symm⟩
 ·rename_i h1; cases h1
 ·rename_i h1; cases h1
 ·cases h
theorem Seen.look {w : World} {b n : Nat} {f : Int -> Int -> Option Bool} (h : Seen w b n f) {a k : Int} (ha : In64 a) (hk : In64 k) :
 (Instr.lookup 277 (.map (some b)) (pk a k) true).run Tryz.prog w = .ok (.tuple #[.bool ((f a k).getD false),.bool (f a k).isSome]) w := by
 obtain ⟨D,⟨es,clock,hb,F,_,rfl⟩,hm,hl⟩ := h
 obtain ⟨kl,hkey⟩ := key_pk ha hk
 have hz : (zeroValue 4).run Tryz.prog w = .ok (.bool false) w := by kernel_rfl
 obtain ⟨l1,l2⟩ := hl a k kl hkey
 rcases Maps.fit_look true lawP Tryz.underlying277 hz hb F hkey with ⟨hrun,_,hat⟩ | ⟨e0,y,_,_,hrun,hRv,hat,_⟩
 ·cases hf : f a k with
  | none => exact hrun
  | some v =>
    have h1 := l1 v hf (.lit (.bool (!v)))
    rw [hat] at h1
    cases v <;> simp at h1
 ·obtain ⟨x,hx,rfl⟩ := bool_inv hRv
  cases hf : f a k with
  | none =>
    have h1 := l2 hf (.lit (.bool (!x)))
    rw [hat] at h1
    cases x <;> simp at h1
  | some v =>
    have h1 := l1 v hf (.lit (.bool v))
    rw [hat] at h1
    simp at h1
    subst h1
    rw [hx] at hrun
    exact hrun
theorem Seen.put {w : World} {b n : Nat} {f : Int -> Int -> Option Bool} (h : Seen w b n f) (hn : n < 9223372036854775807) {a k : Int} (ha : In64 a) (hk : In64 k) (v : Bool) :
 ∃ w',(Instr.mapUpdate 277 (.map (some b)) (pk a k) (.bool v)).run Tryz.prog w = .ok () w' /\ Seen w' b (n + 1) (putF f a k v) /\ w.grownBy w' (some b) := by
 obtain ⟨D,hown,hm,hl⟩ := h
 obtain ⟨kl,hkey⟩ := key_pk ha hk
 obtain ⟨w',hrun,r1,r2⟩ := hown.update lawP Tryz.underlying277 (by unfold maxLen; omega) hkey (plainElem_bool Tryz.underlying4 v)
 refine ⟨w',hrun,⟨_,r1,(by obtain ⟨es,rfl⟩ := hm; exact ⟨_,rfl⟩),fun x y kl' hkey' => ?_⟩,r2⟩
 unfold putF
 by_cases hxy : x = a /\ y = k
 ·rw [if_pos hxy]
  obtain ⟨rfl,rfl⟩ := hxy
  rw [hkey] at hkey'
  injection hkey' with hkey'
  subst hkey'
  exact ⟨fun v' hv' zd => by injection hv' with hv'; subst hv'; exact Maps.atKey_put_same hm (lawP.key hkey) _ _,fun h => by cases h⟩
 ·rw [if_neg hxy]
  have hne : kl' ≠ kl := by
   rintro rfl
   have := lawP.inj hkey hkey'
   simp [pk] at this
   exact hxy ⟨this.1.symm,this.2.symm⟩
  obtain ⟨l1,l2⟩ := hl x y kl' hkey'
  exact ⟨fun v' hv' zd => by rw [Maps.atKey_put_other hne]; exact l1 v' hv' zd,fun hf zd => by rw [Maps.atKey_put_other hne]; exact l2 hf zd⟩
end Tbl
namespace Idx
open Go.RowKit Base IdxMath Foot
open Go.ChangeShapes Go.WideShapes Go.Deep
section
variable {H : Type} {enc : TypeId × Value -> H} {W : World} {a : Option Addr} {len cap : Nat} {d : DataW H} {p : List MemPlace}
theorem wf_i64 {k : Int} (h : (Lit.int .i64 k).wf = true) : -9223372036854775808 <= k /\ k <= 9223372036854775807 := by
 simp only [Lit.wf,Bool.and_eq_true,decide_eq_true_eq] at h
 exact h
end
end Idx
namespace Tbl
open Go.RowKit Base IdxMath Foot Idx
open PChg (Cs gcells gv)
open Lsts (Lsts)
def In1 (l : List Cg) : Prop := ∀ f ∈ l,In64 f.key /\ f.val.size <= 9223372036854775807
section
open Go.ChangeShapes Go.WideShapes Go.Deep
variable {H : Type} {enc : TypeId × Value -> H} {W : World} {a : Option Addr} {len cap : Nat} {d : DataW H} {p : List MemPlace}
theorem open_list (n : Nat) (cs : List Value) (y : DataW H × List MemPlace) (hf : DataW.trod enc Tryz.prog W 0 (fun _ => true) true n 35 cs = some y) : ∃ A n' c' l,cs = [.slice A n' c'] /\ Cs W W.heap.size A n' c' l /\ In1 l := by
 rcases Flat.open_slice_fields Tryz.underlying35 Tryz.underlying64 (by kernel_rfl) (by kernel_rfl) hf with hcs | ⟨x,l,c,m,hcs,hl,hm,hmm,hall⟩
 ·exact ⟨none,0,0,[],hcs,Row.nil_ _ _ _,fun x hx => by cases hx⟩
 ·obtain ⟨ls,h1,_,h3⟩ := Flat.open_flat (ec := gcells) (k := 4) (fun _ => rfl) (by omega) TxnMath.noCh (fun x => In64 x.key /\ x.val.size <= 9223372036854775807) (y := x) hl hm (fun i hi => by
   obtain ⟨n,hn⟩ := hall i (by rw [hmm]; simp; omega)
   obtain ⟨v0,y0,c0,t0⟩ := hn 0 _ rfl
   obtain ⟨v1,y1,c1,t1⟩ := hn 1 _ rfl
   obtain ⟨v2,y2,c2,t2⟩ := hn 2 _ rfl
   obtain ⟨v3,y3,c3,t3⟩ := hn 3 _ rfl
   obtain ⟨k0,e0,_,_⟩ := DataW.trod_int Tryz.underlying3 t0
   obtain ⟨k1,e1,_,wk⟩ := DataW.trod_int Tryz.underlying2 t1
   obtain ⟨k2,e2,_⟩ := DataW.trod_bool Tryz.underlying4 t2
   obtain ⟨s,e3,_,ws⟩ := DataW.trod_string Tryz.underlying9 t3
   simp only [List.cons.injEq,and_true] at e0 e1 e2 e3
   subst e0 e1 e2 e3
   refine ⟨⟨k0,k1,k2,s⟩,⟨Idx.wf_i64 wk,ws⟩,fun j hj => ?_⟩
   match j,hj with
   | 0,_ => exact ⟨_,rfl,c0⟩
   | 1,_ => exact ⟨_,rfl,c1⟩
   | 2,_ => exact ⟨_,rfl,c2⟩
   | 3,_ => exact ⟨_,rfl,c3⟩)
  exact ⟨_,_,_,ls,hcs,h1,h3⟩
theorem open_lists (h : DataW.Trod enc Tryz.prog W 0 (fun _ => true) true 22 (.slice a len cap) d p) : ∃ L,Lsts Cs W W.heap.size a len cap L /\ ∀ l ∈ L,In1 l :=
 Lsts.open_lsts ([] : List Cg) Tryz.underlying22 (by kernel_rfl) (fun n cs y hy => open_list n cs y hy) h
end
end Tbl
namespace Field
open Go.RowKit Base
theorem eb : Elem Tryz.prog 68 5 1 1 (.int .u8 0) := Elem.of Tryz.underlying68 (by kernel_rfl) rfl (by omega)
end Field
end Go.Proofs.YtefnmnpfecfdaaaGreat
