/-
  Texts of one proof: ImgGather, ImgEncode, SrcWrite, DiskArm.
-/
import Derived.Test.YtefnmnpfecfdaaaGreatPk38
set_option linter.all false
set_option maxRecDepth 100000
set_option maxHeartbeats 6400000
open Go.Lib (hid)
namespace Go.Proofs.YtefnmnpfecfdaaaGreat
namespace Img
open Go.RowKit Base FieldMath TxnMath
open ImgMath
open IdxMath (Rw)
open Field (fv fv_append fv_one fv_length Flds ef ret_bool empty_iff Encoded)
open Txn (cnumber_any ctext_any)
def Gath (w : World) (g : Nat) (l : List Fld) : Prop := ∃ A c,Blk w g 295 #[.slice A l.length c] /\ w.ownsRow (g + 1) 143 3 (.slice A l.length c) l.length (fv l)
theorem Gath.new {w w' : World} {g : Nat} {l : List Fld} (h : Gath w g l) (hb : Below w.heap.size w w') : Gath w' g l := by
 obtain ⟨A,c,h1,h2⟩ := h
 exact ⟨A,c,h1.below hb h1.lt,own_keep h2 hb⟩
theorem Gath.alloc {w : World} {g : Nat} {l : List Fld} (h : Gath w g l) (o : Obj) : Gath (w.alloc o) g l := h.new ((Below.refl _ _).alloc (Nat.le_refl _) o)
theorem Gath.lt {w : World} {g : Nat} {l : List Fld} (h : Gath w g l) : g < w.heap.size := by
 obtain ⟨A,c,h1,_⟩ := h
 exact h1.lt
def Added (w : World) (g : Nat) (l : List Fld) (w' : World) : Prop := Gath w' g l /\ Below g w w' /\ ∀ b T cs,Blk w b T cs -> b ≠ g -> T ≠ 143 -> Blk w' b T cs
theorem add_any (g : Nat) (l m : List Fld) (B : Nat) (A' : Option Addr) (n' c' : Nat) (w : World) (h : Gath w g l) (hm : Flds w B A' n' c' m) (hl : l.length <= 1000000) (hn : n' <= 1000000) :
 Calls Tryz.prog 229 #[.pointer (some ⟨g,0,none⟩),.slice A' n' c'] w fun e w' => e = .returned (.tuple #[]) /\ Added w g (l ++ m) w' := by
 have hml := hm.len
 have HML := hid hml
 have HM := hid hm
 obtain ⟨A,c,hb,ho⟩ := h
 have hlt := hb.lt
 have k0 : w.cell? ⟨g,0,none⟩ = some (.slice A l.length c) := hb.cell 0
 have f0 := hb.frozen 0
 have HX := hid hb
 have HO := hid ho
 clear hb ho hm hml
 go_enter Tryz.func229,Tryz.ntmps229
 go_wp2_with (first
  | (at_builtin
     refine wpList_append_row rfl (.tmp 8) (.tmp 9) rfl ef (g + 1) _ l.length (fv l) rfl HO.out B A' n' c' (fv m) rfl HM.out (fv_one _) (by omega) (by omega) (by omega) ?_
     intro A2 c2 w2 hown2 hg2 hb2
     rw [<- fv_append] at hown2
     have hx2 : Blk w2 g 295 #[.slice A l.length c] := HX.out.below hb2 (by omega)
     have k2 : w2.cell? ⟨g,0,none⟩ = some (.slice A l.length c) := hx2.cell 0
     have f2 := hx2.frozen 0
     have HX2 := hid hx2
     have HO2 := hid hown2
     have HG2 := hid hg2
     have HB2 := hid hb2
     clear hown2 hg2 hb2 hx2)
  | fail)
 go_end0
 have hll : (l ++ m).length = l.length + n' := by rw [List.length_append,HML.out]
 have hne : ∀ k,(Value.slice A2 (l.length + n') c2).ownBlock = some k -> k ≠ g := fun k hk => by have := (HO2.out.lt k hk).1; omega
 refine ⟨rfl,⟨A2,c2,?_,?_⟩,(HB2.out.mono (by omega)).setCell (by exact Nat.le_refl _) _,fun b T cs hbk hbg hT => ?_⟩
 ·rw [hll]
  exact HX2.out.set_ 0 _
 ·rw [hll]
  exact HO2.out.kept (only_setCell (World.grownBy.refl _ (some g)) (.inl rfl) _) (.inr fun e => by exact hne g e rfl)
 ·have h1 : Blk w2 b T cs := hbk.grown HG2.out.1 (fun e => by
   rcases HO.out.2 with ⟨hv,_⟩ | ⟨k,cap,cur,hv,_,hk,_⟩
   ·rw [hv] at e; cases e
   ·rw [hv] at e
    obtain rfl : b = k := by simp only [Value.ownBlock] at e; injection e
    unfold Blk at hbk
    rw [hbk] at hk
    injection hk with hk
    injection hk with _ h3
    exact hT h3)
  exact h1.far (by exact hbg) _
def GatI (w : World) (l : List Fld) (wr : World) : Prop := Gath wr w.heap.size l /\ Below w.heap.size w wr
theorem GatI.add {w wr w1 w2 : World} {l m : List Fld} (h : GatI w l wr) (hb : Below wr.heap.size wr w1) (ha : Added w1 w.heap.size m w2) : GatI w m w2 := ⟨ha.1,(held_two h.2 hb).trans ha.2.1⟩
theorem one_fld2 (w : World) (e : TypeId) (f : Fld) {s : Nat} (hs : s = w.heap.size) : Flds (w.alloc (.cells #[.int .i64 f.kind,.int .i64 f.n,.string f.s] e)) (w.heap.size + 1) (some ⟨s,0,none⟩) 1 1 [f] :=
 Row.lit w #[.int .i64 f.kind,.int .i64 f.n,.string f.s] e (0,0) hs rfl (by omega)
theorem two_nums (w : World) (e : TypeId) (a b : Int) {s : Nat} (hs : s = w.heap.size) : Flds (w.alloc (.cells #[.int .i64 1,.int .i64 a,.string ⟨#[]⟩,.int .i64 1,.int .i64 b,.string ⟨#[]⟩] e)) (w.heap.size + 1) (some ⟨s,0,none⟩) 2 2 [numF a,numF b] :=
 Row.lit w #[.int .i64 1,.int .i64 a,.string ⟨#[]⟩,.int .i64 1,.int .i64 b,.string ⟨#[]⟩] e (0,0) hs rfl (by omega)
theorem two_rowF (w : World) (e : TypeId) (f : Rw) {s : Nat} (hs : s = w.heap.size) : Flds (w.alloc (.cells #[.int .i64 1,.int .i64 f.key,.string ⟨#[]⟩,.int .i64 2,.int .i64 0,.string f.val] e)) (w.heap.size + 1) (some ⟨s,0,none⟩) 2 2 (rowF f) :=
 Row.lit w #[.int .i64 1,.int .i64 f.key,.string ⟨#[]⟩,.int .i64 2,.int .i64 0,.string f.val] e (0,0) hs rfl (by omega)
section
variable {W w w1 : World} {s g : Nat} {T : TypeId} {x0 x1 : Value}
theorem box2 (h : Blk w s T #[x0,x1]) (hb : Below g W w) : w.cell? ⟨s,0,none⟩ = some x0 /\ w.cell? ⟨s,1,none⟩ = some x1 /\ Blk w s T #[x0,x1] /\ Below g W w := ⟨h.cell 0,h.cell 1,h,hb⟩
theorem box2_call (hg : g <= W.heap.size) (hb : Below w.heap.size w w1) (h : Blk w s T #[x0,x1]) (k : Below g W w) : w1.cell? ⟨s,0,none⟩ = some x0 /\ w1.cell? ⟨s,1,none⟩ = some x1 /\ Blk w1 s T #[x0,x1] /\ Below g W w1 := box2 (h.below hb h.lt) (k.trans (hb.mono (Nat.le_trans hg k.size)))
theorem box2_alloc (hg : g <= W.heap.size) (o : Obj) (h : Blk w s T #[x0,x1]) (k : Below g W w) : (w.alloc o).cell? ⟨s,0,none⟩ = some x0 /\ (w.alloc o).cell? ⟨s,1,none⟩ = some x1 /\ Blk (w.alloc o) s T #[x0,x1] /\ Below g W (w.alloc o) := box2 (h.alloc o) (k.alloc (Nat.le_trans hg k.size) o)
theorem box2_add {l : List Fld} (hs : s ≠ g) (hT : T ≠ 143) (ha : Added w g l w1) (h : Blk w s T #[x0,x1]) (k : Below g W w) : w1.cell? ⟨s,0,none⟩ = some x0 /\ w1.cell? ⟨s,1,none⟩ = some x1 /\ Blk w1 s T #[x0,x1] /\ Below g W w1 := box2 (ha.2.2 s T _ h hs hT) (k.trans ha.2.1)
end
theorem cnumber_g (g : Nat) (l : List Fld) (n : Int) (w : World) (h : Gath w g l) :
 Calls Tryz.prog 219 #[.int .i64 n] w fun e w' => e = .returned (.agg #[.int .i64 1,.int .i64 n,.string ⟨#[]⟩]) /\ Below w.heap.size w w' /\ Gath w' g l :=
 (cnumber_any n w).mono fun _ _ ⟨he,hb⟩ => ⟨he,hb,h.new hb⟩
theorem ctext_g (g : Nat) (l : List Fld) (s : ByteArray) (w : World) (h : Gath w g l) :
 Calls Tryz.prog 221 #[.string s] w fun e w' => e = .returned (.agg #[.int .i64 2,.int .i64 0,.string s]) /\ Below w.heap.size w w' /\ Gath w' g l :=
 (ctext_any s w).mono fun _ _ ⟨he,hb⟩ => ⟨he,hb,h.new hb⟩
theorem tabF_take {l : List Rw} {k : Nat} {x : Rw} (ht : l.take (k + 1) = l.take k ++ [x]) : rowsF (l.take (k + 1)) = rowsF (l.take k) ++ rowF x := by rw [ht,rowsF_snoc]
theorem tabsF_take {T : List (List Rw)} {k : Nat} {l : List Rw} (ht : T.take (k + 1) = T.take k ++ [l]) : tabsF (T.take (k + 1)) = tabsF (T.take k) ++ tabF l := by rw [ht,tabsF_snoc]
theorem few_fields {T : List (List Rw)} (h : ∀ l ∈ T,l.length <= 1000) (h8 : T.length <= 8) (k : Nat) : (tabsF (T.take k)).length <= 16008 := by
 have h1 := tabsF_length (T := T.take k) fun l hl => h l (List.mem_of_mem_take hl)
 have h2 : (T.take k).length <= 8 := by rw [List.length_take]; omega
 omega
def TbRel (w : World) (pre : List Fld) (T : List (List Rw)) (n : Nat) (vi : Value) (wr : World) : Prop := ∃ k : Nat,k <= n /\ vi = .int .i64 k /\ GatI w (pre ++ tabsF (T.take k)) wr
def RwRel (w : World) (pre : List Fld) (l : List Rw) (n : Nat) (vi : Value) (wr : World) : Prop := ∃ k : Nat,k <= n /\ vi = .int .i64 k /\ GatI w (pre ++ rowsF (l.take k)) wr
theorem fieldsOf_any (B : Nat) (lsn : Int) (A : Option Addr) (n c : Nat) (T : List (List Rw)) (w : World) (h : Tabs w B A n c T) (hB : B <= w.heap.size) (hm : MayI ⟨lsn,T⟩) :
 Calls Tryz.prog 177 #[.int .i64 lsn,.slice A n c] w fun e w' => ∃ A2 n2 c2,e = .returned (.slice A2 n2 c2) /\ Flds w' w'.heap.size A2 n2 c2 (fldsI ⟨lsn,T⟩) /\ Below w.heap.size w w' := by
 have hle := h.le
 have hlen := h.len
 have hn8 : n <= 8 := by have := hm.tabs.2; dsimp only at this; omega
 have HL := hid hlen
 have HT := hid h
 have H1000 := hid (fun l (hl : l ∈ T) => (hm.tab l hl).1)
 have HFEW := hid (few_fields (T := T) (fun l hl => (hm.tab l hl).1) (by omega))
 clear h hm hlen
 have HG0 : Hid (GatI w [] (w.alloc (.cells #[.slice none 0 0] 295))) := ⟨⟨none,0,Blk.new _ _ _,World.ownsRow_nil _ _ _ _⟩,(Below.refl _ _).alloc (Nat.le_refl _) _⟩
 go_enter Tryz.func177,Tryz.ntmps177
 go_wp2_with fail
 refine (cnumber_any lsn _).mono ?_
 rintro e w1 ⟨rfl,hb1⟩
 go_wp2_with fail
 refine (cnumber_any (n : Int) w1).mono ?_
 rintro e w2 ⟨rfl,hb2⟩
 have HG2 : Hid (GatI w [] w2) := ⟨(HG0.out.1.new hb1).new hb2,held_two (held_two HG0.out.2 hb1) hb2⟩
 clear hb1 hb2 HG0
 go_wp2_with fail
 refine (add_any w.heap.size [] [numF lsn,numF n] _ _ 2 2 _ (HG2.out.1.alloc _) (two_nums w2 _ lsn n rfl) (by simp) (by omega)).mono ?_
 rintro e w3 ⟨rfl,hadd⟩
 have HG3 := hid (HG2.out.add ((Below.refl _ _).alloc (Nat.le_refl _) _) hadd)
 have HFI : Hid (fldsI ⟨lsn,T⟩ = [numF lsn,numF (n : Int)] ++ tabsF T) := by show _ = _; unfold fldsI; dsimp only; rw [HL.out]
 have HPL : Hid (([] ++ [numF lsn,numF (n : Int)]).length = 2) := rfl
 rw [<- List.nil_append ([numF lsn,numF (n : Int)])] at HFI
 generalize [] ++ [numF lsn,numF (n : Int)] = pre at HG3 HFI HPL
 clear hadd HG2
 go_wp2
 go_loopw [19,7,30,9] (fun vi _ _ _ wr => TbRel w pre T n vi wr) (fun vi _ _ _ _ => n - (RowKit.intOf vi).toNat)
 case atStart => exact ⟨0,Nat.zero_le _,rfl,by simpa [tabsF] using HG3.out⟩
 case round =>
  obtain ⟨k,hk,rfl,hgat⟩ := hrel
  have HR := hid hgat
  clear hgat HG3
  by_cases hlt : k < n
  ·obtain ⟨b,off,A',n',c',l,rfl,hb,c0w,hrs,hget,htake⟩ := HT.out.at_ hlt
   have c0 : wr.cell? ⟨b,off + k,none⟩ = some (.slice A' n' c') := ((HR.out.2.mono hB).cell hb).trans c0w
   have HTK := hid (tabsF_take htake)
   have hl1000 := H1000.out l (List.mem_of_getElem? hget)
   have HLL := hid hrs.len
   have hn1000 : n' <= 1000 := by have := hrs.len; omega
   have hle' := hrs.le
   have HRS := hid hrs
   have HF8 := hid (HFEW.out k)
   have l1 : (k : Int) < (n : Int) := by omega
   clear hget htake hrs hl1000
   go_wp2_with fail
   refine (cnumber_any (n' : Int) wr).mono ?_
   rintro e w4 ⟨rfl,hb4⟩
   have HR4 : Hid (GatI w (pre ++ tabsF (T.take k)) w4) := ⟨HR.out.1.new hb4,held_two HR.out.2 hb4⟩
   have HPL4 : Hid ((pre ++ tabsF (T.take k)).length <= 16010) := by show _ <= _; rw [List.length_append,HPL.out]; have := HF8.out; omega
   clear hb4
   go_wp2_with fail
   refine (add_any w.heap.size _ [numF n'] _ _ 1 1 _ (HR4.out.1.alloc _) (one_fld2 w4 _ (numF n') rfl) (Nat.le_trans HPL4.out (by omega)) (by omega)).mono ?_
   rintro e w5 ⟨rfl,hadd⟩
   have HG5 := hid (HR4.out.add ((Below.refl _ _).alloc (Nat.le_refl _) _) hadd)
   have HEQ : Hid (pre ++ tabsF (T.take (k + 1)) = pre ++ tabsF (T.take k) ++ [numF (n' : Int)] ++ rowsF l) := by show _ = _; rw [HTK.out]; unfold tabF; rw [HLL.out]; simp
   have HPL5 : Hid ((pre ++ tabsF (T.take k) ++ [numF (n' : Int)]).length <= 16011) := by show _ <= _; rw [List.length_append]; have := HPL4.out; simp at this ⊢; omega
   generalize pre ++ tabsF (T.take k) ++ [numF (n' : Int)] = pre2 at HG5 HEQ HPL5
   clear hadd HR4 HPL4 c0w
   go_wp2
   go_loopw [30,9] (fun vi _ wr => RwRel w pre2 l n' vi wr) (fun vi _ _ => n' - (RowKit.intOf vi).toNat)
   case atStart => exact ⟨0,Nat.zero_le _,rfl,by simpa [rowsF] using HG5.out⟩
   case round =>
    obtain ⟨j,hj,rfl,hgat2⟩ := hrel
    have HR2 := hid hgat2
    clear hgat2
    by_cases hlt2 : j < n'
    ·obtain ⟨b2,off2,x,rfl,hb2,d0,d1,hget2,htake2⟩ := (HRS.out.below (HR2.out.2.mono hB)).at_ hlt2
     have HTK2 := hid (tabF_take htake2)
     obtain ⟨xk,xv⟩ := x
     dsimp only at d0 d1
     have l2 : (j : Int) < (n' : Int) := by omega
     have HKL : Hid ((pre2 ++ rowsF (l.take j)).length <= 1000000) := by
      show _ <= _
      rw [List.length_append,rowsF_length,List.length_take]
      have := HPL5.out
      omega
     clear hget2 htake2
     go_upto_region 10 with fail
     have hv : Gath (wr.alloc (.cells #[.int .i64 xk,.string xv] 52)) w.heap.size (pre2 ++ rowsF (l.take j)) := HR2.out.1.alloc _
     have hx : Blk (wr.alloc (.cells #[.int .i64 xk,.string xv] 52)) wr.heap.size 52 #[.int .i64 xk,.string xv] := Blk.new _ _ _
     have hne : wr.heap.size ≠ w.heap.size := by have := HR2.out.1.lt; omega
     have hbv := HR2.out.2.alloc HR2.out.2.size (.cells #[.int .i64 xk,.string xv] 52)
     generalize (wr.alloc (.cells #[.int .i64 xk,.string xv] 52)) = V at hv hx hbv
     generalize wr.heap.size = s5 at hx hne
     have HGV : Hid (w.heap.size <= V.heap.size) := Nat.le_of_lt hv.lt
     have HV := hid hv
     have HX5 := hid hx
     have HNE := hid hne
     have HBV := hid hbv
     clear hv hx hne hbv
     go_region_held3 (fun w' => w'.cell? ⟨s5,0,none⟩ = some (.int .i64 xk) /\ w'.cell? ⟨s5,1,none⟩ = some (.string xv) /\ Blk w' s5 52 #[.int .i64 xk,.string xv] /\ Below w.heap.size V w')
      (first
        | exact box2 (w := V.drew) HX5.out ((Below.refl _ _).drew)
        | (go_split_ands; exact box2_call HGV.out hb1 (by assumption) (by assumption))
        | (go_split_ands; exact box2_alloc HGV.out _ (by assumption) (by assumption))
        | (go_split_ands; exact box2_add HNE.out (by decide) hadd (by assumption) (by assumption)))
      (first
        | (go_at_call 219; refine (cnumber_g w.heap.size (pre2 ++ rowsF (l.take j)) _ _ (by first | assumption | exact HV.out)).mono ?_; rintro e w1 ⟨rfl,hb1,hg1⟩)
        | (go_at_call 221; refine (ctext_g w.heap.size (pre2 ++ rowsF (l.take j)) _ _ (by first | assumption | exact HV.out)).mono ?_; rintro e w1 ⟨rfl,hb1,hg1⟩)
        | (go_at_call 229; refine (add_any w.heap.size (pre2 ++ rowsF (l.take j)) (rowF ⟨xk,xv⟩) _ _ 2 2 _ (hg1.alloc _) (two_rowF _ _ ⟨xk,xv⟩ rfl) HKL.out (by omega)).mono ?_; rintro e w5 ⟨rfl,hadd⟩)
        | fail)
     all_goals (
      have HZ : Hid (GatI w (pre2 ++ rowsF (l.take (j + 1))) w5) := by
       go_split_ands
       have h := hadd.1
       rw [List.append_assoc,<- HTK2.out] at h
       exact ⟨h,HBV.out.trans (by assumption)⟩
      clear hadd hg1 hb1
      go_wp2
      go_roundw
      case rel => exact ⟨j + 1,by omega,by go_num,HZ.out⟩
      case measure => simp [RowKit.intOf]; omega)
    ·have hlk : l.take j = l := List.take_of_length_le (by rw [HLL.out]; omega)
     rw [hlk,<- HEQ.out] at HR2
     clear hlk
     have l2 : ¬ (j : Int) < (n' : Int) := by omega
     go_wp2
     go_roundw
     case rel => exact ⟨k + 1,by omega,by go_num,HR2.out⟩
     case measure => simp [RowKit.intOf]; omega
  ·have hlk : T.take k = T := List.take_of_length_le (by rw [HL.out]; omega)
   rw [hlk,<- HFI.out] at HR
   clear hlk
   obtain ⟨A2,c2,hbg,hog⟩ := HR.out.1
   have k0 : wr.cell? ⟨w.heap.size,0,none⟩ = some (.slice A2 (fldsI ⟨lsn,T⟩).length c2) := hbg.cell 0
   have HF := hid (Flds.of_own hog)
   have l1 : ¬ (k : Int) < (n : Int) := by omega
   clear hbg hog
   generalize (fldsI ⟨lsn,T⟩).length = N at k0 HF
   go_wp2
   go_ret
   exact ⟨A2,N,c2,rfl,HF.out,HR.out.2⟩
end Img
namespace Img
open Go.RowKit Base FieldMath TxnMath RecMath
open ImgMath
open IdxMath (Rw)
open Field (fv fv_append fv_one fv_length Flds ef ret_bool empty_iff Encoded)
open Rec (Putted)
def EncI (w : World) (x : Im) (e : Ending) (w' : World) : Prop :=
 ∃ A n c,e = .returned (.tuple #[.slice A n c,.int .i64 (err (ImgMath.encI x))]) /\ w'.ownsRow w.heap.size 5 1 (.slice A n c) n (bv (got (ImgMath.encI x))) /\ Below w.heap.size w w'
theorem encI_bad {x : Im} (h : x.may = false) : ImgMath.encI x = .error 1 := by unfold ImgMath.encI; rw [if_neg (by rw [h]; simp)]
theorem encI_ok {x : Im} (h : x.may = true) : ImgMath.encI x = .ok (imgB x) := by unfold ImgMath.encI; rw [if_pos h]
theorem encI_no {w w' : World} {x : Im} {e : Ending} (h : x.may = false) (he : e = .returned (.tuple #[.slice none 0 0,.int .i64 1])) (hb : Below w.heap.size w w') : EncI w x e w' := by
 unfold EncI
 rw [encI_bad h]
 exact ⟨none,0,0,he,World.ownsRow_nil _ _ _ _,hb⟩
theorem encI_put {w w1 w' : World} {x : Im} {e : Ending} (h : x.may = true) (hp : Putted w1 (RecMath.put (FieldMath.encZ (fldsI x))) e w') (hb : Below w.heap.size w w1) : EncI w x e w' := by
 obtain ⟨A,n,c,he,ho,hb1⟩ := hp
 rw [put_fldsI h] at he ho
 unfold EncI
 rw [encI_ok h]
 exact ⟨A,n,c,he,own_mono ho hb.size,held_two hb hb1⟩
theorem encode_any (B : Nat) (lsn : Int) (A : Option Addr) (n c : Nat) (T : List (List Rw)) (w : World) (h : Tabs w B A n c T) (hB : B <= w.heap.size) :
 Calls Tryz.prog 106 #[.int .i64 lsn,.slice A n c] w (EncI w ⟨lsn,T⟩) := by
 have HT := hid h
 clear h
 go_enter Tryz.func106,Tryz.ntmps106
 go_wp2_with fail
 refine (may_any B lsn A n c T w HT.out hB).mono ?_
 rintro e w1 ⟨rfl,hb1⟩
 have HB1 := hid hb1
 clear hb1
 cases hm : Im.may ⟨lsn,T⟩ with
 | false =>
   have HM := hid hm
   clear hm
   go_wp2
   go_ret2
   exact encI_no HM.out rfl HB1.out
 | true =>
   have HM := hid hm
   clear hm
   go_wp2_with fail
   refine (fieldsOf_any B lsn A n c T w1 (HT.out.below (HB1.out.mono hB)) (Nat.le_trans hB HB1.out.size) (may_of HM.out)).mono ?_
   rintro e w2 ⟨A2,n2,c2,rfl,hf2,hb2⟩
   have HB2 := hid (held_two HB1.out hb2)
   have HF2 := hid hf2
   clear hf2 hb2
   go_wp2_with fail
   refine (Field.encode_any w2.heap.size A2 n2 c2 _ w2 HF2.out (Nat.le_refl _)).mono ?_
   rintro e w3 ⟨A3,n3,c3,rfl,ho3,hb3⟩
   rw [enc_fldsI HM.out] at ho3 ⊢
   have HB3 := hid (held_two HB2.out hb3)
   have HO3 : Hid (Bytes w3 w3.heap.size A3 n3 c3 (FieldMath.encZ (fldsI ⟨lsn,T⟩))) := Bytes.of_own ho3
   rw [show ((err (Except.ok (FieldMath.encZ (fldsI ⟨lsn,T⟩)) : Except Nat (List UInt8)) : Nat) : Int) = 0 from rfl]
   clear ho3 hb3 HF2
   have HEI := hid (fun e w' => @encI_put w w3 w' ⟨lsn,T⟩ e HM.out)
   generalize FieldMath.encZ (fldsI ⟨lsn,T⟩) = bs at *
   go_wp2_with fail
   refine (Rec.put_any w3.heap.size A3 n3 c3 bs w3 HO3.out (Nat.le_refl _)).mono ?_
   intro e w4 hp
   have hp0 := hp
   obtain ⟨A4,n4,c4,rfl,ho4,hb4⟩ := hp
   have HP := hid (HEI.out _ _ hp0 HB3.out)
   clear hp0 ho4 hb4
   generalize err (RecMath.put bs) = er at *
   go_wp2
   go_ret2
   exact HP.out
end Img
namespace Src
open Go.RowKit Base
open Foot (Turn Out)
open DiskMath (Fl Dk)
open WalMath (Lg Sg Cap)
open SrcMath (Sc other lay lay0 lay1)
open ImgMath (Im imgB)
open IdxMath (Rw)
open Wal (New Win)
open Disk (DiskAt I64)
open Img (EncI Tabs)
def Laid (T : Nat -> Prop) (w : World) (s p g gd : Nat) (S : Sc) (r : Int × Dk) (e : Ending) (w' : World) : Prop := e = .returned (.int .i64 r.1) /\ SrcAt T w' s p g gd S r.2 /\ Turn T w w'
theorem seek_size {d : Dk} {f : Int} : DiskMath.seek d.files f = none <-> DiskMath.size d f < 0 := by
 unfold DiskMath.size
 cases DiskMath.seek d.files f with
 | none => simp
 | some x => simp
theorem empty_any (T : Nat -> Prop) (s p g gd : Nat) (S : Sc) (d : Dk) (f : Int) (k M : Nat) (w : World) (h : SrcAt T w s p g gd S d) (hT : New T w) (hI : I64 f) (hc : Cap k M d) (hk : k <= 1000000000) :
 Calls Tryz.prog 179 #[.pointer (some ⟨s,3,none⟩),.int .i64 f] w (Laid T w s p g gd S (lay0 d f)) := by
 obtain ⟨c0,c1,c2,c3,c4,c5⟩ := h.cells
 have HS := hid h
 obtain ⟨F,hd,hF,hback⟩ := h.disks hT
 have HL := hid (Disk.len_any F gd d f w hd hI)
 have HK := hid (Disk.cut_any F gd d f 0 w hd (Wal.cap_fits hc hk))
 have HBK := hback
 clear h hd hF hback
 by_cases hz : DiskMath.size d f < 0
 ·have HE := hid (show lay0 d f = (0,d) by unfold lay0; rw [if_pos (seek_size.2 hz)])
  generalize DiskMath.size d f = z at *
  clear HK
  go_enter Tryz.func179,Tryz.ntmps179
  go_wp2_with fail
  refine HL.out.mono ?_
  rintro e w1 ⟨rfl,rfl⟩
  go_wp2
  go_ret
  rw [HE.out]
  exact ⟨rfl,HS.out,Turn.refl _ _⟩
 ·have HE := hid (show lay0 d f = DiskMath.cut d f 0 by unfold lay0; rw [if_neg fun e => hz (seek_size.1 e)])
  rw [HE.out]
  generalize DiskMath.size d f = z at *
  generalize DiskMath.cut d f 0 = r at *
  go_enter Tryz.func179,Tryz.ntmps179
  go_wp2_with fail
  refine HL.out.mono ?_
  rintro e w1 ⟨rfl,rfl⟩
  go_wp2_with fail
  refine HK.out.mono ?_
  rintro e w2 ⟨rfl,h1,h2⟩
  have H1 := hid (HBK.out _ _ h1 h2)
  clear h1 h2
  go_wp2
  go_ret
  exact ⟨rfl,H1.out.1,H1.out.2⟩
def wrote (S : Sc) (d : Dk) (lsn : Int) (b : List UInt8) : Sc := if (lay d (other S.file) b).1 = 0 then { S with file := other S.file,lsn := lsn } else S
def Wrote (T : Nat -> Prop) (w : World) (s p g gd : Nat) (S : Sc) (d : Dk) (lsn : Int) (b : List UInt8) (e : Ending) (w' : World) : Prop := e = .returned (.int .i64 (lay d (other S.file) b).1) /\ SrcAt T w' s p g gd (wrote S d lsn b) (lay d (other S.file) b).2 /\ Turn T w w'
theorem other64 (f : Int) : I64 (other f) := by
 unfold other
 split
 ·exact ⟨by omega,by omega⟩
 ·exact ⟨by omega,by omega⟩
theorem write_any (T : Nat -> Prop) (s p g gd : Nat) (S : Sc) (d : Dk) (lsn : Int) (k M : Nat) (A : Option Addr) (n c : Nat) (b : List UInt8) (w : World) (h : SrcAt T w s p g gd S d) (hT : New T w) (hc : Cap k M d) (hk : k <= 1000000) (hM : M <= 35184372088832) (hr : Bytes w w.heap.size A n c b) (hli : Lies (fun i => ¬ T i) A n) (hn : n <= 35184372088832) :
 Calls Tryz.prog 107 #[.pointer (some ⟨s,3,none⟩),.int .i64 lsn,.slice A n c] w (Wrote T w s p g gd S d lsn b) := by
 obtain ⟨c0,c1,c2,c3,c4,c5⟩ := h.cells
 have HS := hid h
 have HT := hid hT
 have HC := hid hc
 have HR := hid hr
 have HLI := hid hli
 have HEM := hid (empty_any T s p g gd S d (other S.file) k M w h hT (other64 _) hc (by omega))
 have HO := hid (fun wx => other_any (other S.file) wx)
 have hc0 : Cap (k + 1) M (lay0 d (other S.file)).2 := by
  unfold lay0
  split
  ·exact hc.mono (by omega) (Nat.le_refl _)
  ·exact hc.cut _ _
 have HC0 := hid hc0
 have HC1 := hid (hc0.append (other S.file) b)
 have hbn := hr.len
 have HBN := hid hbn
 generalize hof : other S.file = f at *
 have HOF := hid hof
 clear h hT hc hr hli c0 c1 c2 c4 hc0 hbn hof
 go_enter Tryz.func107,Tryz.ntmps107
 go_wp2_with fail
 refine HEM.out.mono ?_
 rintro e w1 ⟨rfl,h1,ht1⟩
 have HS1 := hid h1
 have HT1 := hid ht1
 have hnew1 := HT.out.le ht1.size
 have d3 := h1.cells.2.2.2.1
 obtain ⟨F,hd,hF,hback⟩ := h1.disks hnew1
 have HAP := hid (Disk.append_any F gd (lay0 d f).2 f w1.heap.size A n c b w1 hd (Wal.cap_fits HC0.out (by omega)) (row_turn HR.out HLI.out ht1) (Nat.le_refl _) (by omega) (fun x hx => by have := HC0.out.2.2 x (DiskMath.seek_mem hx).1; omega))
 have HBK := hback
 clear h1 ht1 hd hF hback hnew1 HEM c3
 by_cases h0 : (lay0 d f).1 = 0
 ·have HL1 := hid (show lay1 d f b = DiskMath.append (lay0 d f).2 f b by unfold lay1; rw [if_pos h0])
  have h0' : ((lay0 d f).1 == 0) = true := by simpa using h0
  clear h0
  generalize DiskMath.append (lay0 d f).2 f b = r1 at *
  go_wp2_with fail
  refine HAP.out.mono ?_
  rintro e w2 ⟨rfl,h1,h2⟩
  obtain ⟨h3,h4⟩ := HBK.out _ _ h1 h2
  have HS2 := hid h3
  have HT2 : Hid (Turn T w w2) := HT1.out.trans h4 fun i hi => .inl hi
  have hnew2 := HT.out.le HT2.out.size
  have d3' := h3.cells.2.2.2.1
  obtain ⟨F2,hd2,hF2,hback2⟩ := h3.disks hnew2
  have HSY := hid (Disk.sync_any F2 gd r1.2 f w2 hd2 (Wal.cap_fits HC1.out (by omega)))
  have HBK2 := hback2
  clear h1 h2 h3 h4 hd2 hF2 hback2 hnew2 HAP HBK d3 c5 h0'
  by_cases h0 : r1.1 = 0
  ·have HL := hid (show lay d f b = DiskMath.sync r1.2 f by unfold lay; rw [HL1.out,if_pos h0])
   have h0' : (r1.1 == 0) = true := by simpa using h0
   clear h0
   generalize DiskMath.sync r1.2 f = r2 at *
   go_wp2_with fail
   refine HSY.out.mono ?_
   rintro e w3 ⟨rfl,h1,h2⟩
   obtain ⟨h3,h4⟩ := HBK2.out _ _ h1 h2
   have HS3 := hid h3
   have HT3 : Hid (Turn T w w3) := HT2.out.trans h4 fun i hi => .inl hi
   clear h1 h2 h3 h4 HSY HBK2 d3' h0'
   by_cases h0 : r2.1 = 0
   ·have HZ := hid h0
    have h0' : (r2.1 == 0) = true := by simpa using h0
    clear h0
    have f4 := HS3.out.box.frozen 4
    have f5 := HS3.out.box.frozen 5
    have k4 := HS3.out.cells.2.2.2.2.1
    have k5 := HS3.out.cells.2.2.2.2.2
    have hsl := HS3.out.lt
    go_wp2_with fail
    refine (HO.out _).mono ?_
    rintro e w4 ⟨rfl,rfl⟩
    go_wp2
    go_ret
    have hg2 : w3.grownBy ((w3.setCell ⟨s,4,none⟩ (.int .i64 lsn)).setCell ⟨s,5,none⟩ (.int .i64 (other f))) (some s) := only_setCell (p := ⟨s,5,none⟩) (only_setCell (p := ⟨s,4,none⟩) (World.grownBy.refl w3 (some s)) (.inl rfl) _) (.inl rfl) _
    unfold Wrote wrote
    rw [HOF.out,HL.out,if_pos HZ.out]
    refine ⟨rfl,HS3.out.boxes rfl rfl (fun j hj hjs => hg2.block j hj fun e => hjs (Option.some.inj e)) hg2.size ?_,HT3.out.trans (Turn.grown (F := T) hg2 fun j hj => ?_) fun i hi => .inl hi⟩
    ·exact (HS3.out.box.set_ 4 (.int .i64 lsn)).set_ 5 (.int .i64 (other f))
    ·injection hj with hj
     subst hj
     obtain ⟨L,K,hP⟩ := HS3.out
     exact hP.inS
   ·have HZ := hid h0
    have h0' : (r2.1 == 0) = false := by simpa using h0
    clear h0
    go_wp2
    go_ret
    unfold Wrote wrote
    rw [HOF.out,HL.out,if_neg HZ.out]
    exact ⟨rfl,HS3.out,HT3.out⟩
  ·have HL := hid (show lay d f b = r1 by unfold lay; rw [HL1.out,if_neg h0])
   have HZ := hid h0
   have h0' : (r1.1 == 0) = false := by simpa using h0
   clear h0
   go_wp2
   go_ret
   unfold Wrote wrote
   rw [HOF.out,HL.out,if_neg HZ.out]
   exact ⟨rfl,HS2.out,HT2.out⟩
 ·have HL1 := hid (show lay1 d f b = lay0 d f by unfold lay1; rw [if_neg h0])
  have HL := hid (show lay d f b = lay0 d f by unfold lay; rw [HL1.out,if_neg h0])
  have HZ := hid h0
  have h0' : ((lay0 d f).1 == 0) = false := by simpa using h0
  clear h0
  go_wp2
  go_ret
  unfold Wrote wrote
  rw [HOF.out,HL.out,if_neg HZ.out]
  exact ⟨rfl,HS1.out,HT1.out⟩
end Src
namespace Disk
open Go.RowKit Base DiskMath Foot
theorem arm_any (F : Nat -> Prop) (g : Nat) (d : Dk) (n : Int) (w : World) (h : DiskAt F w g d) :
 Calls Tryz.prog 11 #[.pointer (some ⟨g,0,none⟩),.int .i64 n] w (Armed F w g (arm d n)) := by
 obtain ⟨m,pl,hh,hg,hb⟩ := h
 have c1 := hh.cells.2.1
 have z1 := Blk.frozen hh 1
 have HD : Hid (∀ k : Nat,DiskAt (Out F w (w.setCell ⟨g,1,none⟩ (.int .i64 k))) (w.setCell ⟨g,1,none⟩ (.int .i64 k)) g { d with left := k } /\ Turn F w (w.setCell ⟨g,1,none⟩ (.int .i64 k))) := fun k =>
  have hw : w.grownBy (w.setCell ⟨g,1,none⟩ (.int .i64 k)) (some g) := only_set (World.grownBy.refl _ _) _ _
  ⟨⟨m,pl,Blk.set_ hh 1 _,.inl hg,(hb.head hh hw).mono fun _ hi => .inl hi⟩,Turn.grown hw fun j e => by injection e with e; rw [<- e]; exact hg⟩
 clear hh hb
 by_cases hn : 0 <= n
 ·obtain ⟨k,rfl⟩ := Int.eq_ofNat_of_zero_le hn
  have HA := hid (show arm d k = { d with left := k } by rw [arm,Int.toNat_natCast])
  clear hn
  go_enter Tryz.func11,Tryz.ntmps11
  go_wp2
  go_end0
  rw [HA.out]
  exact ⟨rfl,HD.out k⟩
 ·have HA := hid (show arm d n = { d with left := 0 } by rw [arm,show n.toNat = 0 by omega])
  have h1 : n < 0 := by omega
  clear hn
  go_enter Tryz.func11,Tryz.ntmps11
  go_wp2
  go_end0
  rw [HA.out]
  have e0 : max n 0 = ((0 : Nat) : Int) := by omega
  first | exact ⟨rfl,HD.out 0⟩ | (rw [e0]; exact ⟨rfl,HD.out 0⟩)
end Disk
end Go.Proofs.YtefnmnpfecfdaaaGreat
