/-
  Texts of one proof: TxnGather, TxnEncode.
-/
import Derived.Test.YtefnmnpfecfdaaaGreatPf31
set_option linter.all false
set_option maxRecDepth 100000
set_option maxHeartbeats 3200000
open Go.Lib (hid)
namespace Go.Proofs.YtefnmnpfecfdaaaGreat
namespace Txn
open Go.RowKit Base FieldMath TxnMath
open Field (fv fv_append fv_one fv_length Flds ef ret_bool empty_iff Encoded)
theorem cnumber_g (g : Nat) (l : List Fld) (n : Int) (w : World) (h : Gath w g l) :
 Calls Tryz.prog 219 #[.int .i64 n] w fun e w' => e = .returned (.agg #[.int .i64 1,.int .i64 n,.string ⟨#[]⟩]) /\ Below w.heap.size w w' /\ Gath w' g l :=
 (cnumber_any n w).mono fun _ _ ⟨he,hb⟩ => ⟨he,hb,h.new hb⟩
theorem ctext_g (g : Nat) (l : List Fld) (s : ByteArray) (w : World) (h : Gath w g l) :
 Calls Tryz.prog 221 #[.string s] w fun e w' => e = .returned (.agg #[.int .i64 2,.int .i64 0,.string s]) /\ Below w.heap.size w w' /\ Gath w' g l :=
 (ctext_any s w).mono fun _ _ ⟨he,hb⟩ => ⟨he,hb,h.new hb⟩
theorem yes_g (g : Nat) (l : List Fld) (b : Bool) (w : World) (h : Gath w g l) :
 Calls Tryz.prog 220 #[.bool b] w fun e w' => e = .returned (.agg #[.int .i64 1,.int .i64 (flag b),.string ⟨#[]⟩]) /\ Below w.heap.size w w' /\ Gath w' g l :=
 (yes_any b w).mono fun _ _ ⟨he,hb⟩ => ⟨he,hb,h.new hb⟩
section
variable {W w w1 : World} {s g : Nat} {T : TypeId} {x0 x1 x2 x3 x4 : Value}
theorem box3 (h : Blk w s T #[x0,x1,x2,x3,x4]) (hb : Below g W w) : w.cell? ⟨s,0,none⟩ = some x0 /\ w.cell? ⟨s,1,none⟩ = some x1 /\ w.cell? ⟨s,4,none⟩ = some x4 /\ Blk w s T #[x0,x1,x2,x3,x4] /\ Below g W w := ⟨h.cell 0,h.cell 1,h.cell 4,h,hb⟩
theorem box3_call (hg : g <= W.heap.size) (hb : Below w.heap.size w w1) (h : Blk w s T #[x0,x1,x2,x3,x4]) (k : Below g W w) : w1.cell? ⟨s,0,none⟩ = some x0 /\ w1.cell? ⟨s,1,none⟩ = some x1 /\ w1.cell? ⟨s,4,none⟩ = some x4 /\ Blk w1 s T #[x0,x1,x2,x3,x4] /\ Below g W w1 := box3 (h.below hb h.lt) (k.trans (hb.mono (Nat.le_trans hg k.size)))
theorem box3_alloc (hg : g <= W.heap.size) (o : Obj) (h : Blk w s T #[x0,x1,x2,x3,x4]) (k : Below g W w) : (w.alloc o).cell? ⟨s,0,none⟩ = some x0 /\ (w.alloc o).cell? ⟨s,1,none⟩ = some x1 /\ (w.alloc o).cell? ⟨s,4,none⟩ = some x4 /\ Blk (w.alloc o) s T #[x0,x1,x2,x3,x4] /\ Below g W (w.alloc o) := box3 (h.alloc o) (k.alloc (Nat.le_trans hg k.size) o)
theorem box3_add {l : List Fld} (hs : s < g) (ha : Added w g l w1) (h : Blk w s T #[x0,x1,x2,x3,x4]) (k : Below g W w) : w1.cell? ⟨s,0,none⟩ = some x0 /\ w1.cell? ⟨s,1,none⟩ = some x1 /\ w1.cell? ⟨s,4,none⟩ = some x4 /\ Blk w1 s T #[x0,x1,x2,x3,x4] /\ Below g W w1 := box3 (h.below ha.2.1 hs) (k.trans ha.2.1)
theorem box4 (h : Blk w s T #[x0,x1,x2,x3]) (hb : Below g W w) : w.cell? ⟨s,0,none⟩ = some x0 /\ w.cell? ⟨s,1,none⟩ = some x1 /\ w.cell? ⟨s,2,none⟩ = some x2 /\ w.cell? ⟨s,3,none⟩ = some x3 /\ Blk w s T #[x0,x1,x2,x3] /\ Below g W w := ⟨h.cell 0,h.cell 1,h.cell 2,h.cell 3,h,hb⟩
theorem box4_call (hg : g <= W.heap.size) (hb : Below w.heap.size w w1) (h : Blk w s T #[x0,x1,x2,x3]) (k : Below g W w) : w1.cell? ⟨s,0,none⟩ = some x0 /\ w1.cell? ⟨s,1,none⟩ = some x1 /\ w1.cell? ⟨s,2,none⟩ = some x2 /\ w1.cell? ⟨s,3,none⟩ = some x3 /\ Blk w1 s T #[x0,x1,x2,x3] /\ Below g W w1 := box4 (h.below hb h.lt) (k.trans (hb.mono (Nat.le_trans hg k.size)))
theorem box4_alloc (hg : g <= W.heap.size) (o : Obj) (h : Blk w s T #[x0,x1,x2,x3]) (k : Below g W w) : (w.alloc o).cell? ⟨s,0,none⟩ = some x0 /\ (w.alloc o).cell? ⟨s,1,none⟩ = some x1 /\ (w.alloc o).cell? ⟨s,2,none⟩ = some x2 /\ (w.alloc o).cell? ⟨s,3,none⟩ = some x3 /\ Blk (w.alloc o) s T #[x0,x1,x2,x3] /\ Below g W (w.alloc o) := box4 (h.alloc o) (k.alloc (Nat.le_trans hg k.size) o)
theorem box4_add {l : List Fld} (hs : s ≠ g) (hT : T ≠ 143) (ha : Added w g l w1) (h : Blk w s T #[x0,x1,x2,x3]) (k : Below g W w) : w1.cell? ⟨s,0,none⟩ = some x0 /\ w1.cell? ⟨s,1,none⟩ = some x1 /\ w1.cell? ⟨s,2,none⟩ = some x2 /\ w1.cell? ⟨s,3,none⟩ = some x3 /\ Blk w1 s T #[x0,x1,x2,x3] /\ Below g W w1 := box4 (ha.2.2 s T _ h hs hT) (k.trans ha.2.1)
end
def Gat (w : World) (cs : Array Value) (l : List Fld) (wr : World) : Prop := Blk wr w.heap.size 39 cs /\ Gath wr (w.heap.size + 1) l /\ Below w.heap.size w wr
theorem Gat.add {w wr w1 : World} {cs : Array Value} {l m : List Fld} (h : Gat w cs l wr) (hb : Below wr.heap.size wr w1) {w2 : World} (ha : Added w1 (w.heap.size + 1) m w2) : Gat w cs m w2 :=
 ⟨(h.1.below hb h.1.lt).below ha.2.1 (by omega),ha.1,(held_two h.2.2 hb).trans (ha.2.1.mono (by omega))⟩
theorem Gat.alloc {w wr : World} {cs : Array Value} {l : List Fld} (h : Gat w cs l wr) (o : Obj) : Gat w cs l (wr.alloc o) := ⟨h.1.alloc o,h.2.1.alloc o,held_alloc h.2.2 o⟩
theorem Gat.last {w wr w2 : World} {cs : Array Value} {l m : List Fld} (h : Gat w cs l wr) (hb : Below (w.heap.size + 1) wr w2) (ha : Gath w2 (w.heap.size + 1) m) : Gat w cs m w2 :=
 ⟨h.1.below hb (by omega),ha,h.2.2.trans (hb.mono (by omega))⟩
def GathRel (w : World) (cs : Array Value) (pre : List Fld) (l : List Ch) (n : Nat) (i : Value) (wr : World) : Prop := ∃ k : Nat,k <= n /\ i = .int .i64 k /\ Gat w cs (pre ++ chsF (l.take k)) wr
def SigsRel (w : World) (cs : Array Value) (pre : List Fld) (l : List ByteArray) (n : Nat) (i : Value) (wr : World) : Prop := ∃ k : Nat,k <= n /\ i = .int .i64 k /\ Gat w cs (pre ++ (l.take k).map txtF) wr
theorem one_fld2 (w : World) (e : TypeId) (f : Fld) {s : Nat} (hs : s = w.heap.size) : Flds (w.alloc (.cells #[.int .i64 f.kind,.int .i64 f.n,.string f.s] e)) (w.heap.size + 1) (some ⟨s,0,none⟩) 1 1 [f] :=
 Row.lit w #[.int .i64 f.kind,.int .i64 f.n,.string f.s] e (0,0) hs rfl (by omega)
theorem three_nums (w : World) (e : TypeId) (a b c : Int) {s : Nat} (hs : s = w.heap.size) : Flds (w.alloc (.cells #[.int .i64 1,.int .i64 a,.string ⟨#[]⟩,.int .i64 1,.int .i64 b,.string ⟨#[]⟩,.int .i64 1,.int .i64 c,.string ⟨#[]⟩] e)) (w.heap.size + 1) (some ⟨s,0,none⟩) 3 3 [numF a,numF b,numF c] :=
 Row.lit w #[.int .i64 1,.int .i64 a,.string ⟨#[]⟩,.int .i64 1,.int .i64 b,.string ⟨#[]⟩,.int .i64 1,.int .i64 c,.string ⟨#[]⟩] e (0,0) hs rfl (by omega)
theorem four_chF (w : World) (e : TypeId) (f : Ch) {s : Nat} (hs : s = w.heap.size) : Flds (w.alloc (.cells #[.int .i64 1,.int .i64 f.tbl,.string ⟨#[]⟩,.int .i64 1,.int .i64 f.key,.string ⟨#[]⟩,.int .i64 1,.int .i64 (flag f.gone),.string ⟨#[]⟩,.int .i64 2,.int .i64 0,.string f.val] e)) (w.heap.size + 1) (some ⟨s,0,none⟩) 4 4 (chF f) :=
 Row.lit w #[.int .i64 1,.int .i64 f.tbl,.string ⟨#[]⟩,.int .i64 1,.int .i64 f.key,.string ⟨#[]⟩,.int .i64 1,.int .i64 (flag f.gone),.string ⟨#[]⟩,.int .i64 2,.int .i64 0,.string f.val] e (0,0) hs rfl (by omega)
theorem fieldsOf_any (B : Nat) (lsn kind mark : Int) (A : Option Addr) (n c : Nat) (l : List Ch) (A' : Option Addr) (n' c' : Nat) (m : List ByteArray) (w : World) (h1 : Chs w B A n c l) (h2 : Sigs w B A' n' c' m) (hB : B <= w.heap.size) (hn : n <= 16) (hn' : n' <= 2) :
 Calls Tryz.prog 170 #[.agg #[.int .i64 lsn,.int .i64 kind,.slice A n c,.slice A' n' c',.int .i64 mark]] w fun e w' => ∃ A2 n2 c2,e = .returned (.slice A2 n2 c2) /\ Flds w' w'.heap.size A2 n2 c2 (flds ⟨lsn,kind,l,m,mark⟩) /\ Below w.heap.size w w' := by
 have HL := hid h1.len
 have HL' := hid h2.len
 have HC := hid h1
 have HS := hid h2
 clear h1 h2
 go_enter Tryz.func170,Tryz.ntmps170
 go_wp2_with fail
 have hx : Blk ((w.alloc (.cells #[.int .i64 lsn,.int .i64 kind,.slice A n c,.slice A' n' c',.int .i64 mark] 39)).alloc (.cells #[.slice none 0 0] 287)) w.heap.size 39 #[.int .i64 lsn,.int .i64 kind,.slice A n c,.slice A' n' c',.int .i64 mark] := (Blk.new _ _ _).alloc _
 have hg : Gath ((w.alloc (.cells #[.int .i64 lsn,.int .i64 kind,.slice A n c,.slice A' n' c',.int .i64 mark] 39)).alloc (.cells #[.slice none 0 0] 287)) (w.heap.size + 1) [] := ⟨none,0,by have := Blk.new (w.alloc (.cells #[.int .i64 lsn,.int .i64 kind,.slice A n c,.slice A' n' c',.int .i64 mark] 39)) 287 #[.slice none 0 0]; simpa using this,World.ownsRow_nil _ _ _ _⟩
 have hw : Below w.heap.size w ((w.alloc (.cells #[.int .i64 lsn,.int .i64 kind,.slice A n c,.slice A' n' c',.int .i64 mark] 39)).alloc (.cells #[.slice none 0 0] 287)) := ((Below.refl _ _).alloc (Nat.le_refl _) _).alloc (by simp) _
 generalize ((w.alloc (.cells #[.int .i64 lsn,.int .i64 kind,.slice A n c,.slice A' n' c',.int .i64 mark] 39)).alloc (.cells #[.slice none 0 0] 287)) = W at hx hg hw
 have HGW : Hid (w.heap.size + 1 <= W.heap.size) := Nat.le_of_lt hg.lt
 have HX := hid hx
 have HG := hid hg
 have HW := hid hw
 clear hx hg hw
 go_region_held3 (fun w' => w'.cell? ⟨w.heap.size,0,none⟩ = some (.int .i64 lsn) /\ w'.cell? ⟨w.heap.size,1,none⟩ = some (.int .i64 kind) /\ w'.cell? ⟨w.heap.size,4,none⟩ = some (.int .i64 mark) /\ Blk w' w.heap.size 39 #[.int .i64 lsn,.int .i64 kind,.slice A n c,.slice A' n' c',.int .i64 mark] /\ Below (w.heap.size + 1) W w')
  (first
    | exact box3 (w := W.drew) HX.out ((Below.refl _ _).drew)
    | (go_split_ands; exact box3_call HGW.out hb1 (by assumption) (by assumption))
    | (go_split_ands; exact box3_alloc HGW.out _ (by assumption) (by assumption))
    | (go_split_ands; exact box3_add (Nat.lt_succ_self _) hadd (by assumption) (by assumption)))
  (first
    | (go_at_call 219; refine (cnumber_g (w.heap.size + 1) [] _ _ (by first | assumption | exact HG.out)).mono ?_; rintro e w1 ⟨rfl,hb1,hg1⟩)
    | (go_at_call 218; refine (add_any (w.heap.size + 1) [] [numF lsn,numF kind,numF mark] _ _ 3 3 _ (hg1.alloc _) (three_nums _ _ _ _ _ rfl) (by simp) (by omega)).mono ?_; rintro e w5 ⟨rfl,hadd⟩)
    | fail)
 have HT : Hid (Gat w #[.int .i64 lsn,.int .i64 kind,.slice A n c,.slice A' n' c',.int .i64 mark] [numF lsn,numF kind,numF mark] w5) := by
  go_split_ands
  exact ⟨by assumption,hadd.1,HW.out.trans ((by assumption : Below (w.heap.size + 1) W w5).mono (by omega))⟩
 have c2 : w5.cell? ⟨w.heap.size,2,none⟩ = some (.slice A n c) := HT.out.1.cell 2
 clear hadd hg1 hb1
 go_wp2_with fail
 refine (cnumber_any _ _).mono ?_
 rintro e w6 ⟨rfl,hb6⟩
 go_wp2_with fail
 refine (add_any (w.heap.size + 1) _ [numF n] _ _ 1 1 _ ((HT.out.2.1.new hb6).alloc _) (one_fld2 _ _ (numF n) rfl) (by simp) (by omega)).mono ?_
 rintro e w7 ⟨rfl,hadd7⟩
 have HT7 := hid (HT.out.add (held_alloc hb6 _) hadd7)
 have c2' : w7.cell? ⟨w.heap.size,2,none⟩ = some (.slice A n c) := HT7.out.1.cell 2
 have hpl : ([numF lsn,numF kind,numF mark] ++ [numF (n : Int)]).length = 4 := rfl
 have HPL := hid hpl
 generalize hpre : [numF lsn,numF kind,numF mark] ++ [numF (n : Int)] = pre at HT7 HPL
 have HPRE := hid hpre
 clear hadd7 hb6 hpl hpre
 go_wp2
 go_loopw [28] (fun i wr => GathRel w #[.int .i64 lsn,.int .i64 kind,.slice A n c,.slice A' n' c',.int .i64 mark] pre l n i wr) (fun i _ => n - (RowKit.intOf i).toNat)
 case atStart => exact ⟨0,Nat.zero_le _,rfl,by simpa [chsF] using HT7.out⟩
 case round =>
  obtain ⟨k,hk,rfl,hgat⟩ := hrel
  have HR := hid hgat
  clear hgat
  by_cases hlt : k < n
  ·obtain ⟨b,off,f,rfl,hb,c0,c1,q2,c3,hget,htake⟩ := (HC.out.below (HR.out.2.2.mono hB)).at_ hlt
   have HTK := hid htake
   clear hget htake
   obtain ⟨ft,fk,fg,fv'⟩ := f
   dsimp only at c0 c1 q2 c3
   have hkl : (l.take k).length <= 16 := by rw [List.length_take]; omega
   have HKL : Hid ((pre ++ chsF (l.take k)).length <= 1000000) := by
    show _ <= _
    rw [List.length_append,chsF_length,HPL.out]
    omega
   clear hkl
   go_wp2_with fail
   have hv : Gat w #[.int .i64 lsn,.int .i64 kind,.slice (some ⟨b,off,none⟩) n c,.slice A' n' c',.int .i64 mark] (pre ++ chsF (l.take k)) (wr.alloc (.cells #[.int .i64 ft,.int .i64 fk,.bool fg,.string fv'] 64)) := HR.out.alloc _
   have hx : Blk (wr.alloc (.cells #[.int .i64 ft,.int .i64 fk,.bool fg,.string fv'] 64)) wr.heap.size 64 #[.int .i64 ft,.int .i64 fk,.bool fg,.string fv'] := Blk.new _ _ _
   have hne : wr.heap.size ≠ w.heap.size + 1 := by have := HR.out.2.1.lt; omega
   generalize (wr.alloc (.cells #[.int .i64 ft,.int .i64 fk,.bool fg,.string fv'] 64)) = V at hv hx
   generalize wr.heap.size = s5 at hx hne
   have HGV : Hid (w.heap.size + 1 <= V.heap.size) := Nat.le_of_lt hv.2.1.lt
   have HV := hid hv
   have HX5 := hid hx
   have HNE := hid hne
   clear hv hx hne
   go_region_held3 (fun w' => w'.cell? ⟨s5,0,none⟩ = some (.int .i64 ft) /\ w'.cell? ⟨s5,1,none⟩ = some (.int .i64 fk) /\ w'.cell? ⟨s5,2,none⟩ = some (.bool fg) /\ w'.cell? ⟨s5,3,none⟩ = some (.string fv') /\ Blk w' s5 64 #[.int .i64 ft,.int .i64 fk,.bool fg,.string fv'] /\ Below (w.heap.size + 1) V w')
    (first
      | exact box4 (w := V.drew) HX5.out ((Below.refl _ _).drew)
      | (go_split_ands; exact box4_call HGV.out hb1 (by assumption) (by assumption))
      | (go_split_ands; exact box4_alloc HGV.out _ (by assumption) (by assumption))
      | (go_split_ands; exact box4_add HNE.out (by decide) hadd (by assumption) (by assumption)))
    (first
      | (go_at_call 219; refine (cnumber_g (w.heap.size + 1) (pre ++ chsF (l.take k)) _ _ (by first | assumption | exact HV.out.2.1)).mono ?_; rintro e w1 ⟨rfl,hb1,hg1⟩)
      | (go_at_call 220; refine (yes_g (w.heap.size + 1) (pre ++ chsF (l.take k)) _ _ (by assumption)).mono ?_; rintro e w1 ⟨rfl,hb1,hg1⟩)
      | (go_at_call 221; refine (ctext_g (w.heap.size + 1) (pre ++ chsF (l.take k)) _ _ (by assumption)).mono ?_; rintro e w1 ⟨rfl,hb1,hg1⟩)
      | (go_at_call 218; refine (add_any (w.heap.size + 1) (pre ++ chsF (l.take k)) (chF ⟨ft,fk,fg,fv'⟩) _ _ 4 4 _ (hg1.alloc _) (four_chF _ _ ⟨ft,fk,fg,fv'⟩ rfl) HKL.out (by omega)).mono ?_; rintro e w5 ⟨rfl,hadd⟩)
      | fail)
   have HZ : Hid (Gat w #[.int .i64 lsn,.int .i64 kind,.slice (some ⟨b,off,none⟩) n c,.slice A' n' c',.int .i64 mark] (pre ++ chsF (l.take (k + 1))) w5) := by
    go_split_ands
    have h := hadd.1
    rw [List.append_assoc,<- chsF_snoc,<- HTK.out] at h
    exact HV.out.last (by assumption) h
   clear hadd hg1 hb1
   go_wp2
   go_roundw
   case rel => exact ⟨k + 1,by omega,by go_num,HZ.out⟩
   case measure => simp [RowKit.intOf]; omega
  ·have hlk : l.take k = l := List.take_of_length_le (by rw [HL.out]; omega)
   rw [hlk] at HR
   clear hlk
   have e3 : wr.cell? ⟨w.heap.size,3,none⟩ = some (.slice A' n' c') := HR.out.1.cell 3
   have hpl2 : (pre ++ chsF l).length <= 68 := by
    rw [List.length_append,chsF_length,HPL.out,HL.out]
    omega
   have HPL2 := hid hpl2
   clear hpl2
   go_wp2_with fail
   refine (cnumber_any _ _).mono ?_
   rintro e w6 ⟨rfl,hb6⟩
   go_wp2_with fail
   refine (add_any (w.heap.size + 1) _ [numF n'] _ _ 1 1 _ ((HR.out.2.1.new hb6).alloc _) (one_fld2 _ _ (numF n') rfl) (Nat.le_trans HPL2.out (by omega)) (by omega)).mono ?_
   rintro e w8 ⟨rfl,hadd8⟩
   have HT8 := hid (HR.out.add (held_alloc hb6 _) hadd8)
   have e3' : w8.cell? ⟨w.heap.size,3,none⟩ = some (.slice A' n' c') := HT8.out.1.cell 3
   clear hadd8 hb6
   have HP3 : Hid ((pre ++ chsF l ++ [numF (n' : Int)]).length <= 69) := by
    show _ <= _
    have := HPL2.out
    rw [List.length_append,List.length_singleton]
    omega
   have HE3 : Hid (pre ++ chsF l ++ [numF (n' : Int)] ++ m.map txtF = flds ⟨lsn,kind,l,m,mark⟩) := by
    show _ = _
    unfold flds
    dsimp only
    rw [<- HPRE.out,HL.out,HL'.out]
    rfl
   generalize pre ++ chsF l ++ [numF (n' : Int)] = pre2 at HT8 HP3 HE3
   go_wp2
   go_loopw [56] (fun i wr => SigsRel w #[.int .i64 lsn,.int .i64 kind,.slice A n c,.slice A' n' c',.int .i64 mark] pre2 m n' i wr) (fun i _ => n' - (RowKit.intOf i).toNat)
   case atStart => exact ⟨0,Nat.zero_le _,rfl,by simpa using HT8.out⟩
   case round =>
    obtain ⟨j,hj,rfl,hgat⟩ := hrel
    have HR2 := hid hgat
    clear hgat
    by_cases hlt2 : j < n'
    ·obtain ⟨b,off,s,rfl,hb,c0,hget,htake⟩ := (HS.out.below (HR2.out.2.2.mono hB)).at_ hlt2
     have HTK := hid htake
     clear hget htake
     have HKL : Hid ((pre2 ++ (m.take j).map txtF).length <= 1000000) := by
      show _ <= _
      have := HP3.out
      rw [List.length_append,List.length_map,List.length_take]
      omega
     go_wp2_with fail
     refine (ctext_any _ _).mono ?_
     rintro e w6 ⟨rfl,hb6⟩
     go_wp2_with fail
     refine (add_any (w.heap.size + 1) _ [txtF s] _ _ 1 1 _ ((HR2.out.2.1.new hb6).alloc _) (one_fld2 _ _ (txtF s) rfl) HKL.out (by omega)).mono ?_
     rintro e w8 ⟨rfl,hadd8⟩
     have HZ : Hid (Gat w #[.int .i64 lsn,.int .i64 kind,.slice A n c,.slice (some ⟨b,off,none⟩) n' c',.int .i64 mark] (pre2 ++ (m.take (j + 1)).map txtF) w8) := by
      have h := HR2.out.add (held_alloc hb6 _) hadd8
      rw [List.append_assoc,show (m.take j).map txtF ++ [txtF s] = (m.take (j + 1)).map txtF by rw [HTK.out,List.map_append]; rfl] at h
      exact h
     clear hadd8 hb6
     go_wp2
     go_roundw
     case rel => exact ⟨j + 1,by omega,by go_num,HZ.out⟩
     case measure => simp [RowKit.intOf]; omega
    ·have hlk : m.take j = m := List.take_of_length_le (by rw [HL'.out]; omega)
     rw [hlk,HE3.out] at HR2
     clear hlk
     obtain ⟨A2,c2,hbg,hog⟩ := HR2.out.2.1
     have k0 : wr.cell? ⟨w.heap.size + 1,0,none⟩ = some (.slice A2 (flds ⟨lsn,kind,l,m,mark⟩).length c2) := hbg.cell 0
     have HF := hid (Flds.of_own hog)
     clear hbg hog
     generalize (flds ⟨lsn,kind,l,m,mark⟩).length = N at k0 HF
     go_wp2
     go_ret
     exact ⟨A2,N,c2,rfl,HF.out,HR2.out.2.2⟩
def EncT (w : World) (t : Tx) (e : Ending) (w' : World) : Prop :=
 ∃ A n c,e = .returned (.tuple #[.slice A n c,.int .i64 (err (encT t))]) /\ w'.ownsRow w.heap.size 5 1 (.slice A n c) n (bv (got (encT t))) /\ Below w.heap.size w w'
end Txn
namespace Txn
open Go.RowKit Base FieldMath TxnMath
open Field (fv fv_append fv_one fv_length Flds ef ret_bool empty_iff Encoded)
theorem encT_bad {t : Tx} (h : t.may = false) : encT t = .error 1 := by unfold encT; rw [if_neg (by rw [h]; simp)]
theorem encT_ok {t : Tx} (h : t.may = true) : encT t = .ok (FieldMath.encZ (flds t)) := by unfold encT; rw [if_pos h]
theorem encT_err {w w' : World} {t : Tx} {e : Ending} (h : t.may = false) (he : e = .returned (.tuple #[.slice none 0 0,.int .i64 1])) (hb : Below w.heap.size w w') : EncT w t e w' := by
 unfold EncT
 rw [encT_bad h]
 exact ⟨none,0,0,he,World.ownsRow_nil _ _ _ _,hb⟩
theorem encT_of {w w1 w' : World} {t : Tx} {e : Ending} {A : Option Addr} {n c : Nat} (h : t.may = true) (he : e = .returned (.tuple #[.slice A n c,.int .i64 (err (enc (flds t)))])) (ho : w'.ownsRow w1.heap.size 5 1 (.slice A n c) n (bv (got (enc (flds t))))) (hs : w.heap.size <= w1.heap.size) (hb : Below w.heap.size w w') : EncT w t e w' := by
 unfold EncT
 rw [encT_ok h,<- enc_flds h]
 exact ⟨A,n,c,he,own_mono ho hs,hb⟩
theorem encode_any (B : Nat) (lsn kind mark : Int) (A : Option Addr) (n c : Nat) (l : List Ch) (A' : Option Addr) (n' c' : Nat) (m : List ByteArray) (w : World) (h1 : Chs w B A n c l) (h2 : Sigs w B A' n' c' m) (hB : B <= w.heap.size) :
 Calls Tryz.prog 103 #[.agg #[.int .i64 lsn,.int .i64 kind,.slice A n c,.slice A' n' c',.int .i64 mark]] w (EncT w ⟨lsn,kind,l,m,mark⟩) := by
 have HL := hid h1.len
 have HL' := hid h2.len
 have HC := hid h1
 have HS := hid h2
 clear h1 h2
 have HW : Hid (Below w.heap.size w (w.alloc (.cells #[.int .i64 lsn,.int .i64 kind,.slice A n c,.slice A' n' c',.int .i64 mark] 39))) := (Below.refl _ _).alloc (Nat.le_refl _) _
 have HX : Hid (Blk (w.alloc (.cells #[.int .i64 lsn,.int .i64 kind,.slice A n c,.slice A' n' c',.int .i64 mark] 39)) w.heap.size 39 #[.int .i64 lsn,.int .i64 kind,.slice A n c,.slice A' n' c',.int .i64 mark]) := Blk.new _ _ _
 go_enter Tryz.func103,Tryz.ntmps103
 go_wp2_with fail
 refine (may_any B lsn kind mark A n c l A' n' c' m _ (HC.out.below (HW.out.mono hB)) (HS.out.below (HW.out.mono hB)) (Nat.le_trans hB HW.out.size)).mono ?_
 rintro e w1 ⟨rfl,hb1⟩
 have hx1 := HX.out.below hb1 HX.out.lt
 have k0 : w1.cell? ⟨w.heap.size,0,none⟩ = some (.int .i64 lsn) := hx1.cell 0
 have k1 : w1.cell? ⟨w.heap.size,1,none⟩ = some (.int .i64 kind) := hx1.cell 1
 have k2 : w1.cell? ⟨w.heap.size,2,none⟩ = some (.slice A n c) := hx1.cell 2
 have k3 : w1.cell? ⟨w.heap.size,3,none⟩ = some (.slice A' n' c') := hx1.cell 3
 have k4 : w1.cell? ⟨w.heap.size,4,none⟩ = some (.int .i64 mark) := hx1.cell 4
 have HB1 := hid (held_two HW.out hb1)
 clear hb1 hx1 HX HW
 cases hm : Tx.may ⟨lsn,kind,l,m,mark⟩ with
 | false =>
   have HM := hid hm
   clear hm
   go_wp2
   go_ret2
   exact encT_err HM.out rfl HB1.out
 | true =>
   have HM := hid hm
   have hn : n <= 16 := by have := (may_of hm).chs; have h3 := HL.out; dsimp only at this; omega
   have hn' : n' <= 2 := by have := (may_of hm).sigs; have h3 := HL'.out; dsimp only at this; omega
   clear hm
   go_wp2_with fail
   refine (fieldsOf_any B lsn kind mark A n c l A' n' c' m _ (HC.out.below (HB1.out.mono hB)) (HS.out.below (HB1.out.mono hB)) (Nat.le_trans hB HB1.out.size) hn hn').mono ?_
   rintro e w2 ⟨A2,n2,c2,rfl,hf2,hb2⟩
   have HF2 := hid hf2
   have HB2 := hid (held_two HB1.out hb2)
   clear hf2 hb2
   go_wp2_with fail
   refine (Field.encode_any _ A2 n2 c2 _ _ HF2.out (Nat.le_refl _)).mono ?_
   rintro e w3 ⟨A3,n3,c3,rfl,ho3,hb3⟩
   have HO3 := hid ho3
   have HB3 := hid (held_two HB2.out hb3)
   clear ho3 hb3
   generalize hq : err (enc (flds ⟨lsn,kind,l,m,mark⟩)) = q
   have HQ := hid hq
   clear hq
   go_wp2
   go_ret2
   exact encT_of HM.out (by rw [HQ.out]; rfl) HO3.out HB2.out.size HB3.out
end Txn
end Go.Proofs.YtefnmnpfecfdaaaGreat
