/-
  Texts of one proof: SrcSound, SrcCap.
-/
import Derived.Test.YtefnmnpfecfdaaaGreatPf07
set_option linter.all false
set_option maxRecDepth 100000
set_option maxHeartbeats 200000
namespace Go.Proofs.YtefnmnpfecfdaaaGreat
namespace WalMath
open FieldMath RecMath SegMath
open DiskMath (Fl Dk Up seek ins del grow sure begunL crashL setl keeps)
theorem trimS_arm {lsn : Int} : ∀ (segs : List Sg) (f x : Int) (d : Dk),Full f x segs -> d.files = img segs -> d.off = false -> 0 <= f -> f + segs.length <= 16384 ->
 ∃ e segs' d' k j,trimS lsn segs d = (e,segs',d') /\ ((e = 0 /\ d'.off = false) \/ (e = 8 /\ d'.off = true)) /\ Full (f + (k : Nat)) (x + (j : Nat)) segs' /\ d'.files = img segs' /\ segs'.length + k = segs.length /\ rowsOf segs' = (rowsOf segs).drop j /\ (segs ≠ [] -> segs' ≠ []) /\ d'.ops <= d.ops + segs.length /\ d'.left <= d.left /\ (0 < j -> x + j - 1 <= lsn) /\ j <= cnt segs
 | [],f,x,d,hc,h1,h2,_,_ => ⟨0,[],d,0,0,rfl,.inl ⟨rfl,h2⟩,trivial,h1,rfl,rfl,fun h => h,by omega,by omega,fun h => absurd h (by omega),Nat.zero_le _⟩
 | [s],f,x,d,hc,h1,h2,_,_ => ⟨0,[s],d,0,0,rfl,.inl ⟨rfl,h2⟩,by simpa using hc,h1,rfl,rfl,fun h => h,by omega,by omega,fun h => absurd h (by omega),Nat.zero_le _⟩
 | s :: t :: r,f,x,d,hc,h1,h2,hf,hn => by
   by_cases hl : last s <= lsn
   ·obtain ⟨ho,hr,hct⟩ := hc
    have hids : ∀ y ∈ img (t :: r),y.id ≠ s.file := fun y hy => by
     obtain ⟨u,hu,rfl⟩ := List.mem_map.1 hy
     have a := (full_mem hct u hu).1
     have b := ho.1
     show u.file ≠ s.file
     omega
    have hfs : d.files = fl s :: img (t :: r) := h1
    have hseek : seek d.files s.file = some (fl s) := by
     rw [hfs]
     unfold DiskMath.seek
     rw [List.find?_cons]
     have : decide ((fl s).id = s.file) = true := decide_eq_true rfl
     rw [this]
    have hrf : DiskMath.refuse d s.file true = 0 := by
     have := ho.1
     unfold DiskMath.refuse
     rw [h2,hseek,if_neg (by simp),if_neg (by simp only [List.length_cons] at hn; omega),if_neg (by simp)]
    have hdel : del d.files s.file = img (t :: r) := by
     rw [hfs]
     unfold DiskMath.del
     rw [List.filter_cons,if_neg (by simp [fl])]
     exact List.filter_eq_self.2 fun y hy => by simpa using hids y hy
    by_cases hleft : d.left = 1
    ·have hrm : DiskMath.remove d s.file = (8,DiskMath.tick d) := by
      unfold DiskMath.remove
      rw [hrf,if_pos rfl,oper_eq,if_pos hleft]
     refine ⟨8,s :: t :: r,DiskMath.tick d,0,0,?_,.inr ⟨rfl,decide_eq_true hleft⟩,by simpa using (show Full f x (s :: t :: r) from ⟨ho,hr,hct⟩),h1,rfl,rfl,fun h => h,?_,by show d.left - 1 <= _; omega,fun h => absurd h (by omega),Nat.zero_le _⟩
     ·rw [trimS,if_pos hl,hrm,if_neg (show ¬ (8 : Int) = 0 by decide)]
     ·show d.ops + 1 <= _
      simp only [List.length_cons]
      omega
    ·have hrm : DiskMath.remove d s.file = (0,{ DiskMath.tick d with files := img (t :: r) }) := by
      unfold DiskMath.remove
      rw [hrf,if_pos rfl,oper_eq,if_neg hleft,hdel]
     obtain ⟨e0,segs',d',k,j,e,a0,a1,a2,a5,a6,a7,a8,a4,a9,a10⟩ := trimS_arm (lsn := lsn) (t :: r) (f + 1) (x + s.rows.length) { DiskMath.tick d with files := img (t :: r) } hct rfl (decide_eq_false hleft) (by omega) (by simp only [List.length_cons] at hn ⊢; omega)
     have hla := last_one ho
     refine ⟨e0,segs',d',k + 1,s.rows.length + j,?_,a0,?_,a2,?_,?_,fun _ => a7 (by simp),?_,?_,fun _ => ?_,?_⟩
     ·rw [trimS,if_pos hl,hrm,if_pos rfl]
      exact e
     ·rw [show f + ((k + 1 : Nat) : Int) = f + 1 + (k : Int) by omega,show x + ((s.rows.length + j : Nat) : Int) = x + (s.rows.length : Int) + (j : Int) by omega]
      exact a1
     ·rw [List.length_cons]
      omega
     ·rw [a6,rowsOf_cons s,List.drop_append,List.drop_of_length_le (l := s.rows) (by omega),List.nil_append]
      congr 1
      omega
     ·have : ({ DiskMath.tick d with files := img (t :: r) } : Dk).ops = d.ops + 1 := rfl
      rw [this] at a8
      rw [List.length_cons (a := s)]
      omega
     ·have : ({ DiskMath.tick d with files := img (t :: r) } : Dk).left = d.left - 1 := rfl
      omega
     ·by_cases hj : 0 < j
      ·have := a9 hj
       omega
      ·omega
     ·rw [cnt_cons]
      omega
   ·exact ⟨0,s :: t :: r,d,0,0,by rw [trimS,if_neg hl],.inl ⟨rfl,h2⟩,by simpa using hc,h1,rfl,rfl,fun h => h,by omega,by omega,fun h => absurd h (by omega),Nat.zero_le _⟩
theorem open_cut1 {f x : Int} {rs : List (List UInt8)} {p : List UInt8} {d : Dk} {pre : List Sg} {s : Sg} {s0 : Nat} {ba sz : Int} (h : Cutoff f x rs p d pre s s0) (hx : 1 <= x) (hbf : ba <= f) (hb0 : 0 <= ba) (hb1 : ba <= 12288) (hn : f + pre.length < ba + 4096) (hs0 : 64 <= sz) (hs1 : sz <= 65536) (hmax : x + rs.length < 1000000) (ks : List Int) :
 ∃ j segs d',Got f x ba sz (DiskMath.crash d ks) (rs ++ [p]) j segs d' /\ rs.length <= j /\ segs.length <= pre.length + 1 /\ (segs = [] -> rs = []) := by
 have hcn : cnt (pre ++ [s]) = rs.length + 1 := by rw [cnt,h.rows,List.length_append]; rfl
 rw [cnt_snoc] at hcn
 have hsl : s0 <= (bytesOf s).length := by
  rw [bytesOf_length]
  rcases h.safe with ⟨e,_⟩ | ⟨r0,e1,e2⟩
  ·omega
  ·rw [e1,recs_snoc,List.length_append]; omega
 obtain ⟨m,hm0,hm1,hf⟩ := crash_tip h.files hsl ks
 obtain ⟨j,segs,d',hg,h1,h2,h3,h4,h5⟩ := open_cut (ba := ba) (sz := sz) h.tip hx hm1 hf rfl rfl hbf hb0 hb1 hn hs0 hs1 (by omega) (by omega)
 rw [h.rows] at hg
 have hj : rs.length <= j := by
  rcases h.safe with ⟨_,e⟩ | ⟨r0,e1,e2⟩
  ·rw [e] at hcn
   simp at hcn
   omega
  ·rw [e1,List.length_append,List.length_singleton] at hcn
   by_cases hr : r0.length = 0
   ·omega
   ·have := h3 r0.length (by rw [e1]; simp) (by omega) (by rw [e1,List.take_left,<- e2]; exact hm0)
    omega
 refine ⟨j,segs,d',hg,hj,h4,fun e => ?_⟩
 have hr := congrArg List.length hg.rows
 rw [e,List.length_take,List.length_append,List.length_singleton] at hr
 rw [show (rowsOf []).length = 0 from rfl] at hr
 exact List.length_eq_zero_iff.1 (by omega)
end WalMath
namespace SrcMath
open IdxMath TxnMath FoldMath PartMath
open FieldMath (encZ)
open ImgMath (Im imgB decI)
open DiskMath (Fl Dk Up)
open WalMath (Lg Sg rowsOf img Full Chain)
theorem rises_of {m : Int} : ∀ {r : List Rw},Rise r -> (∀ x ∈ r,m < x.key /\ x.key <= 1099511627776 /\ x.val.size <= 32) -> ImgMath.risesFrom m r = true
 | [],_,_ => rfl
 | x :: r,h,hm => by
   have hx := hm x List.mem_cons_self
   have hr := fun z hz => List.rel_of_pairwise_cons h (a' := z) hz
   rw [ImgMath.rises_cons,decide_eq_true hx.1,decide_eq_true hx.2.1,decide_eq_true hx.2.2,rises_of (List.Pairwise.of_cons h) fun z hz => ⟨hr z hz,(hm z (List.mem_cons_of_mem _ hz)).2⟩]
   rfl
theorem chs_le {l : List Tx} {k : Nat} : (chs l k).length <= (chs l l.length).length := by
 have e : chs l l.length = chs l k ++ (l.drop k).flatMap (·.chs) := by
  unfold chs
  rw [<- List.flatMap_append,List.take_append_drop,List.take_length]
 rw [e,List.length_append]
 omega
theorem mayI_of {n : Nat} (hn1 : 1 <= n) (hn8 : n <= 8) {l : List Tx} (h : Fine n l) (hc : (chs l l.length).length <= 1000) (hl : l.length <= 1099511627776) : MayI n l := fun L hL => by
 have ht : ((tt n l L).all ImgMath.mayTab) = true := by
  refine List.all_eq_true.2 fun r hr => ?_
  obtain ⟨i,hi,rfl⟩ := List.mem_map.1 hr
  have h1 := rows_length (i : Int) (chs l L)
  have h2 := chs_le (l := l) (k := L)
  unfold ImgMath.mayTab
  rw [decide_eq_true (by omega),rises_of (rows_rise _ _)]
  ·rfl
  ·intro x hx
   obtain ⟨c,hcm,_,e2,e3,_⟩ := rows_mem hx
   obtain ⟨t,ht,hct⟩ := List.mem_flatMap.1 hcm
   have hm := chmay_of ((may_of (h.may t (List.mem_of_mem_take ht))).ch c hct)
   rw [<- e2,<- e3]
   exact ⟨by have := hm.key; omega,hm.key.2,hm.val⟩
 unfold Im.may
 dsimp only
 rw [ht,tt_length,decide_eq_true (show (0 : Int) <= L by omega),decide_eq_true (show (L : Int) <= 1099511627776 by omega),decide_eq_true hn1,decide_eq_true hn8]
 rfl
theorem encF_num (n : Int) : (FieldMath.encF (numF n)).length = 9 := by
 unfold FieldMath.encF numF
 rw [if_pos rfl,List.length_cons,FieldMath.big_length]
theorem encF_txt (s : ByteArray) : (FieldMath.encF (txtF s)).length = 3 + s.size := by
 unfold FieldMath.encF txtF
 rw [if_neg (show ¬ (2 : Int) = 1 by decide),List.length_cons,List.length_append,FieldMath.big_length,FieldMath.list_size]
 show 2 + s.size + 1 = _
 omega
theorem chsF_bytes : ∀ {l : List Ch},(∀ c ∈ l,c.val.size <= 32) -> ((chsF l).flatMap FieldMath.encF).length <= l.length * 62
 | [],_ => Nat.le_refl _
 | c :: l,h => by
   have ih := chsF_bytes fun d hd => h d (List.mem_cons_of_mem _ hd)
   have hc := h c List.mem_cons_self
   show ((chF c ++ chsF l).flatMap FieldMath.encF).length <= _
   rw [List.flatMap_append,List.length_append,List.length_cons]
   show (FieldMath.encF (numF c.tbl) ++ (FieldMath.encF (numF c.key) ++ (FieldMath.encF (numF (flag c.gone)) ++ (FieldMath.encF (txtF c.val) ++ [])))).length + _ <= _
   simp only [List.length_append,encF_num,encF_txt,List.length_nil]
   omega
theorem sigsF_bytes : ∀ {l : List ByteArray},(∀ c ∈ l,c.size <= 40) -> ((l.map txtF).flatMap FieldMath.encF).length <= l.length * 43
 | [],_ => Nat.le_refl _
 | c :: l,h => by
   have ih := sigsF_bytes fun d hd => h d (List.mem_cons_of_mem _ hd)
   have hc := h c List.mem_cons_self
   rw [List.map_cons,List.flatMap_cons,List.length_append,List.length_cons,encF_txt]
   omega
theorem ent_len {t : Tx} (h : t.may = true) : (ent t).length <= 47 + t.chs.length * 62 + t.sigs.length * 43 := by
 have hm := may_of h
 have h1 := chsF_bytes fun c hc => (chmay_of (hm.ch c hc)).val
 have h2 := sigsF_bytes hm.sig
 unfold ent FieldMath.encZ flds
 rw [List.length_append,FieldMath.big_length,List.flatMap_append,List.flatMap_append,List.flatMap_append,List.length_append,List.length_append,List.length_append]
 have e1 : ([numF t.lsn,numF t.kind,numF t.mark,numF t.chs.length].flatMap FieldMath.encF).length = 36 := by
  show (FieldMath.encF (numF t.lsn) ++ (FieldMath.encF (numF t.kind) ++ (FieldMath.encF (numF t.mark) ++ (FieldMath.encF (numF t.chs.length) ++ [])))).length = _
  simp only [List.length_append,encF_num,List.length_nil]
 have e2 : ([numF t.sigs.length].flatMap FieldMath.encF).length = 9 := by
  show (FieldMath.encF (numF t.sigs.length) ++ []).length = _
  simp only [List.length_append,encF_num,List.length_nil]
 rw [e1,e2]
 omega
structure Sound (n : Nat) (l : List Tx) (sz : Int) (j : Nat) (s : Sc) (d : Dk) (f : Int) (x : Nat) : Prop where
 log : LogIn 16 s.l
 size : s.l.size = sz
 left : s.l.left = none
 full : Full f x s.l.segs
 files : sel (mineP 16) d.files = img s.l.segs
 rows : rowsOf s.l.segs = ((ents l).take j).drop (x - 1)
 le : j <= l.length
 lo : 1 <= x /\ x <= j + 1
 at_ : 16 <= f /\ f + s.l.segs.length <= 16 + j
 nil : s.l.segs = [] -> x = 1 /\ f = 16
 T : s.T = tt n l j
 up : Up 0 d.files
section
variable {n : Nat} {l : List Tx} {sz : Int} {j : Nat} {s : Sc} {d : Dk} {f : Int} {x : Nat}
theorem ents_len {k : Nat} (hk : k <= l.length) : (((ents l).take k).drop (x - 1)).length = k - (x - 1) := by
 rw [List.length_drop,List.length_take,ents,List.length_map]
 omega
theorem Sound.cnt (h : Sound n l sz j s d f x) : WalMath.cnt s.l.segs = j + 1 - x := by
 have := h.lo
 rw [WalMath.cnt,h.rows,ents_len h.le]
 omega
theorem Sound.hd (h : Sound n l sz j s d f x) : WalMath.hd s.l.segs = (j : Int) := by
 have hc := h.cnt
 have := h.lo
 by_cases h0 : s.l.segs = []
 ·rw [h0] at hc ⊢
  have := h.nil h0
  rw [show WalMath.cnt [] = 0 from rfl] at hc
  rw [WalMath.hd_nil]
  omega
 ·rw [WalMath.hd_full h.full h0,hc]
  omega
theorem Sound.low (h : Sound n l sz j s d f x) : WalMath.low s.l.segs = (x : Int) := by
 by_cases h0 : s.l.segs = []
 ·rw [h0,(h.nil h0).1]
  rfl
 ·exact WalMath.low_chain (WalMath.full_chain h.full) h0
theorem Sound.rest (h : Sound n l sz j s d f x) {d' : Dk} (e : sel (mineP 16) d'.files = sel (mineP 16) d.files) (hu : Up 0 d'.files) : Sound n l sz j s d' f x := ⟨h.log,h.size,h.left,h.full,e.trans h.files,h.rows,h.le,h.lo,h.at_,h.nil,h.T,hu⟩
end
def Anew (n : Nat) (l : List Tx) (sz : Int) (x k : Nat) (d : Dk) : Prop := ∃ (g : Lg) (d' : Dk) (f : Int),open_ d n sz = ⟨0,some ⟨g,tt n l k,fileOf (newest n d'),lsnOf (newest n d')⟩,d'⟩ /\ Chain f x g.segs /\ rowsOf g.segs = ((ents l).take k).drop (x - 1) /\ WalMath.low g.segs = (x : Int) /\ WalMath.hd g.segs = (k : Int) /\ LogIn 16 g /\ g.size = sz /\ g.left = none /\ d'.off = false /\ 16 <= f /\ f + g.segs.length <= 17 + l.length
section
variable {n : Nat} {l : List Tx} {sz : Int} {j : Nat} {s : Sc} {d : Dk} {f : Int} {x : Nat}
theorem anew_of (hn1 : 1 <= n) (hn8 : n <= 8) (hF : Fine n l) {rs : List (List UInt8)} {k : Nat} {segs : List Sg} {d' : Dk} (hg : WalMath.Got f x 16 sz (PartMath.part (mineP 16) d) rs k segs d') (hx : 1 <= x) (hr : rs.take k = ((ents l).take (x - 1 + k)).drop (x - 1)) (hk : x - 1 + k <= l.length) (h0 : segs = [] -> x = 1) (hf : 16 <= f) (hfn : f + segs.length <= 17 + l.length) (hi : ImOk n l x (x - 1 + k) (newest n d)) : Anew n l sz x (x - 1 + k) d := by
 have hop := open_part (base := 16) (size := sz) (d := d)
 rw [hg.opens] at hop
 generalize hO : WalMath.open_ d 16 sz = O at hop
 obtain ⟨e,gl,d1⟩ := O
 dsimp only at hop
 injection hop with e1 e2 e3
 subst e1 e2
 have hoff : sel imP d1.files = sel imP d.files := by
  have := open_off (base := 16) (size := sz) (d := d) imP_far
  rw [hO] at this
  exact this
 have hnew := newest_of (n := n) hoff
 have hin : LogIn 16 ⟨segs,16,sz,none⟩ := open_in (d := d) (size := sz) (by rw [hO])
 have hrows : rowsOf segs = ((ents l).take (x - 1 + k)).drop (x - 1) := hg.rows.trans hr
 have hcnt : WalMath.cnt segs = k := by
  rw [WalMath.cnt,hrows,ents_len hk]
  omega
 have hlow : WalMath.low segs = (x : Int) := by
  by_cases e : segs = []
  ·rw [e,h0 e]
   rfl
  ·exact WalMath.low_chain hg.good.chain e
 have hhd : WalMath.hd segs = ((x - 1 + k : Nat) : Int) := by
  by_cases e : segs = []
  ·rw [e] at hcnt ⊢
   rw [show WalMath.cnt [] = 0 from rfl] at hcnt
   have := h0 e
   rw [WalMath.hd_nil]
   omega
  ·rw [WalMath.hd_chain hg.good.chain e,hcnt]
   omega
 have hd2 : (ents l).take (x - 1 + k) = (ents l).take (x - 1 + k) := rfl
 refine ⟨⟨segs,16,sz,none⟩,d1,f,?_,hg.good.chain,hrows,hlow,hhd,hin,rfl,rfl,?_,hf,hfn⟩
 ·refine opens hn1 hn8 hF hO hx hk ?_ hlow hhd (by rw [hnew]; exact hi)
  show rowsOf segs = _
  rw [hrows,List.drop_take,show x - 1 + k - (x - 1) = k by omega]
 ·have : (PartMath.part (mineP 16) d1).off = false := by rw [<- e3]; exact hg.good.on
  exact this
theorem Sound.anew (h : Sound n l sz j s d f x) (hn1 : 1 <= n) (hn8 : n <= 8) (hF : Fine n l) (hl : l.length <= 1000) (hs0 : 64 <= sz) (hs1 : sz <= 65536) (ks : List Int) (hi : ImOk n l x j (newest n (DiskMath.crash d ks))) : Anew n l sz x j (DiskMath.crash d ks) := by
 have hcn := h.cnt
 have hlo := h.lo
 have hle := h.le
 have hat := h.at_
 obtain ⟨ks',e⟩ := crash_part (P := mineP 16) d ks
 have hfs : (DiskMath.crash (PartMath.part (mineP 16) d) ks').files = img s.l.segs := by
  show DiskMath.crashL (sel (mineP 16) d.files) ks' = _
  rw [h.files,WalMath.crashL_img]
 obtain ⟨segs,d',hg,h1,h2⟩ := WalMath.open_good (ba := 16) (sz := sz) (WalMath.full_chain h.full) hfs rfl rfl (by omega) hat.1 (by omega) (by omega) (by omega) hs0 hs1 (by omega)
 rw [<- e] at hg
 have hj : x - 1 + WalMath.cnt s.l.segs = j := by omega
 have := anew_of (k := WalMath.cnt s.l.segs) hn1 hn8 hF hg hlo.1 ?_ (by omega) (fun e0 => ?_) hat.1 (by omega) (by rw [hj]; exact hi)
 ·rw [hj] at this
  exact this
 ·rw [hj,WalMath.cnt,List.take_length,h.rows]
 ·by_cases h0 : s.l.segs = []
  ·exact (h.nil h0).1
  ·exact absurd e0 (h2 h0)
theorem Imgs.more (h : Imgs n l x j s.file s.lsn d) {k : Nat} (hk : j <= k) : Imgs n l x k s.file s.lsn d := by
 rcases h with h | ⟨L,h1,h2,h3,h4⟩
 ·exact .inl h
 ·exact .inr ⟨L,h1,h2,Nat.le_trans h3 hk,h4⟩
def Half (n : Nat) (l : List Tx) (sz : Int) (j x : Nat) (d : Dk) : Prop := ∀ ks,∃ k,j <= k /\ k <= j + 1 /\ k <= l.length /\ Anew n l sz x k (DiskMath.crash d ks)
theorem Sound.put (h : Sound n l sz j s d f x) (hon : d.off = false) (hn1 : 1 <= n) (hn8 : n <= 8) (hF : Fine n l) (hM : MayI n l) (hl : l.length <= 1000) (hs0 : 64 <= sz) (hs1 : sz <= 65536) (hi : Imgs n l x j s.file s.lsn d) {t u : Tx} (hu : l[j]? = some u) (ht : { t with lsn := (j : Int) + 1 } = u) (hb : (ent u).length <= 1048576) :
 (∃ s' d',SrcMath.put s d true t = ⟨(j : Int) + 1,0,s',d'⟩ /\ Sound n l sz (j + 1) s' d' f x /\ Imgs n l x (j + 1) s'.file s'.lsn d' /\ d'.off = false /\ d'.ops = d.ops + 2 /\ d'.left = d.left - 2) \/
 (∃ s' d',SrcMath.put s d true t = ⟨0,8,s',d'⟩ /\ s'.T = s.T /\ Half n l sz j x d' /\ d'.ops <= d.ops + 2 /\ d'.left <= d.left) := by
 have hcn := h.cnt
 have hlo := h.lo
 have hat := h.at_
 have hhd := h.hd
 have hbase := h.log.at_
 have hjl : j < l.length := (List.getElem?_eq_some_iff.1 hu).1
 have hue : u = l[j] := by rw [List.getElem?_eq_getElem hjl] at hu; exact (Option.some.inj hu).symm
 have hgood : WalMath.Good f x s.l (PartMath.part (mineP 16) d) := ⟨WalMath.full_chain h.full,h.files,h.left,hon⟩
 have hnil : s.l.segs = [] -> (x : Int) = 1 /\ f = s.l.base := fun e => by
  have := h.nil e
  exact ⟨by omega,by omega⟩
 have hap := WalMath.append_good (p := ent u) hgood hnil (by omega) (by omega) (by omega) (by omega) hb (by omega) (by omega)
 have hfull := WalMath.append_full (p := ent u) hgood hnil (by omega) (by omega) (by omega) (by omega) hb (by omega) (by omega)
 rw [wappend_part h.log h.up] at hap hfull
 have hfar := wappend_off (p := ent u) (d := d) h.log imP_far
 have hup := wappend_up (l := s.l) (p := ent u) h.up
 have hin := wappend_in (d := d) (p := ent u) h.log
 have hcap : (WalMath.append s.l d (ent u)).d.ops <= d.ops + 2 /\ (WalMath.append s.l d (ent u)).d.left <= d.left := WalMath.append_capL s.l d (ent u) h.left
 have hput : SrcMath.put s d true t = if (WalMath.append s.l d (ent u)).e = 0 then ⟨(WalMath.append s.l d (ent u)).n,0,{ s with l := (WalMath.append s.l d (ent u)).l,T := Tbl.doAll s.T t.chs },(WalMath.append s.l d (ent u)).d⟩ else ⟨0,(WalMath.append s.l d (ent u)).e,{ s with l := (WalMath.append s.l d (ent u)).l },(WalMath.append s.l d (ent u)).d⟩ := by
  unfold SrcMath.put
  rw [hon,if_neg (by simp),hhd,if_neg (by simp; omega),ht]
 rw [hput]
 have hel : (ents l)[j]? = some (ent u) := by rw [ents,List.getElem?_map,hu]; rfl
 have hrs : rowsOf s.l.segs ++ [ent u] = ((ents l).take (j + 1)).drop (x - 1) := by
  rw [h.rows,WalMath.take_next hel,List.drop_append]
  rw [List.length_take,ents,List.length_map,show x - 1 - min j l.length = 0 by omega]
  rfl
 generalize WalMath.append s.l d (ent u) = A at hap hfull hfar hup hin hcap
 dsimp only at hap hfull
 rcases hap with ⟨a1,a2,a3,a4,a5,a6,a7,a8,a9,a10⟩ | ⟨b1,b2,b3,b4,b5,pre,sg,s0,b6,b7⟩
 ·rw [if_pos a1]
  refine .inl ⟨{ s with l := A.l,T := Tbl.doAll s.T t.chs },A.d,?_,⟨hin,?_,a3.left,hfull a1,a3.files,a4.trans hrs,hjl,⟨hlo.1,by omega⟩,⟨hat.1,?_⟩,fun e => absurd e a8,?_,hup⟩,(Imgs.more hi (by omega)).same hfar,a3.on,a10,a9⟩
  ·rw [a2,hcn]
   congr 1
   omega
  ·rw [<- h.size]; exact a6
  ·show f + (A.l.segs.length : Nat) <= _
   omega
  ·show Tbl.doAll s.T t.chs = _
   rw [h.T,show t.chs = u.chs by rw [<- ht]]
   exact tt_succ hF hu
 ·rw [if_neg (by rw [b1]; decide),b1]
  refine .inr ⟨_,_,rfl,rfl,fun ks => ?_,hcap⟩
  obtain ⟨ks',e⟩ := crash_part (P := mineP 16) A.d ks
  obtain ⟨k,segs,d',hg,h1,h2,h3⟩ := WalMath.open_cut1 (ba := 16) (sz := sz) b6 (by omega) hat.1 (by omega) (by omega) (by omega) hs0 hs1 (by
   have : (rowsOf s.l.segs).length = WalMath.cnt s.l.segs := rfl
   omega) ks'
  rw [<- e] at hg
  have hk := hg.le
  rw [List.length_append,List.length_singleton] at hk
  have hc0 : (rowsOf s.l.segs).length = j + 1 - x := hcn
  have hi2 : ImOk n l x (x - 1 + k) (newest n (DiskMath.crash A.d ks)) := by
   have := ((hi.same hfar).crash ks)
   exact ((Imgs.more this (k := x - 1 + k) (by omega)).rest hM (by omega)).2
  refine ⟨x - 1 + k,by omega,by omega,by omega,anew_of (k := k) hn1 hn8 hF hg hlo.1 ?_ (by omega) (fun e0 => ?_) hat.1 (by omega) hi2⟩
  ·rw [hrs]
   rw [List.take_drop,List.take_take,Nat.min_eq_left (by omega)]
  ·have h4 := h3 e0
   rw [h4] at hc0
   by_cases h0 : s.l.segs = []
   ·exact (h.nil h0).1
   ·exfalso
    have h5 := WalMath.full_len h.full
    have h6 : WalMath.cnt s.l.segs = 0 := by rw [WalMath.cnt,h4]; rfl
    have := List.length_pos_iff.2 h0
    omega
theorem Sound.trims (h : Sound n l sz j s d f x) (hon : d.off = false) (hl : l.length <= 1000) (hi : Imgs n l x j s.file s.lsn d) {lsn : Int} (h0 : 0 <= lsn) (hls : lsn <= s.lsn) :
 ∃ (e : Int) (s' : Sc) (d' : Dk) (x' : Nat) (f' : Int),SrcMath.trims s d lsn = (e,s',d') /\ ((e = 0 /\ d'.off = false) \/ (e = 8 /\ d'.off = true)) /\ Sound n l sz j s' d' f' x' /\ Imgs n l x' j s'.file s'.lsn d' /\ x <= x' /\ (x' = x \/ (x' : Int) <= lsn + 1) /\ s'.file = s.file /\ s'.lsn = s.lsn /\ d'.ops <= d.ops + s.l.segs.length /\ d'.left <= d.left := by
 have hcn := h.cnt
 have hlo := h.lo
 have hat := h.at_
 have hle := h.le
 have hpart := trimS_part (base := 16) lsn s.l.segs d h.log.segs
 obtain ⟨e,segs',d1,k,i,e1,a0,a1,a2,a3,a4,a5,a6,a7,a8,a9⟩ := WalMath.trimS_arm (lsn := lsn) s.l.segs f x (PartMath.part (mineP 16) d) h.full h.files hon (by omega) (by omega)
 have hsub := trimS_sub lsn s.l.segs d
 have hfar := trimS_off (base := 16) imP_far lsn s.l.segs d h.log.segs
 have hup := trimS_up lsn s.l.segs d h.up
 rw [hpart] at e1
 have htr : SrcMath.trims s d lsn = ((WalMath.trimS lsn s.l.segs d).1,{ s with l := { s.l with segs := (WalMath.trimS lsn s.l.segs d).2.1 } },(WalMath.trimS lsn s.l.segs d).2.2) := by
  unfold SrcMath.trims WalMath.trim
  rw [hon]
  rfl
 rw [htr]
 generalize WalMath.trimS lsn s.l.segs d = R at e1 hsub hfar hup
 obtain ⟨e2,segs2,d2⟩ := R
 dsimp only at e1 hsub hfar hup
 injection e1 with q1 q2
 injection q2 with q2 q3
 subst q1 q2 q3
 have hx' : ((x + i : Nat) : Int) = (x : Int) + (i : Nat) := by omega
 have hne : s.l.segs ≠ [] -> x + i <= j := fun hn => by
  have b1 := WalMath.full_len a1
  have b2 := List.length_pos_iff.2 (a5 hn)
  have b3 : WalMath.cnt segs2 = WalMath.cnt s.l.segs - i := by rw [WalMath.cnt,a4,List.length_drop]; rfl
  omega
 have hnil : s.l.segs = [] -> i = 0 /\ k = 0 /\ segs2 = [] := fun hn => by
  rw [hn] at a3 a9
  rw [show WalMath.cnt [] = 0 from rfl] at a9
  rw [List.length_nil] at a3
  exact ⟨by omega,by omega,List.length_eq_zero_iff.1 (by omega)⟩
 have hxs : i = 0 \/ ((x + i : Nat) : Int) <= lsn + 1 := by
  by_cases hi0 : i = 0
  ·exact .inl hi0
  ·have := a8 (by omega)
   exact .inr (by omega)
 refine ⟨e2,{ s with l := { s.l with segs := segs2 } },d2,x + i,f + (k : Nat),rfl,a0,⟨⟨h.log.at_,fun u hu => h.log.segs u (hsub u hu),h.log.left⟩,h.size,h.left,?_,a2,?_,hle,⟨by omega,?_⟩,⟨by omega,?_⟩,?_,h.T,hup⟩,?_,by omega,hxs.imp (fun e => by omega) (fun e => e),rfl,rfl,a6,a7⟩
 ·rw [hx']
  exact a1
 ·show rowsOf segs2 = _
  rw [a4,h.rows,List.drop_drop]
  congr 1
  omega
 ·by_cases hn : s.l.segs = []
  ·have := hnil hn
   omega
  ·have := hne hn
   omega
 ·show f + (k : Nat) + (segs2.length : Nat) <= _
  omega
 ·intro hn
  by_cases hn0 : s.l.segs = []
  ·obtain ⟨z1,z2,_⟩ := hnil hn0
   have := h.nil hn0
   exact ⟨by omega,by omega⟩
  ·exact absurd hn (a5 hn0)
 ·have hi2 := hi.same hfar
  rcases hi2 with ⟨b1,b2,b3,b4,b5⟩ | ⟨L,b1,b2,b3,b4,b5⟩
  ·exact .inl ⟨b1,b2,by omega,b4,b5⟩
  ·exact .inr ⟨L,b1,b2,b3,by omega,b5⟩
def Ends (n : Nat) (l : List Tx) (sz : Int) (j x : Nat) (d : Dk) : Prop := ∀ ks,Anew n l sz x j (DiskMath.crash d ks)
theorem Sound.ends (h : Sound n l sz j s d f x) (hn1 : 1 <= n) (hn8 : n <= 8) (hF : Fine n l) (hM : MayI n l) (hl : l.length <= 1000) (hs0 : 64 <= sz) (hs1 : sz <= 65536) (hi : Imgs n l x j s.file s.lsn d) : Ends n l sz j x d := fun ks => h.anew hn1 hn8 hF hl hs0 hs1 ks ((hi.crash ks).rest hM h.le).2
theorem mine_far {o : Int} (ho : o = 0 \/ o = 1) : mineP 16 o = false := by
 rcases ho with rfl | rfl <;> rfl
theorem other_two {o : Int} (ho : o = 0 \/ o = 1) : other (other o) = o /\ (other o = 0 \/ other o = 1) := by
 rcases ho with rfl | rfl
 ·exact ⟨rfl,.inr rfl⟩
 ·exact ⟨rfl,.inl rfl⟩
theorem Sound.trim (h : Sound n l sz j s d f x) (hon : d.off = false) (hn1 : 1 <= n) (hn8 : n <= 8) (hF : Fine n l) (hM : MayI n l) (hl : l.length <= 1000) (hs0 : 64 <= sz) (hs1 : sz <= 65536) (hi : Imgs n l x j s.file s.lsn d) {lsn : Int} (h0 : 0 <= lsn) (hlsn : lsn <= (j : Int)) :
 ∃ (e : Int) (s' : Sc) (d' : Dk) (x' : Nat),SrcMath.trim s d lsn = (e,s',d') /\ x <= x' /\ (x' : Int) <= max (x : Int) (lsn + 1) /\ d'.ops <= d.ops + 3 + s.l.segs.length /\ d'.left <= d.left /\
   ((e = 0 /\ d'.off = false /\ ∃ f',Sound n l sz j s' d' f' x' /\ Imgs n l x' j s'.file s'.lsn d') \/ (e = 8 /\ Ends n l sz j x' d')) := by
 have hhd := h.hd
 have hlo := h.lo
 have done : ∀ {s1 : Sc} {d1 : Dk},s1.l = s.l -> Sound n l sz j s1 d1 f x -> d1.off = false -> Imgs n l x j s1.file s1.lsn d1 -> lsn <= s1.lsn -> d1.ops <= d.ops + 3 -> d1.left <= d.left -> ∃ (e : Int) (s' : Sc) (d' : Dk) (x' : Nat),SrcMath.trims s1 d1 lsn = (e,s',d') /\ x <= x' /\ (x' : Int) <= max (x : Int) (lsn + 1) /\ d'.ops <= d.ops + 3 + s.l.segs.length /\ d'.left <= d.left /\
  ((e = 0 /\ d'.off = false /\ ∃ f',Sound n l sz j s' d' f' x' /\ Imgs n l x' j s'.file s'.lsn d') \/ (e = 8 /\ Ends n l sz j x' d')) := fun {s1 d1} hs1l hS hO hI hL hops hleft => by
  obtain ⟨e,s',d',x',f',q1,q2,q3,q4,q5,q6,q7,q8,q9,q10⟩ := hS.trims hO hl hI h0 hL
  rw [hs1l] at q9
  refine ⟨e,s',d',x',q1,q5,by omega,by omega,by omega,?_⟩
  rcases q2 with ⟨r1,r2⟩ | ⟨r1,r2⟩
  ·exact .inl ⟨r1,r2,f',q3,q4⟩
  ·exact .inr ⟨r1,q3.ends hn1 hn8 hF hM hl hs0 hs1 q4⟩
 unfold SrcMath.trim
 rw [hhd,if_neg (by omega),hon,if_neg (by simp)]
 by_cases hc : lsn <= s.lsn
 ·rw [if_pos hc]
  exact done rfl h hon hi hc (by omega) (Nat.le_refl _)
 ·rw [if_neg hc]
  have hfile : s.file = -1 \/ s.file = 0 \/ s.file = 1 := by
   rcases hi with ⟨e,_⟩ | ⟨L,e,_⟩
   ·exact .inl e
   ·exact .inr e
  have hoth : other s.file = 0 \/ other s.file = 1 := by
   unfold other
   split
   ·exact .inr rfl
   ·exact .inl rfl
  have hT : imgB ⟨(j : Int),s.T⟩ = imgB ⟨(j : Int),tt n l j⟩ := by rw [h.T]
  rw [hT]
  have hmine := mine_far hoth
  rcases lay_cases (o := other s.file) hon h.up (by omega) (by omega) (imgB ⟨(j : Int),tt n l j⟩) with ⟨d1,e1,f1,g1,r1,p1,q1⟩ | ⟨d1,e1,f1,g1,r1,p1,q1⟩
  ·rw [e1]
   dsimp only
   rw [if_pos rfl]
   refine done rfl ?_ f1 ?_ hlsn p1 q1
   ·have hS := h.rest (r1.2 _ hmine) r1.1
    exact ⟨hS.log,hS.size,hS.left,hS.full,hS.files,hS.rows,hS.le,hS.lo,hS.at_,hS.nil,hS.T,hS.up⟩
   ·refine .inr ⟨j,hoth,rfl,Nat.le_refl _,hlo.2,g1,?_⟩
    rcases hi with ⟨b1,b2,b3,b4,b5⟩ | ⟨L,b1,b2,b3,b4,b5,b6⟩
    ·refine .inl ?_
     rw [b1]
     have : other (other (-1)) = 1 := rfl
     show DiskMath.seek d1.files (other (other (-1))) = none
     rw [this,r1.seek (by rw [b1]; decide)]
     exact b5
    ·rw [(other_two b1).1]
     have hne : s.file ≠ other s.file := by rcases b1 with e | e <;> rw [e] <;> decide
     exact .inr ⟨L,by omega,(r1.seek hne).trans b5⟩
  ·rw [e1]
   dsimp only
   rw [if_neg (show ¬ (8 : Int) = 0 by decide)]
   refine ⟨8,s,d1,x,rfl,Nat.le_refl _,by omega,by omega,q1,.inr ⟨rfl,fun ks => ?_⟩⟩
   have hS := h.rest (r1.2 _ hmine) r1.1
   exact hS.anew hn1 hn8 hF hl hs0 hs1 ks (Laying.crash hM ⟨hi,fun g _ hg => r1.seek hg,g1⟩ h.le hlo.2 ks)
theorem sound0 (hn1 : 1 <= n) (hn8 : n <= 8) (l : List Tx) (hs0 : 64 <= sz) (hs1 : sz <= 65536) : open_ DiskMath.none_ n sz = ⟨0,some ⟨⟨[],16,sz,none⟩,tt n l 0,-1,0⟩,DiskMath.none_⟩ /\ Sound n l sz 0 ⟨⟨[],16,sz,none⟩,tt n l 0,-1,0⟩ DiskMath.none_ 16 1 /\ Imgs n l 1 0 (-1) 0 DiskMath.none_ := by
 have hw : WalMath.open_ DiskMath.none_ 16 sz = ⟨0,some ⟨[],16,sz,none⟩,DiskMath.none_⟩ := by
  unfold WalMath.open_
  rw [if_neg (by omega)]
  rfl
 have hnew : newest n DiskMath.none_ = none := rfl
 refine ⟨?_,⟨⟨rfl,(fun u hu => by cases hu),(fun q hq => by cases hq)⟩,rfl,rfl,trivial,rfl,rfl,Nat.zero_le _,⟨by omega,by omega⟩,⟨by omega,by simp⟩,fun _ => ⟨rfl,rfl⟩,rfl,trivial⟩,.inl ⟨rfl,rfl,rfl,rfl,rfl⟩⟩
 unfold open_
 rw [if_neg (by omega),hw]
 dsimp only
 rw [show ((n : Int)).toNat = n from rfl,hnew,show reads n (WalMath.low []) (rowsOf []) = some [] from rfl]
 dsimp only
 rw [if_neg (by decide)]
 show (⟨0,some ⟨⟨[],16,sz,none⟩,List.replicate n [],-1,0⟩,DiskMath.none_⟩ : So) = _
 rw [tt_zero]
end
end SrcMath
namespace WalMath
open FieldMath RecMath SegMath
open DiskMath (Fl Dk Up seek ins del grow sure begunL)
theorem plan_len {l : Lg} {off : Bool} {p b : List UInt8} {q : Pc} (h : plan l off p = .ok (q,b)) : b.length <= p.length + 27 := by
 have fr : ∀ {r},fresh l p = .ok r -> r.2.length <= p.length + 27 := fun {r} e => by
  unfold fresh at e
  split at e
  ·cases e
  ·injection e with e
   rw [<- e]
   show (headB _ ++ recB p).length <= _
   rw [List.length_append,headB_length,recB_length]
   omega
 unfold plan at h
 split at h
 ·cases h
 ·split at h
  ·cases h
  ·split at h
   ·cases h
   ·unfold spot at h
    split at h
    ·split at h
     ·injection h with h
      rw [show b = recB p from (congrArg Prod.snd h).symm,recB_length]
      omega
     ·exact fr h
    ·exact fr h
theorem Cap.write_ {k M : Nat} {d : Dk} (h : Cap k M d) (l : Lg) (q : Pc) (b : List UInt8) : Cap (k + 2) (M + b.length) (write l d q b).2.2 := by
 unfold write
 split
 ·exact (h.clean l).append _ _
 ·exact (h.clean l).mono (by omega) (by omega)
theorem Cap.append_ {k M : Nat} {d : Dk} (h : Cap k M d) (l : Lg) (p : List UInt8) : Cap (k + 3) (M + p.length + 27) (WalMath.append l d p).d := by
 unfold WalMath.append
 split
 ·exact h.mono (by omega) (by omega)
 ·next q b hp =>
  have hb := plan_len hp
  have hw := h.write_ l q b
  split
  ·unfold synced
   split
   ·exact (hw.sync _).mono (by omega) (by omega)
   ·exact (hw.sync _).mono (by omega) (by omega)
  ·exact hw.mono (by omega) (by omega)
theorem Cap.trimS_ {M : Nat} {lsn : Int} : ∀ {segs : List Sg} {k : Nat} {d : Dk},Cap k M d -> Cap (k + segs.length) M (trimS lsn segs d).2.2
 | [],k,d,h => h.mono (by omega) (Nat.le_refl _)
 | [s],k,d,h => h.mono (by omega) (Nat.le_refl _)
 | s :: t :: r,k,d,h => by
   rw [trimS]
   split
   ·split
    ·exact (Cap.trimS_ (segs := t :: r) (h.remove s.file)).mono (by simp only [List.length_cons]; omega) (Nat.le_refl _)
    ·exact (h.remove s.file).mono (by simp only [List.length_cons]; omega) (Nat.le_refl _)
   ·exact h.mono (by omega) (Nat.le_refl _)
theorem Cap.trim_ {k M : Nat} {d : Dk} (h : Cap k M d) (l : Lg) (lsn : Int) : Cap (k + l.segs.length) M (trim l d lsn).2.2 := by
 unfold trim
 split
 ·exact h.mono (by omega) (Nat.le_refl _)
 ·exact h.trimS_
theorem Cap.open__ {k M : Nat} {d : Dk} (h : Cap k M d) (ba sz : Int) : Cap (k + 1) M (open_ d ba sz).d := by
 have h0 : Cap (k + 1) M d := h.mono (Nat.le_succ _) (Nat.le_refl _)
 unfold open_
 split
 ·exact h0
 ·split
  ·exact h0
  ·split
   ·exact h0
   ·next segs hs =>
    have hm : Cap (k + 1) M (mend d (own d ba) segs).2 := by
     unfold mend
     split
     ·exact h.remove _
     ·split
      ·exact h0
      ·split
       ·exact h.cut _ _
       ·exact h0
    unfold mended
    split
    ·exact hm
    ·exact hm
end WalMath
namespace SrcMath
open IdxMath TxnMath FoldMath PartMath
open ImgMath (Im imgB decI)
open DiskMath (Fl Dk Up)
open WalMath (Lg Sg rowsOf Cap)
section
variable {k M : Nat} {d : Dk}
theorem cap_put (h : Cap k M d) (s : Sc) (f : Bool) {t : Tx} {P : Nat} (hP : ∀ n,(ent { t with lsn := n }).length <= P) : Cap (k + 3) (M + P + 27) (put s d f t).d := by
 have h0 : Cap (k + 3) (M + P + 27) d := h.mono (by omega) (by omega)
 have ha : Cap (k + 3) (M + P + 27) (WalMath.append s.l d (ent { t with lsn := WalMath.hd s.l.segs + 1 })).d := (h.append_ s.l (ent { t with lsn := WalMath.hd s.l.segs + 1 })).mono (Nat.le_refl _) (by have := hP (WalMath.hd s.l.segs + 1); omega)
 unfold put
 split
 ·exact h0
 ·split
  ·exact h0
  ·split
   ·exact ha
   ·exact ha
theorem cap_lay (h : Cap k M d) (f : Int) (b : List UInt8) : Cap (k + 3) (M + b.length) (lay d f b).2 := by
 have h0 : Cap (k + 1) M (lay0 d f).2 := by
  unfold lay0
  split
  ·exact h.mono (by omega) (Nat.le_refl _)
  ·exact h.cut _ _
 have h1 : Cap (k + 2) (M + b.length) (lay1 d f b).2 := by
  unfold lay1
  split
  ·exact h0.append _ _
  ·exact h0.mono (by omega) (by omega)
 unfold lay
 split
 ·exact h1.sync _
 ·exact h1.mono (by omega) (Nat.le_refl _)
theorem cap_trim (h : Cap k M d) (s : Sc) (lsn : Int) {P : Nat} (hP : (imgB ⟨WalMath.hd s.l.segs,s.T⟩).length <= P) : Cap (k + 3 + s.l.segs.length) (M + P) (trim s d lsn).2.2 := by
 unfold trim
 split
 ·exact h.mono (by omega) (by omega)
 ·split
  ·exact h.mono (by omega) (by omega)
  ·split
   ·exact (h.trim_ s.l lsn).mono (by omega) (by omega)
   ·have hl := cap_lay h (other s.file) (imgB ⟨WalMath.hd s.l.segs,s.T⟩)
    split
    ·exact (hl.trim_ s.l lsn).mono (by omega) (by omega)
    ·exact hl.mono (by omega) (by omega)
theorem imgB_len {x : Im} (h : x.may = true) : (imgB x).length <= 1048584 := by
 unfold imgB
 rw [RecMath.recB_length]
 have := ImgMath.encZ_len (ImgMath.may_of h)
 omega
end
end SrcMath
end Go.Proofs.YtefnmnpfecfdaaaGreat
