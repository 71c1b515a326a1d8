/-
  What the law WalTrims wants: plain mathematics of Trim (whatever is trimmed, nothing is lost that lies above, and the log is opened anew as it was); a log beside an elder one of the same disk.
-/
import Derived.Test.YtjiicmkafidldaaGreatWalTrim
import Derived.Deep.DeepCutAuto
import Derived.Deep.RegionHeld3
namespace Go.Proofs.YtjiicmkafidldaaGreat.WalMath
set_option linter.unusedVariables false
open FieldMath RecMath SegMath
open DiskMath (Fl Dk Up seek ins del grow sure begunL crashL setl keeps)

theorem chain_cons {f x : Int} {s t : Sg} {r : List Sg} (h : Chain f x (s :: t :: r)) : One f x s ∧ s.rows ≠ [] ∧ Chain (f + 1) (x + s.rows.length) (t :: r) := by
  rcases h with h | ⟨pre, u, e, h1, h2⟩
  · cases h
  · cases pre with
    | nil => simp at e
    | cons a pre =>
      rw [List.cons_append] at e
      injection e with e1 e2
      subst e1
      refine ⟨h1.1, h1.2.1, .inr ⟨pre, u, e2, h1.2.2, ?_⟩⟩
      rw [cnt_cons, List.length_cons] at h2
      rw [show f + 1 + (pre.length : Int) = f + ((pre.length + 1 : Nat) : Int) by omega, show x + (s.rows.length : Int) + (cnt pre : Int) = x + ((s.rows.length + cnt pre : Nat) : Int) by omega]
      exact h2
theorem trimS_good {lsn : Int} : ∀ (segs : List Sg) (f x : Int) (d : Dk), Chain f x segs → d.files = img segs → d.off = false → d.left = 0 → 0 ≤ f → f + segs.length ≤ 16384 →
    ∃ segs' d' k j, trimS lsn segs d = (0, segs', d') ∧ Chain (f + (k : Nat)) (x + (j : Nat)) segs' ∧ d'.files = img segs' ∧ d'.off = false ∧ d'.left = 0 ∧ segs'.length + k = segs.length ∧ rowsOf segs' = (rowsOf segs).drop j ∧ (segs ≠ [] → segs' ≠ []) ∧ d'.ops ≤ d.ops + k ∧ (0 < j → x + j - 1 ≤ lsn) ∧ j ≤ cnt segs
  | [], f, x, d, hc, h1, h2, h3, _, _ => ⟨[], d, 0, 0, rfl, .inl rfl, h1, h2, h3, rfl, rfl, fun h => h, Nat.le_refl _, fun h => absurd h (by omega), Nat.zero_le _⟩
  | [s], f, x, d, hc, h1, h2, h3, _, _ => ⟨[s], d, 0, 0, rfl, by simpa using hc, h1, h2, h3, rfl, rfl, fun h => h, Nat.le_refl _, fun h => absurd h (by omega), Nat.zero_le _⟩
  | s :: t :: r, f, x, d, hc, h1, h2, h3, hf, hn => by
    by_cases hl : last s ≤ lsn
    · obtain ⟨ho, hr, hct⟩ := chain_cons hc
      have hids : ∀ y ∈ img (t :: r), y.id ≠ s.file := fun y hy => by
        obtain ⟨u, hu, rfl⟩ := List.mem_map.1 hy
        have a := (chain_mem hct u hu).1
        have b := ho.1
        show u.file ≠ s.file
        omega
      have hfs : d.files = fl s :: img (t :: r) := h1
      have hseek : seek d.files s.file = some (fl s) := by
        rw [hfs]
        unfold DiskMath.seek
        rw [List.find?_cons]
        have : decide ((fl s).id = s.file) = true := decide_eq_true rfl
        rw [this]
      have hrf : DiskMath.refuse d s.file true = 0 := by
        have := ho.1
        unfold DiskMath.refuse
        rw [h2, hseek, if_neg (by simp), if_neg (by simp only [List.length_cons] at hn; omega), if_neg (by simp)]
      have hdel : del d.files s.file = img (t :: r) := by
        rw [hfs]
        unfold DiskMath.del
        rw [List.filter_cons, if_neg (by simp [fl])]
        exact List.filter_eq_self.2 fun y hy => by simpa using hids y hy
      have hrm : DiskMath.remove d s.file = (0, { DiskMath.tick d with files := img (t :: r) }) := by
        unfold DiskMath.remove
        rw [hrf, if_pos rfl, oper_eq, if_neg (by omega), hdel]
      obtain ⟨segs', d', k, j, e, a1, a2, a3, a4, a5, a6, a7, a8, a9, a10⟩ := trimS_good (lsn := lsn) (t :: r) (f + 1) (x + s.rows.length) { DiskMath.tick d with files := img (t :: r) } hct rfl (by show decide (d.left = 1) = false; rw [h3]; rfl) (by show d.left - 1 = 0; omega) (by omega) (by simp only [List.length_cons] at hn ⊢; omega)
      have hla := last_one ho
      refine ⟨segs', d', k + 1, s.rows.length + j, ?_, ?_, a2, a3, a4, ?_, ?_, fun _ => a7 (by simp), ?_, fun _ => ?_, ?_⟩
      · rw [trimS, if_pos hl, hrm, if_pos rfl]
        exact e
      · rw [show f + ((k + 1 : Nat) : Int) = f + 1 + (k : Int) by omega, show x + ((s.rows.length + j : Nat) : Int) = x + (s.rows.length : Int) + (j : Int) by omega]
        exact a1
      · rw [List.length_cons]
        omega
      · rw [a6, rowsOf_cons s, List.drop_append, List.drop_of_length_le (l := s.rows) (by omega), List.nil_append]
        congr 1
        omega
      · have : ({ DiskMath.tick d with files := img (t :: r) } : Dk).ops = d.ops + 1 := rfl
        omega
      · by_cases hj : 0 < j
        · have := a9 hj
          omega
        · omega
      · rw [cnt_cons]
        omega
    · exact ⟨s :: t :: r, d, 0, 0, by rw [trimS, if_neg hl], by simpa using hc, h1, h2, h3, rfl, rfl, fun h => h, Nat.le_refl _, fun h => absurd h (by omega), Nat.zero_le _⟩

/-- a log that was trimmed, and what is opened anew -/
theorem tore_trims {l : List (List UInt8)} {m : Nat} {g : Lg} {d : Dk} (h : Tore l 0 64 m g d) (hm : m ≤ l.length) (hm2 : m ≤ 100) {k : Nat} :
    ∃ (segs : List Sg) (d1 : Dk) (f : Int) (lo : Nat) (segs2 : List Sg) (d2 : Dk), trim g d k = (0, { g with segs := segs }, d1) ∧ 1 ≤ lo ∧ lo ≤ m + 1 ∧ (lo ≤ k + 1 ∨ lo = 1) ∧ low segs = lo ∧ hd segs = m ∧ segs.length ≤ g.segs.length ∧ (0 < m → 1 ≤ segs.length) ∧ Chain f lo segs ∧ rowsOf segs = (l.take m).drop (lo - 1) ∧ d1.ops ≤ 800 ∧ d1.left = 0 ∧ (∀ y ∈ d1.files, ∃ s ∈ segs, y = fl s) ∧ 0 ≤ f ∧ f + segs.length ≤ 200 ∧
      open_ d1 0 64 = ⟨0, some ⟨segs2, 0, 64, none⟩, d2⟩ ∧ Chain f lo segs2 ∧ low segs2 = lo ∧ hd segs2 = m ∧ rowsOf segs2 = (l.take m).drop (lo - 1) ∧ segs2.length ≤ segs.length := by
  have hcn := h.cnt hm
  have hln := h.len hm
  have hto := h.ops
  obtain ⟨segs, d1, kk, j, e, a1, a2, a3, a4, a5, a6, a7, a8, a9, a10⟩ := trimS_good (lsn := (k : Int)) g.segs 0 1 d h.good.chain h.good.files h.good.on h.left (by omega) (by omega)
  have htl : (l.take m).length = m := by rw [List.length_take]; omega
  rw [hcn] at a10
  rw [h.rows] at a6
  have hcs : cnt segs = m - j := by rw [cnt, a6, List.length_drop, htl]
  have htr : trim g d k = (0, { g with segs := segs }, d1) := by
    unfold trim
    rw [h.good.on, if_neg (by simp), e]
  have hgm : 0 < m → g.segs ≠ [] := fun h0 e2 => by
    rw [e2] at hcn
    simp [WalMath.cnt, rowsOf] at hcn
    omega
  obtain ⟨segs2, d2, hgo, b1, b2⟩ := open_good (ba := 0) (sz := 64) (d := d1) (f := 0 + (kk : Int)) (x := 1 + (j : Int)) a1 a2 a3 a4 (by omega) (by omega) (by omega) (by omega) (by omega) (by omega) (by omega) (by rw [hcs]; omega)
  have hr2 : rowsOf segs2 = (l.take m).drop j := by rw [hgo.rows, WalMath.cnt, List.take_length, a6]
  have hc2 : cnt segs2 = m - j := by rw [cnt, hr2, List.length_drop, htl]
  by_cases h0 : g.segs = []
  · have hs0 : segs = [] := by rw [h0] at a5; simp at a5; exact a5.1
    have hm0 : m = 0 := by
      rcases Nat.eq_zero_or_pos m with hz | hz
      · exact hz
      · exact absurd h0 (hgm hz)
    subst hm0
    obtain rfl : j = 0 := by omega
    have hs2 : segs2 = [] := List.eq_nil_of_length_eq_zero (by rw [hs0] at b1; simpa using b1)
    refine ⟨segs, d1, 0 + (kk : Int), 1, segs2, d2, htr, Nat.le_refl _, by omega, .inr rfl, by rw [hs0]; rfl, by rw [hs0]; rfl, by omega, fun h => absurd h (by omega), by rw [hs0]; exact .inl rfl, by rw [a6], by omega, a4, fun y hy => by rw [a2] at hy; obtain ⟨s, hs, rfl⟩ := List.mem_map.1 hy; exact ⟨s, hs, rfl⟩, by omega, by omega, hgo.opens, by rw [hs2]; exact .inl rfl, by rw [hs2]; rfl, by rw [hs2]; rfl, by rw [hr2], b1⟩
  · have hs0 := a7 h0
    have hs2 := b2 hs0
    have hlo : (1 : Int) + (j : Int) = ((1 + j : Nat) : Int) := by omega
    refine ⟨segs, d1, 0 + (kk : Int), 1 + j, segs2, d2, htr, by omega, by omega, ?_, by rw [low_chain a1 hs0]; omega, by rw [hd_chain a1 hs0, hcs]; omega, by omega, fun _ => List.length_pos_iff.2 hs0, by rw [← hlo]; exact a1, by rw [a6]; congr 1; omega, by omega, a4, fun y hy => by rw [a2] at hy; obtain ⟨s, hs, rfl⟩ := List.mem_map.1 hy; exact ⟨s, hs, rfl⟩, by omega, by omega, hgo.opens, by rw [← hlo]; exact hgo.good.chain, by rw [low_chain hgo.good.chain hs2]; omega, by rw [hd_chain hgo.good.chain hs2, hc2]; omega, by rw [hr2]; congr 1; omega, b1⟩
    by_cases hj : 0 < j
    · have := a9 hj
      exact .inl (by omega)
    · exact .inr (by omega)
end Go.Proofs.YtjiicmkafidldaaGreat.WalMath
namespace Go.Proofs.YtjiicmkafidldaaGreat.Wal
set_option linter.unusedVariables false
set_option maxRecDepth 100000
open Go.RowKit Base WalMath
open Go.Proofs.YtjiicmkafidldaaGreat.Field (modZ modZ_lt mod_any)
open Go.Proofs.YtjiicmkafidldaaGreat.Disk (Turn Out DiskAt I64 Fits own_same own_type)
open DiskMath (Fl Dk)
set_option linter.ambiguousOpen false

def MinRel (w : World) (M : Nat) (v : Value) (wx : World) : Prop := ∃ m : Nat, v = .int .i64 m ∧ m ≤ 40 ∧ m ≤ M ∧ w = wx
def PushRel (w : World) (ls : List (List UInt8)) (m g gd : Nat) (v : Value) (wr : World) : Prop :=
  ∃ (t : Nat) (lg : Lg) (dk : Dk), v = .int .i64 t ∧ t ≤ m ∧ Tore ls 0 64 t lg dk ∧ (∀ p ∈ ls.take t, p.length ≤ 1000) ∧ Both (From w.heap.size) wr g gd lg dk ∧ Below w.heap.size w wr
/-- the elder log beside the new one -/
def Beside (B : Nat) (w : World) (g g2 gd : Nat) (l l2 : Lg) (d : Dk) : Prop := Both (From B) w g2 gd l2 d ∧ ∃ G, LogAt G w g gd l
theorem Beside.new {B : Nat} {w w' : World} {g g2 gd : Nat} {l l2 : Lg} {d : Dk} (h : Beside B w g g2 gd l l2 d) (hb : Below w.heap.size w w') : Beside B w' g g2 gd l l2 d := by
  obtain ⟨h1, G, h2⟩ := h
  exact ⟨h1.new hb, G, h2.new hb⟩
def TellRel (w : World) (lo m g g2 gd : Nat) (l l2 : Lg) (d : Dk) (v : Value) (wr : World) : Prop := ∃ i : Nat, v = .int .i64 i ∧ lo ≤ i ∧ i ≤ m + 1 ∧ Beside w.heap.size wr g g2 gd l l2 d ∧ Below w.heap.size w wr
theorem open_two (B g gd : Nat) (l l2 : Lg) (d d2 : Dk) (k M : Nat) (ba sz : Int) (w : World) (h : Both (From B) w g gd l d) (hB : B ≤ w.heap.size) (hc : Cap k M d) (hk : k ≤ 1000000) (hM : M ≤ 35184372088832) (ho : open_ d ba sz = ⟨0, some l2, d2⟩) :
    Calls Tryz.prog 9 #[.pointer (some ⟨gd, 0, none⟩), .int .i64 ba, .int .i64 sz] w fun e w' => ∃ g2, e = .returned (.tuple #[.pointer (some ⟨g2, 0, none⟩), .int .i64 0]) ∧ Beside B w' g g2 gd l l2 d2 ∧ Below B w w' := by
  obtain ⟨F, G, hdk, hlog, hFG, hF, hG⟩ := h
  refine (open_any (fun i => F i ∨ w.heap.size ≤ i) gd d k M ba sz w ⟨F, hdk, fun i hi => ⟨.inl hi, (hF i hi).2⟩⟩ (fun i hi => .inr hi) hc hk hM).mono ?_
  intro e w' hop
  rw [ho] at hop
  obtain ⟨g2, he, hb, _, ht⟩ := hop
  have hfrom : ∀ i, (F i ∨ w.heap.size ≤ i) → From B i := fun i hi => hi.elim (fun h => (hF i h).1) (fun h => Nat.le_trans hB h)
  refine ⟨g2, he, ⟨hb.mono hfrom, G, hlog.turn ht fun i hg hT => ?_⟩, Turn.from_ (ht.mono hfrom) hB⟩
  rcases hT with hf | hs
  · exact hFG i hf hg
  · have := (hG i hg).2
    omega
theorem trim_b (B g gd : Nat) (l : Lg) (d : Dk) (f x : Int) (k M : Nat) (lsn : Int) (r : Int × Lg × Dk) (w : World) (h : Both (From B) w g gd l d) (hB : B ≤ w.heap.size) (hf : Fine f x l) (hch : Chain f x l.segs) (hc : Cap k M d) (hk : k ≤ 1000000) (hoff : d.off = false) (he : trim l d lsn = r) :
    Calls Tryz.prog 26 #[.pointer (some ⟨g, 0, none⟩), .int .i64 lsn] w fun e w' => e = .returned (.int .i64 r.1) ∧ Both (From B) w' g gd r.2.1 r.2.2 ∧ Below B w w' := by
  have hfl := hf.fl
  have hf0 := hf.f0
  refine (trim_on (From B) g gd l d k M lsn w h (new_from hB) (hf.ok hch).1.2.2.2.2 (by omega) hc hk hoff).mono ?_
  rintro e w' ⟨h1, h2, h3⟩
  rw [he] at h1 h2
  exact ⟨h1, h2, Turn.from_ h3 hB⟩
theorem segments_b (B g gd : Nat) (l : Lg) (d : Dk) (v : Nat) (w : World) (h : Both (From B) w g gd l d) (hv : l.segs.length = v) :
    Calls Tryz.prog 25 #[.pointer (some ⟨g, 0, none⟩)] w fun e w' => e = .returned (.int .i64 v) ∧ w = w' := by
  obtain ⟨F, G, h1, h2, h3⟩ := h
  refine (segments_any G g gd l w h2).mono ?_
  rintro e w' ⟨he, hb⟩
  rw [hv] at he
  exact ⟨he, hb⟩

theorem lowg_any {B g g2 gd : Nat} {l l2 : Lg} {d : Dk} {v : Int} (wx : World) (h : Beside B wx g g2 gd l l2 d) (hv : low l.segs = v) :
    Calls Tryz.prog 16 #[.pointer (some ⟨g, 0, none⟩)] wx fun e w' => e = .returned (.int .i64 v) ∧ wx = w' := by
  obtain ⟨_, G, h2⟩ := h
  refine (low_any G g gd l wx h2).mono ?_
  rintro e w' ⟨he, hb⟩
  rw [hv] at he
  exact ⟨he, hb⟩
theorem headh_any {B g g2 gd : Nat} {l l2 : Lg} {d : Dk} {f x v : Int} (wx : World) (h : Beside B wx g g2 gd l l2 d) (hf : Fine f x l2) (hch : Chain f x l2.segs) (hv : hd l2.segs = v) :
    Calls Tryz.prog 17 #[.pointer (some ⟨g2, 0, none⟩)] wx fun e w' => e = .returned (.int .i64 v) ∧ Below wx.heap.size wx w' := by
  obtain ⟨⟨F, G, h1, h2, h3⟩, _⟩ := h
  refine (head_any G g2 gd l2 wx h2 (hf.ok hch).1.2.2.2.2).mono ?_
  rintro e w' ⟨he, hb⟩
  rw [hv] at he
  exact ⟨he, hb⟩
/-- there is no such entry -/
theorem readh_none {B g g2 gd : Nat} {l l2 : Lg} {d : Dk} {f x z : Int} (wx : World) (h : Beside B wx g g2 gd l l2 d) (hf : Fine f x l2) (hch : Chain f x l2.segs) (hz : z < low l2.segs) :
    Calls Tryz.prog 18 #[.pointer (some ⟨g2, 0, none⟩), .int .i64 z] wx fun e w' => e = .returned (.tuple #[.slice none 0 0, .int .i64 5]) ∧ Below wx.heap.size wx w' := by
  obtain ⟨⟨F, G, h1, h2, h3⟩, _⟩ := h
  exact readno_any G g2 gd l2 z wx h2 (hf.ok hch).1.2.2.2.2 (fun hh => by omega)
end Go.Proofs.YtjiicmkafidldaaGreat.Wal
