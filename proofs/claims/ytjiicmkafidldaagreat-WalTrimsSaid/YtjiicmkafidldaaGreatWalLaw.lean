/-
  What the laws of package wal share: the calls of a log and its disk once more, for objects whose blocks all lie from block B on.
-/
import Derived.Test.YtjiicmkafidldaaGreatWalBase
import Derived.Test.YtjiicmkafidldaaGreatMaths
namespace Go.Proofs.YtjiicmkafidldaaGreat.Wal
set_option linter.unusedVariables false
set_option maxRecDepth 100000
open Go.RowKit Base WalMath
open Go.Proofs.YtjiicmkafidldaaGreat.Disk (Turn Out DiskAt I64 Fits own_same own_type)
open DiskMath (Fl Dk)
set_option linter.ambiguousOpen false

theorem cap_size {k M : Nat} {d : Dk} (h : Cap k M d) (hM : M ≤ 35184372088832) : ∀ x ∈ d.files, x.b.length ≤ 140737488355328 := fun x hx => by
  have := h.2.2 x hx
  omega
theorem crash_b (B gd : Nat) (d : Dk) (A : Option Addr) (n c : Nat) (ks : List Int) (k M : Nat) (w : World) (h : DiskT (From B) w gd d) (hB : B ≤ w.heap.size) (hr : Row w B 1 A n c (iv ks)) (hk : ∀ k, I64 (ks.getD k 0)) (hc : Cap k M d) (hM : M ≤ 35184372088832) :
    Calls Tryz.prog 15 #[.pointer (some ⟨gd, 0, none⟩), .slice A n c] w fun e w' => e = .returned (.tuple #[]) ∧ DiskT (From B) w' gd (DiskMath.crash d ks) ∧ Below B w w' := by
  obtain ⟨F, h1, h2⟩ := h
  refine (Disk.crash_any F gd d B A n c ks w h1 (fun i hi => (h2 i hi).2) hr hB (fun hn a e hf => ?_) hk (cap_size hc hM)).mono ?_
  · obtain ⟨b, off, e2, hb, _⟩ := hr.2.2.2 hn
    rw [e] at e2
    injection e2 with e2
    subst e2
    have := (h2 _ hf).1
    unfold From at this
    dsimp only at this
    omega
  · rintro e w' ⟨he, hd, ht⟩
    refine ⟨he, ⟨_, hd, fun i hi => ?_⟩, ht.below (fun i hi => (h2 i hi).1) hB⟩
    rcases hi with hi | hi
    · exact ⟨(h2 i hi).1, Nat.lt_of_lt_of_le (h2 i hi).2 ht.size⟩
    · exact ⟨Nat.le_trans hB hi.1, hi.2⟩
theorem arm_b (B g gd : Nat) (l : Lg) (d : Dk) (n : Int) (w : World) (h : Both (From B) w g gd l d) (hB : B ≤ w.heap.size) :
    Calls Tryz.prog 12 #[.pointer (some ⟨gd, 0, none⟩), .int .i64 n] w fun e w' => e = .returned (.tuple #[]) ∧ Both (From B) w' g gd l (DiskMath.arm d n) ∧ Below B w w' := by
  obtain ⟨F, h1, h2, hk⟩ := h.disk (new_from hB)
  refine (Disk.arm_any F gd d n w h1).mono ?_
  rintro e w' ⟨he, hd, ht⟩
  exact ⟨he, (hk.out w' _ hd ht).1, ht.below (fun i hi => (h2 i hi).1) hB⟩
theorem open_b (B gd : Nat) (d d' : Dk) (l : Lg) (k M : Nat) (ba sz : Int) (w : World) (h : DiskT (From B) w gd d) (hB : B ≤ w.heap.size) (hc : Cap k M d) (hk : k ≤ 1000000) (hM : M ≤ 35184372088832) (ho : open_ d ba sz = ⟨0, some l, d'⟩) :
    Calls Tryz.prog 9 #[.pointer (some ⟨gd, 0, none⟩), .int .i64 ba, .int .i64 sz] w fun e w' => ∃ g, e = .returned (.tuple #[.pointer (some ⟨g, 0, none⟩), .int .i64 0]) ∧ Both (From B) w' g gd l d' ∧ Below B w w' := by
  refine (open_any (From B) gd d k M ba sz w h (new_from hB) hc hk hM).mono ?_
  intro e w' hop
  rw [ho] at hop
  obtain ⟨g, he, hb, _, ht⟩ := hop
  exact ⟨g, he, hb, Turn.from_ ht hB⟩
theorem append_b (B g gd : Nat) (l : Lg) (d : Dk) (f x : Int) (k M : Nat) (A : Option Addr) (n c : Nat) (p : List UInt8) (r : An) (w : World) (h : Both (From B) w g gd l d) (hB : B ≤ w.heap.size) (hf : Fine f x l) (hch : Chain f x l.segs) (hc : Cap k M d) (hk : k ≤ 10000000) (hM : M ≤ 35184372088832) (hr : Bytes w B A n c p) (he : append l d p = r) :
    Calls Tryz.prog 14 #[.pointer (some ⟨g, 0, none⟩), .slice A n c] w fun e w' => e = .returned (.tuple #[.int .i64 r.n, .int .i64 r.e]) ∧ Both (From B) w' g gd r.l r.d ∧ Below B w w' := by
  have hok := hf.ok hch
  have hfl := hf.fl
  have hf0 := hf.f0
  refine (append_any (From B) g gd l d k M A n c p w h (new_from hB) hok.1 hok.2 (by omega) hc hk hM (hr.more hB) (lies_below hr)).mono ?_
  rintro e w' ⟨h1, h2, h3⟩
  rw [he] at h1 h2
  exact ⟨h1, h2, Turn.from_ h3 hB⟩
theorem tear_b (B g gd : Nat) (l : Lg) (d : Dk) (f x : Int) (k M : Nat) (A : Option Addr) (n c : Nat) (p : List UInt8) (y : Nat) (r : Int × Lg × Dk) (w : World) (h : Both (From B) w g gd l d) (hB : B ≤ w.heap.size) (hf : Fine f x l) (hch : Chain f x l.segs) (hc : Cap k M d) (hk : k ≤ 10000000) (hM : M ≤ 35184372088832) (hr : Bytes w B A n c p) (hy : y ≤ 4611686018427387904) (he : tear l d p y = r) :
    Calls Tryz.prog 24 #[.pointer (some ⟨g, 0, none⟩), .slice A n c, .int .i64 y] w fun e w' => e = .returned (.int .i64 r.1) ∧ Both (From B) w' g gd r.2.1 r.2.2 ∧ Below B w w' := by
  refine (tear_any (From B) g gd l d k M A n c p y w h (new_from hB) (hf.ok hch).1 hc hk hM (hr.more hB) hy).mono ?_
  rintro e w' ⟨h1, h2, h3⟩
  rw [he] at h1 h2
  exact ⟨h1, h2, Turn.from_ h3 hB⟩
theorem head_b (B g gd : Nat) (l : Lg) (d : Dk) (f x v : Int) (w : World) (h : Both (From B) w g gd l d) (hB : B ≤ w.heap.size) (hf : Fine f x l) (hch : Chain f x l.segs) (hv : hd l.segs = v) :
    Calls Tryz.prog 17 #[.pointer (some ⟨g, 0, none⟩)] w fun e w' => e = .returned (.int .i64 v) ∧ Both (From B) w' g gd l d ∧ Below B w w' := by
  obtain ⟨F, G, h1, h2, h3⟩ := h
  refine (head_any G g gd l w h2 (hf.ok hch).1.2.2.2.2).mono ?_
  rintro e w' ⟨he, hb⟩
  rw [hv] at he
  exact ⟨he, Both.new ⟨F, G, h1, h2, h3⟩ hb, hb.mono hB⟩
theorem low_b (B g gd : Nat) (l : Lg) (d : Dk) (v : Int) (w : World) (h : Both (From B) w g gd l d) (hv : low l.segs = v) :
    Calls Tryz.prog 16 #[.pointer (some ⟨g, 0, none⟩)] w fun e w' => e = .returned (.int .i64 v) ∧ w = w' := by
  obtain ⟨F, G, h1, h2, h3⟩ := h
  refine (low_any G g gd l w h2).mono ?_
  rintro e w' ⟨he, hb⟩
  rw [hv] at he
  exact ⟨he, hb⟩
/-- an entry that is there -/
theorem read_b (B g gd : Nat) (l : Lg) (d : Dk) (f x lsn : Int) (p : List UInt8) (m : Nat) (w : World) (h : Both (From B) w g gd l d) (hB : B ≤ w.heap.size) (hf : Fine f x l) (hch : Chain f x l.segs) (hx : low l.segs = x) (he : entry l.segs lsn = some p) (hm : p.length = m) :
    Calls Tryz.prog 18 #[.pointer (some ⟨g, 0, none⟩), .int .i64 lsn] w fun e w' => ∃ A c, e = .returned (.tuple #[.slice A m c, .int .i64 0]) ∧ Bytes w' w'.heap.size A m c p ∧ Both (From B) w' g gd l d ∧ Below B w w' := by
  have hfl := hf.fl
  have hf0 := hf.f0
  obtain ⟨F, G, h1, h2, h3⟩ := h
  refine (read_any G g gd l lsn w h2 (hf.ok hch).1.2.2.2.2 (by omega) (by rw [hx]; exact chain_runs hch)).mono ?_
  intro e w' hr
  rw [he] at hr
  obtain ⟨A, c, he, ho, hb⟩ := hr
  rw [hm] at he ho
  exact ⟨A, c, he, Bytes.of_own ho, Both.new ⟨F, G, h1, h2, h3⟩ hb, hb.mono hB⟩
/-- the last of the files' numbers -/
theorem files_b (B g gd : Nat) (l : Lg) (d : Dk) (fs : List Fl) (z : Fl) (k N : Nat) (w : World) (h : Both (From B) w g gd l d) (hB : B ≤ w.heap.size) (hfs : d.files = fs ++ [z]) (hk : fs.length = k) (hN : N = k + 1) :
    Calls Tryz.prog 20 #[.pointer (some ⟨gd, 0, none⟩)] w fun e w' => ∃ b c, e = .returned (.slice (some ⟨b, 0, none⟩) N c) ∧ w'.cell? ⟨b, k, none⟩ = some (.int .i64 z.id) ∧ N ≤ c ∧ c ≤ 9223372036854775807 ∧ Both (From B) w' g gd l d ∧ Below B w w' := by
  subst hN
  obtain ⟨F, G, h1, h2, h3⟩ := h
  refine (Disk.files_any F gd d w h1).mono ?_
  rintro e w' ⟨A, c, he, ho, hb⟩
  have hl : (d.files.map (·.id)).length = k + 1 := by rw [hfs, List.length_map, List.length_append, hk]; rfl
  rw [hl] at he ho
  have hrow := Row.of_own ho
  have hget : ((d.files.map (·.id)).map fun x => Value.int .i64 x)[k]? = some (.int .i64 z.id) := by
    rw [hfs, List.map_append, List.map_append, List.getElem?_append_right (by rw [List.length_map, List.length_map, hk]; exact Nat.le_refl _), List.length_map, List.length_map, hk, Nat.sub_self]
    rfl
  rcases ho.2 with ⟨_, h0⟩ | ⟨b, cap, cur, hv, _⟩
  · omega
  · simp only [Value.slice.injEq] at hv
    obtain ⟨rfl, _, rfl⟩ := hv
    refine ⟨b, c, he, ?_, hrow.2.1, hrow.2.2.1, Both.new ⟨F, G, h1, h2, h3⟩ hb, hb.mono hB⟩
    have := ho.cells (g := b) rfl k _ hget
    rwa [add_none, Nat.zero_add] at this
theorem diskread_b (B g gd : Nat) (l : Lg) (d : Dk) (f : Int) (x : Fl) (k M m : Nat) (w : World) (h : Both (From B) w g gd l d) (hB : B ≤ w.heap.size) (hI : I64 f) (hx : DiskMath.seek d.files f = some x) (hc : Cap k M d) (hM : M ≤ 35184372088832) (hm : x.b.length = m) :
    Calls Tryz.prog 21 #[.pointer (some ⟨gd, 0, none⟩), .int .i64 f] w fun e w' => ∃ A c, e = .returned (.tuple #[.slice A m c, .bool true]) ∧ Both (From B) w' g gd l d ∧ Below B w w' := by
  obtain ⟨F, G, h1, h2, h3⟩ := h
  refine (Disk.read_yes F gd d f x w h1 hI hx (cap_size hc hM x (DiskMath.seek_mem hx).1)).mono ?_
  rintro e w' ⟨A, c, he, ho, hb⟩
  rw [hm] at he
  exact ⟨A, c, he, Both.new ⟨F, G, h1, h2, h3⟩ hb, hb.mono hB⟩
theorem cut_b (B g gd : Nat) (l : Lg) (d : Dk) (f n : Int) (k M : Nat) (r : Int × Dk) (w : World) (h : Both (From B) w g gd l d) (hB : B ≤ w.heap.size) (hc : Cap k M d) (hk : k ≤ 1000000000) (he : DiskMath.cut d f n = r) :
    Calls Tryz.prog 22 #[.pointer (some ⟨gd, 0, none⟩), .int .i64 f, .int .i64 n] w fun e w' => e = .returned (.int .i64 r.1) ∧ Both (From B) w' g gd l r.2 ∧ Below B w w' := by
  obtain ⟨F, h1, h2, hk2⟩ := h.disk (new_from hB)
  refine (Disk.cut_any F gd d f n w h1 (cap_fits hc hk)).mono ?_
  rintro e w' ⟨e1, hd, ht⟩
  rw [he] at e1 hd
  exact ⟨e1, (hk2.out w' _ hd ht).1, ht.below (fun i hi => (h2 i hi).1) hB⟩
theorem down_b (B g gd : Nat) (l : Lg) (d : Dk) (v : Bool) (w : World) (h : Both (From B) w g gd l d) (hv : d.off = v) :
    Calls Tryz.prog 23 #[.pointer (some ⟨gd, 0, none⟩)] w fun e w' => e = .returned (.bool v) ∧ w = w' := by
  obtain ⟨F, G, h1, h2, h3⟩ := h
  refine (Disk.down_any F gd d w h1).mono ?_
  rintro e w' ⟨he, hb⟩
  rw [hv] at he
  exact ⟨he, hb⟩
theorem entry_at {f x : Int} {segs : List Sg} {lsn : Int} {p : List UInt8} (hch : Chain f x segs) (h0 : x ≤ lsn) (h1 : lsn < x + cnt segs) (hp : (rowsOf segs)[(lsn - x).toNat]? = some p) : entry segs lsn = some p := by
  have hne : segs ≠ [] := by
    intro e
    rw [e] at h1
    simp [cnt, rowsOf] at h1
    omega
  unfold entry
  rw [low_chain hch hne, hd_chain hch hne, if_pos (by omega)]
  exact hp
theorem fine_of {l : List (List UInt8)} {k : Nat} {ba sz : Int} {g : Lg} (hch : Chain ba 1 g.segs) (hr : rowsOf g.segs = l.take k) (hk : k ≤ 100) (hb : g.base = ba) (hz : g.size = sz) (hb0 : 0 ≤ ba) (hb1 : ba ≤ 12288) (hs0 : 64 ≤ sz) (hs1 : sz ≤ 65536) (hp : ∀ p ∈ l.take k, p.length ≤ 1000) : Fine ba 1 g := by
  have hc : cnt g.segs ≤ k := by rw [cnt, hr, List.length_take]; omega
  have hl := chain_len hch
  exact ⟨hb0, by omega, by omega, by omega, by omega, by omega, by omega, by omega, by rw [hr]; exact hp, by omega⟩
/-- a number of a row of entries -/
theorem lists_bytes {w : World} {B n c : Nat} {A : Option Addr} {ls : List (List UInt8)} (h : Lists w B A n c ls) {k : Nat} {p : List UInt8} (hk : ls[k]? = some p) : k < n ∧ ∃ b off A' n' c', A = some ⟨b, off, none⟩ ∧ b < B ∧ w.cell? ⟨b, off + k, none⟩ = some (.slice A' n' c') ∧ Bytes w B A' n' c' p := by
  have hkn : k < n := by
    have := (List.getElem?_eq_some_iff.1 hk).1
    rw [h.len] at this
    exact this
  obtain ⟨b, off, A', n', c', l, e, hb, hc, hy, hg, _⟩ := h.at_ hkn
  rw [hg] at hk
  injection hk with hk
  subst hk
  exact ⟨hkn, b, off, A', n', c', e, hb, hc, hy⟩
theorem few_snoc {l : List (List UInt8)} {k : Nat} {p : List UInt8} (h : ∀ q ∈ l.take k, q.length ≤ 1000) (e : l.take (k + 1) = l.take k ++ [p]) (hp : p.length ≤ 1000) : ∀ q ∈ l.take (k + 1), q.length ≤ 1000 := by
  intro q hq
  rw [e] at hq
  rcases List.mem_append.1 hq with hq | hq
  · exact h q hq
  · rw [List.mem_singleton] at hq
    subst hq
    exact hp
end Go.Proofs.YtjiicmkafidldaaGreat.Wal
