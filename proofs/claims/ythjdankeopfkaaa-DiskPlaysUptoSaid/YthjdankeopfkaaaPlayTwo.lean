/-
  The code's disk and the document's, side by side in one memory; the contracts once more, in that form; an op's file.
-/
import Derived.Test.YthjdankeopfkaaaDiskBase
import Derived.Test.YthjdankeopfkaaaRefRemove
import Derived.Test.YthjdankeopfkaaaRefCrash
import Derived.Test.YthjdankeopfkaaaPlayMod
namespace Go.Proofs.Ythjdankeopfkaaa.Play
set_option linter.ambiguousOpen false
open Go.RowKit Base DiskMath Disk Ref Field

/-- block g is the code's disk d1, block h the document's disk d2; they lie apart, and off the blocks K -/
def Two (K : Nat → Prop) (w : World) (g h : Nat) (d1 d2 : Dk) : Prop :=
  ∃ FD FX : Nat → Prop, DiskAt FD w g d1 ∧ RefAt FX w h d2 ∧ (∀ i, FD i → ¬ K i ∧ i < w.heap.size) ∧ (∀ i, FX i → ¬ K i ∧ i < w.heap.size) ∧ (∀ i, FD i → ¬ FX i)
section
variable {K K' : Nat → Prop} {w w' : World} {g h : Nat} {d1 d2 d' : Dk}
theorem Two.new (t : Two K w g h d1 d2) (hb : Below w.heap.size w w') : Two K w' g h d1 d2 := by
  obtain ⟨FD, FX, a, b, c, e, f⟩ := t
  have := hb.size
  exact ⟨FD, FX, a.new hb, b.new hb, fun i hi => ⟨(c i hi).1, by have := (c i hi).2; omega⟩, fun i hi => ⟨(e i hi).1, by have := (e i hi).2; omega⟩, f⟩
theorem Two.drewN (t : Two K w g h d1 d2) (q : Nat) : Two K (w.drewN q) g h d1 d2 := t
theorem Two.alloc (t : Two K w g h d1 d2) (o : Obj) : Two K (w.alloc o) g h d1 d2 := t.new ((Below.refl _ _).alloc (Nat.le_refl _) o)
theorem Two.weak (t : Two K w g h d1 d2) (hk : ∀ i, K' i → K i) : Two K' w g h d1 d2 := by
  obtain ⟨FD, FX, a, b, c, e, f⟩ := t
  exact ⟨FD, FX, a, b, fun i hi => ⟨fun hk' => (c i hi).1 (hk i hk'), (c i hi).2⟩, fun i hi => ⟨fun hk' => (e i hi).1 (hk i hk'), (e i hi).2⟩, f⟩
/-- a block that is not there yet is no one's -/
theorem Two.more (t : Two K w g h d1 d2) {p : Nat} (hp : w.heap.size ≤ p) : Two (fun i => K i ∨ i = p) w g h d1 d2 := by
  obtain ⟨FD, FX, a, b, c, e, f⟩ := t
  exact ⟨FD, FX, a, b, fun i hi => ⟨fun hk => hk.elim (c i hi).1 fun e' => by have := (c i hi).2; omega, (c i hi).2⟩, fun i hi => ⟨fun hk => hk.elim (e i hi).1 fun e' => by have := (e i hi).2; omega, (e i hi).2⟩, f⟩
theorem Two.up (t : Two K w g h d1 d2) : Up 0 d1.files := by
  obtain ⟨FD, FX, a, _⟩ := t
  exact a.up
/-- what stands: K, and all but what is not K's -/
def Kept (K : Nat → Prop) (w w' : World) : Prop := Turn (fun i => ¬ K i) w w'
theorem Kept.trans {w2 : World} (a : Kept K w w') (b : Kept K w' w2) : Kept K w w2 := Turn.trans a b fun _ hi => .inl hi
theorem Kept.weak (a : Kept K w w') (hk : ∀ i, K' i → K i) : Kept K' w w' := Turn.mono a fun i hi hk' => hi (hk i hk')
theorem Kept.new (hb : Below w.heap.size w w') : Kept K w w' := Turn.new hb
theorem Kept.cell (a : Kept K w w') {p : Addr} (hp : p.block < w.heap.size) (hk : K p.block) : w'.cell? p = w.cell? p := Turn.cell a hp fun hn => hn hk
theorem Kept.row {B k n c : Nat} {A : Option Addr} {vs : List Value} (a : Kept K w w') (hr : Row w B k A n c vs) (hB : B ≤ w.heap.size) (hk : ∀ i, i < B → K i) : Row w' B k A n c vs := by
  refine ⟨hr.1, hr.2.1, hr.2.2.1, fun hn => ?_⟩
  obtain ⟨b, off, e, hb, hc⟩ := hr.2.2.2 hn
  exact ⟨b, off, e, hb, fun j u hu => (a.cell (p := ⟨b, off + j, none⟩) (by dsimp only; omega) (hk b hb)).trans (hc j u hu)⟩
/-- the code's disk turns -/
theorem Two.code {FD FX : Nat → Prop} (hK : ∀ i, K i → i < w.heap.size) (b : RefAt FX w h d2) (c : ∀ i, FD i → ¬ K i ∧ i < w.heap.size) (e : ∀ i, FX i → ¬ K i ∧ i < w.heap.size) (f : ∀ i, FD i → ¬ FX i) (a : DiskAt (Out FD w w') w' g d') (ht : Turn FD w w') :
    Two K w' g h d' d2 ∧ Kept K w w' := by
  have hs := ht.size
  refine ⟨⟨Out FD w w', FX, a, b.turn ht (fun i hi hj => f i hj hi), fun i hi => ?_, fun i hi => ⟨(e i hi).1, by have := (e i hi).2; omega⟩, fun i hi hx => ?_⟩, Turn.mono ht fun i hi => (c i hi).1⟩
  · rcases hi with hi | hi
    · have := c i hi
      exact ⟨this.1, by omega⟩
    · exact ⟨fun hk => by have := hK i hk; omega, hi.2⟩
  · rcases hi with hi | hi
    · exact f i hi hx
    · have := (e i hx).2
      omega
/-- the document's disk turns -/
theorem Two.ref {FD FX : Nat → Prop} (hK : ∀ i, K i → i < w.heap.size) (a : DiskAt FD w g d1) (c : ∀ i, FD i → ¬ K i ∧ i < w.heap.size) (e : ∀ i, FX i → ¬ K i ∧ i < w.heap.size) (f : ∀ i, FD i → ¬ FX i) (b : RefAt (Out FX w w') w' h d') (ht : Turn FX w w') :
    Two K w' g h d1 d' ∧ Kept K w w' := by
  have hs := ht.size
  refine ⟨⟨FD, Out FX w w', a.turn ht (fun i hi hj => f i hi hj), b, fun i hi => ⟨(c i hi).1, by have := (c i hi).2; omega⟩, fun i hi => ?_, fun i hi hx => ?_⟩, Turn.mono ht fun i hi => (e i hi).1⟩
  · rcases hi with hi | hi
    · have := e i hi
      exact ⟨this.1, by omega⟩
    · exact ⟨fun hk => by have := hK i hk; omega, hi.2⟩
  · rcases hx with hx | hx
    · exact f i hi hx
    · have := (c i hi).2
      omega
theorem Row.apart {A : Option Addr} {B k n c : Nat} {vs : List Value} (hr : Row w B k A n c vs) {F : Nat → Prop} (hF : ∀ i, F i → ¬ K i ∧ i < w.heap.size) (hb : ∀ i, i < B → K i) (hn : 0 < n) (a : Addr) (ha : A = some a) : ¬ F a.block := fun hf => by
  obtain ⟨b, off, e, hlt, _⟩ := hr.2.2.2 hn
  rw [e] at ha
  injection ha with ha
  subst ha
  exact (hF _ hf).1 (hb _ hlt)
/-- what an operation answers, and what becomes of both -/
def Did (K : Nat → Prop) (w : World) (g h : Nat) (k : Int) (d1 d2 : Dk) (e : Ending) (w' : World) : Prop := e = .returned (.int .i64 k) ∧ Two K w' g h d1 d2 ∧ Kept K w w'
def Went (K : Nat → Prop) (w : World) (g h : Nat) (d1 d2 : Dk) (e : Ending) (w' : World) : Prop := e = .returned (.tuple #[]) ∧ Two K w' g h d1 d2 ∧ Kept K w w'
end

section
variable (K : Nat → Prop) (g h : Nat) (d1 d2 : Dk) (w : World) (t : Two K w g h d1 d2) (hK : ∀ i, K i → i < w.heap.size)
include t hK
theorem two_append (f : Int) (B : Nat) (A : Option Addr) (n c : Nat) (b : List UInt8) (hB : B ≤ w.heap.size) (hf : Fits d1) (hr : Bytes w B A n c b) (hn : n ≤ 140737488355328) (hsz : ∀ x, seek d1.files f = some x → x.b.length + n ≤ 140737488355328) :
    Calls Try.prog 15 #[.pointer (some ⟨g, 0, none⟩), .int .i64 f, .slice A n c] w (Did K w g h (append d1 f b).1 (append d1 f b).2 d2) := by
  obtain ⟨FD, FX, a, b', c', e, f'⟩ := t
  exact (append_any FD g d1 f B A n c b w a hf hr hB hn hsz).mono fun _ _ k => ⟨k.1, Two.code hK b' c' e f' k.2.1 k.2.2⟩
theorem two_rappend (f : Int) (B : Nat) (A : Option Addr) (n c : Nat) (b : List UInt8) (hB : B ≤ w.heap.size) (hBK : ∀ i, i < B → K i) (hf : Fits d2) (hr : Bytes w B A n c b) (hn : n ≤ 140737488355328) (hsz : ∀ x, seek d2.files f = some x → x.b.length + n ≤ 140737488355328) :
    Calls Try.prog 32 #[.pointer (some ⟨h, 0, none⟩), .int .i64 f, .slice A n c] w (Did K w g h (append d2 f b).1 d1 (append d2 f b).2) := by
  obtain ⟨FD, FX, a, b', c', e, f'⟩ := t
  exact (refappend_any FX h d2 f B A n c b w b' hf hr hB (Row.apart hr e hBK) hn hsz).mono fun _ _ k => ⟨k.1, Two.ref hK a c' e f' k.2.1 k.2.2⟩
theorem two_sync (f : Int) (hf : Fits d1) : Calls Try.prog 16 #[.pointer (some ⟨g, 0, none⟩), .int .i64 f] w (Did K w g h (sync d1 f).1 (sync d1 f).2 d2) := by
  obtain ⟨FD, FX, a, b', c', e, f'⟩ := t
  exact (sync_any FD g d1 f w a hf).mono fun _ _ k => ⟨k.1, Two.code hK b' c' e f' k.2.1 k.2.2⟩
theorem two_rsync (f : Int) (hf : Fits d2) : Calls Try.prog 33 #[.pointer (some ⟨h, 0, none⟩), .int .i64 f] w (Did K w g h (sync d2 f).1 d1 (sync d2 f).2) := by
  obtain ⟨FD, FX, a, b', c', e, f'⟩ := t
  exact (refsync_any FX h d2 f w b' hf).mono fun _ _ k => ⟨k.1, Two.ref hK a c' e f' k.2.1 k.2.2⟩
theorem two_cut (f n : Int) (hf : Fits d1) : Calls Try.prog 29 #[.pointer (some ⟨g, 0, none⟩), .int .i64 f, .int .i64 n] w (Did K w g h (cut d1 f n).1 (cut d1 f n).2 d2) := by
  obtain ⟨FD, FX, a, b', c', e, f'⟩ := t
  exact (cut_any FD g d1 f n w a hf).mono fun _ _ k => ⟨k.1, Two.code hK b' c' e f' k.2.1 k.2.2⟩
theorem two_rcut (f n : Int) (hf : Fits d2) (hsz : ∀ x, seek d2.files f = some x → x.b.length ≤ 140737488355328) : Calls Try.prog 35 #[.pointer (some ⟨h, 0, none⟩), .int .i64 f, .int .i64 n] w (Did K w g h (cut d2 f n).1 d1 (cut d2 f n).2) := by
  obtain ⟨FD, FX, a, b', c', e, f'⟩ := t
  exact (refcut_any FX h d2 f n w b' hf hsz).mono fun _ _ k => ⟨k.1, Two.ref hK a c' e f' k.2.1 k.2.2⟩
theorem two_remove (f : Int) (hf : Fits d1) : Calls Try.prog 30 #[.pointer (some ⟨g, 0, none⟩), .int .i64 f] w (Did K w g h (remove d1 f).1 (remove d1 f).2 d2) := by
  obtain ⟨FD, FX, a, b', c', e, f'⟩ := t
  exact (remove_any FD g d1 f w a hf).mono fun _ _ k => ⟨k.1, Two.code hK b' c' e f' k.2.1 k.2.2⟩
theorem two_rremove (f : Int) (hf : Fits d2) : Calls Try.prog 36 #[.pointer (some ⟨h, 0, none⟩), .int .i64 f] w (Did K w g h (remove d2 f).1 d1 (remove d2 f).2) := by
  obtain ⟨FD, FX, a, b', c', e, f'⟩ := t
  exact (refremove_any FX h d2 f w b' hf).mono fun _ _ k => ⟨k.1, Two.ref hK a c' e f' k.2.1 k.2.2⟩
theorem two_arm (n : Int) : Calls Try.prog 20 #[.pointer (some ⟨g, 0, none⟩), .int .i64 n] w (Went K w g h (arm d1 n) d2) := by
  obtain ⟨FD, FX, a, b', c', e, f'⟩ := t
  exact (arm_any FD g d1 n w a).mono fun _ _ k => ⟨k.1, Two.code hK b' c' e f' k.2.1 k.2.2⟩
theorem two_rarm (n : Int) : Calls Try.prog 37 #[.pointer (some ⟨h, 0, none⟩), .int .i64 n] w (Went K w g h d1 (arm d2 n)) := by
  obtain ⟨FD, FX, a, b', c', e, f'⟩ := t
  exact (refarm_any FX h d2 n w b').mono fun _ _ k => ⟨k.1, Two.ref hK a c' e f' k.2.1 k.2.2⟩
theorem two_crash (B : Nat) (A : Option Addr) (n c : Nat) (ks : List Int) (hB : B ≤ w.heap.size) (hBK : ∀ i, i < B → K i) (hr : Row w B 1 A n c (iv ks)) (hk : ∀ k, I64 (ks.getD k 0)) (hsz : ∀ x ∈ d1.files, x.b.length ≤ 140737488355328) :
    Calls Try.prog 17 #[.pointer (some ⟨g, 0, none⟩), .slice A n c] w (Went K w g h (crash d1 ks) d2) := by
  obtain ⟨FD, FX, a, b', c', e, f'⟩ := t
  exact (crash_any FD g d1 B A n c ks w a (fun i hi => (c' i hi).2) hr hB (Row.apart hr c' hBK) hk hsz).mono fun _ _ k => ⟨k.1, Two.code hK b' c' e f' k.2.1 k.2.2⟩
theorem two_rcrash (B : Nat) (A : Option Addr) (n c : Nat) (ks : List Int) (hB : B ≤ w.heap.size) (hBK : ∀ i, i < B → K i) (hr : Row w B 1 A n c (iv ks)) (hk : ∀ k, I64 (ks.getD k 0)) (hsz : ∀ x ∈ d2.files, x.b.length ≤ 140737488355328) :
    Calls Try.prog 38 #[.pointer (some ⟨h, 0, none⟩), .slice A n c] w (Went K w g h d1 (crash d2 ks)) := by
  obtain ⟨FD, FX, a, b', c', e, f'⟩ := t
  exact (refcrash_any FX h d2 B A n c ks w b' hr hB (Row.apart hr e hBK) hk hsz).mono fun _ _ k => ⟨k.1, Two.ref hK a c' e f' k.2.1 k.2.2⟩
omit hK in
theorem two_rlen (f : Int) : Calls Try.prog 34 #[.pointer (some ⟨h, 0, none⟩), .int .i64 f] w fun e w' => e = .returned (.int .i64 (size d2 f)) ∧ ∃ q, w.drewN q = w' := by
  obtain ⟨FD, FX, a, b', c', e, f'⟩ := t
  exact reflen_any FX h d2 f w b'
end

/-! ### how far a play of i ops goes -/
def Lim (i M : Nat) (d : Dk) : Prop := d.ops ≤ i ∧ d.left ≤ 8 ∧ ∀ x ∈ d.files, x.b.length ≤ i * M
section
variable {i M : Nat} {d : Dk}
theorem Lim.fits (l : Lim i M d) (hi : i ≤ 60) : Fits d := ⟨by have := l.1; omega, by have := l.2.1; omega⟩
theorem Lim.succ (l : Lim i M d) : Lim (i + 1) M d := ⟨by have := l.1; omega, l.2.1, fun x hx => by have := l.2.2 x hx; rw [Nat.succ_mul]; omega⟩
theorem Lim.tick (l : Lim i M d) {fs : List Fl} (hf : ∀ x ∈ fs, x.b.length ≤ (i + 1) * M) : Lim (i + 1) M { DiskMath.tick d with files := fs } :=
  ⟨by have := l.1; show d.ops + 1 ≤ _; omega, by have := l.2.1; show d.left - 1 ≤ 8; omega, hf⟩
theorem Lim.oper (l : Lim i M d) {fs : List Fl} (hf : ∀ x ∈ fs, x.b.length ≤ (i + 1) * M) : Lim (i + 1) M (DiskMath.oper d fs).2 := by
  unfold DiskMath.oper
  split
  · exact l.tick (fs := d.files) l.succ.2.2
  · exact l.tick hf
theorem put_len {l : List Fl} {f : Int} {g : Fl → Fl} {n m : Nat} (hl : ∀ x ∈ l, x.b.length ≤ n) (hg : ∀ x, x.b.length ≤ n → (g x).b.length ≤ m) (hnm : n ≤ m) : ∀ x ∈ put l f g, x.b.length ≤ m := fun x hx => by
  obtain ⟨y, hy, rfl⟩ := List.mem_map.1 hx
  have := hl y hy
  split
  · exact hg y this
  · omega
theorem ins_mem {f : Int} : ∀ {l : List Fl} {x : Fl}, x ∈ ins f l → x ∈ l ∨ x = ⟨f, [], 0⟩
  | [], x, h => by simpa [ins] using h
  | y :: r, x, h => by
    rw [ins] at h
    split at h
    · simp only [List.mem_cons] at h ⊢
      rcases h with h | h
      · exact .inl (.inl h)
      · exact (ins_mem h).imp .inr id
    · simp only [List.mem_cons] at h ⊢
      rcases h with h | h | h
      · exact .inr h
      · exact .inl (.inl h)
      · exact .inl (.inr h)
theorem Lim.append (l : Lim i M d) (f : Int) {b : List UInt8} (hb : b.length ≤ M) : Lim (i + 1) M (DiskMath.append d f b).2 := by
  unfold DiskMath.append
  split
  · refine l.tick (put_len (n := i * M) (fun x hx => ?_) (fun x hx => ?_) (by rw [Nat.succ_mul]; omega))
    · unfold begunL at hx
      split at hx
      · rcases ins_mem hx with h | rfl
        · exact l.2.2 x h
        · exact Nat.zero_le _
      · exact l.2.2 x hx
    · show (x.b ++ b).length ≤ _
      rw [List.length_append, Nat.succ_mul]
      omega
  · exact l.succ
theorem Lim.sync (l : Lim i M d) (f : Int) : Lim (i + 1) M (DiskMath.sync d f).2 := by
  unfold DiskMath.sync
  split
  · exact l.oper (put_len (n := i * M) l.2.2 (fun x hx => by show x.b.length ≤ _; rw [Nat.succ_mul]; omega) (by rw [Nat.succ_mul]; omega))
  · exact l.succ
theorem Lim.cut (l : Lim i M d) (f n : Int) : Lim (i + 1) M (DiskMath.cut d f n).2 := by
  unfold DiskMath.cut
  split
  · split
    · exact l.succ
    · exact l.oper (put_len (n := i * M) l.2.2 (fun x hx => by show (x.b.take n.toNat).length ≤ _; rw [List.length_take, Nat.succ_mul]; omega) (by rw [Nat.succ_mul]; omega))
  · exact l.succ
theorem Lim.remove (l : Lim i M d) (f : Int) : Lim (i + 1) M (DiskMath.remove d f).2 := by
  unfold DiskMath.remove
  split
  · exact l.oper fun x hx => l.succ.2.2 x (List.mem_filter.1 hx).1
  · exact l.succ
theorem Lim.arm (l : Lim i M d) {n : Int} (hn : n ≤ 8) : Lim (i + 1) M (DiskMath.arm d n) := ⟨l.succ.1, by show n.toNat ≤ 8; omega, l.succ.2.2⟩
theorem crashL_len {n : Nat} : ∀ {l : List Fl} {ks : List Int}, (∀ x ∈ l, x.b.length ≤ n) → ∀ x ∈ crashL l ks, x.b.length ≤ n
  | [], _, _, x, hx => by simp [crashL] at hx
  | y :: r, ks, hl, x, hx => by
    rw [crashL, List.mem_cons] at hx
    rcases hx with rfl | hx
    · have := hl y (by simp)
      show (y.b.take _).length ≤ n
      rw [List.length_take]
      omega
    · exact crashL_len (fun z hz => hl z (by simp [hz])) x hx
theorem Lim.crash (l : Lim i M d) (ks : List Int) : Lim (i + 1) M (DiskMath.crash d ks) := ⟨l.succ.1, by show 0 ≤ 8; omega, crashL_len l.succ.2.2⟩
theorem Lim.at_ (l : Lim i M d) (hM : 61 * M ≤ 140737488355328) (hi : i ≤ 60) {x : Fl} (hx : x ∈ d.files) : x.b.length + M ≤ 140737488355328 := by
  have h1 := l.2.2 x hx
  have h2 : i * M ≤ 60 * M := Nat.mul_le_mul_right M hi
  omega
end

/-- an op's file -/
def fileOf (f : Int) : Int := if modZ f 17 = 16 then f else modZ f 4
set_option maxHeartbeats 800000 in
theorem file_any (kd f n : Int) (vb vk : Value) (w : World) :
    Calls Try.prog 31 #[.agg #[.int .i64 kd, .int .i64 f, .int .i64 n, vb, vk]] w fun e w' => e = .returned (.int .i64 (fileOf f)) ∧ Below w.heap.size w w' := by
  go_enter Try.func31, Try.ntmps31
  go_wp2_with fail
  refine (mod_any f 17 _ (by omega) (by omega)).mono ?_
  rintro e w1 ⟨rfl, rfl⟩
  by_cases h : modZ f 17 = 16
  · have HE := Lib.hid (show fileOf f = f from if_pos h)
    rw [h]
    go_wp2
    go_ret
    rw [HE.out]
    exact ⟨rfl, (Below.refl _ _).alloc (Nat.le_refl _) _⟩
  · have HE := Lib.hid (show fileOf f = modZ f 4 from if_neg h)
    have hne : ((modZ f 17 : Int) == 16) = false := by simp; omega
    go_wp2_with fail
    refine (mod_any f 4 _ (by omega) (by omega)).mono ?_
    rintro e w1 ⟨rfl, rfl⟩
    go_wp2
    go_ret
    rw [HE.out]
    exact ⟨rfl, (Below.refl _ _).alloc (Nat.le_refl _) _⟩
end Go.Proofs.Ythjdankeopfkaaa.Play
