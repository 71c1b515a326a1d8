/-
  Contracts of package field's reader: what it takes off the front of what it has not read yet.
-/
import Derived.Test.YtlkjmdkmcaaihaaFieldFlds
namespace Go.Proofs.Ytlkjmdkmcaaihaa.Field
set_option maxRecDepth 100000
open Go.RowKit Base FieldMath

/-- the reader at block g has the bytes l before it; they lie below block B -/
def Reader (w : World) (B g : Nat) (l : List UInt8) : Prop := ∃ A n c, Blk w g 110 #[.slice A n c] ∧ Bytes w B A n c l ∧ B ≤ g
section
variable {w w' : World} {B g : Nat} {l : List UInt8}
theorem Reader.only {row : Option Nat} (h : Reader w B g l) (hg : w.grownBy w' row) (hr : ∀ k, row = some k → g < k) : Reader w' B g l := by
  obtain ⟨A, n, c, h1, h2, h3⟩ := h
  have hlt := h1.lt
  refine ⟨A, n, c, h1.grown hg (fun e => by have := hr _ e.symm; omega), h2.grown hg (by omega) (fun k hk => by have := hr k hk; omega), h3⟩
theorem Reader.alloc (h : Reader w B g l) (o : Obj) : Reader (w.alloc o) B g l := by
  obtain ⟨A, n, c, h1, h2, h3⟩ := h
  have hlt := h1.lt
  exact ⟨A, n, c, h1.alloc o, h2.alloc (by omega) o, h3⟩
theorem Reader.far (h : Reader w B g l) {p : Addr} (hp : g < p.block) (u : Value) : Reader (w.setCell p u) B g l := by
  obtain ⟨A, n, c, h1, h2, h3⟩ := h
  exact ⟨A, n, c, h1.far (by omega) u, h2.setCell (by omega) u, h3⟩
theorem Reader.lt (h : Reader w B g l) : g < w.heap.size := by
  obtain ⟨A, n, c, h1, _⟩ := h
  exact h1.lt
end

/-- what take answers -/
def Took (w : World) (B g : Nat) (l : List UInt8) (k : Nat) (e : Ending) (w' : World) : Prop :=
  (l.length < k ∧ e = .returned (.tuple #[.slice none 0 0, .int .i64 2]) ∧ w = w') ∨
  (k ≤ l.length ∧ ∃ A c, e = .returned (.tuple #[.slice A k c, .int .i64 0]) ∧ Bytes w' B A k c (l.take k) ∧ Reader w' B g (l.drop k) ∧ w.grownBy w' (some g) ∧ w'.heap.size = w.heap.size)

theorem took_ok {w : World} {B g n c k : Nat} {A A' : Option Addr} {n' c' : Nat} {l : List UInt8} {e : Ending} (hb : Blk w g 110 #[.slice A n c]) (hr : Bytes w B A n c l) (hB : B ≤ g) (hk : k ≤ n)
    (hA : A' = cutAt A c k) (hn' : n' = n - k) (hc' : c' = c - k) (he : e = .returned (.tuple #[.slice A k c, .int .i64 0])) : Took w B g l k e (w.setCell ⟨g, 0, none⟩ (.slice A' n' c')) := by
  subst hA hn' hc'
  refine .inr ⟨by rw [hr.len]; exact hk, A, c, he, (hr.front hk).setCell (by exact hB) _, ⟨cutAt A c k, n - k, c - k, hb.set_ 0 _, (hr.cut hk).setCell (by exact hB) _, hB⟩, only_setCell (World.grownBy.refl _ _) (.inl rfl) _, by simp⟩

set_option maxHeartbeats 400000 in
theorem take_any (B g : Nat) (l : List UInt8) (k : Nat) (w : World) (hr : Reader w B g l) (hk : k ≤ 1099511627776) :
    Calls Try.prog 88 #[.pointer (some ⟨g, 0, none⟩), .int .i64 k] w (Took w B g l k) := by
  obtain ⟨A, n, c, hb, hr, hB⟩ := hr
  have hln := hr.len
  have hle := hr.le
  have hcell : w.cell? ⟨g, 0, none⟩ = some (.slice A n c) := hb.cell 0
  have hfro := hb.frozen 0
  have HR := Lib.hid hr
  have HB := Lib.hid hb
  have HL := Lib.hid hln
  clear hr hb hln
  by_cases hlt : n < k
  · go_enter Try.func88, Try.ntmps88
    go_wp2
    go_ret2
    exact .inl ⟨by rw [HL.out]; exact hlt, rfl, rfl⟩
  · have hkn : k ≤ n := by omega
    by_cases hck : c = k
    · subst hck
      go_enter Try.func88, Try.ntmps88
      go_wp2
      go_ret2
      exact took_ok HB.out HR.out hB hkn (by rw [cutAt, if_pos rfl]) (by omega) (by omega) rfl
    · have hkc : k ≤ c := by omega
      go_enter Try.func88, Try.ntmps88
      go_wp2
      go_ret2
      exact took_ok HB.out HR.out hB hkn (by rw [cutAt, if_neg hck]) rfl rfl rfl

/-- what number answers: the number of the next k bytes -/
def Numbered (w : World) (B g : Nat) (l : List UInt8) (k : Nat) (e : Ending) (w' : World) : Prop :=
  (l.length < k ∧ e = .returned (.tuple #[.int .u64 0, .int .i64 2]) ∧ w = w') ∨
  (k ≤ l.length ∧ e = .returned (.tuple #[.int .u64 (num (l.take k)), .int .i64 0]) ∧ Reader w' B g (l.drop k) ∧ w.grownBy w' (some g) ∧ w'.heap.size = w.heap.size)

set_option maxHeartbeats 400000 in
theorem rnumber_any (B g : Nat) (l : List UInt8) (k : Nat) (w : World) (hr : Reader w B g l) (hk0 : 0 < k) (hk : k ≤ 8) :
    Calls Try.prog 81 #[.pointer (some ⟨g, 0, none⟩), .int .i64 k] w (Numbered w B g l k) := by
  have HR := Lib.hid hr
  clear hr
  go_enter Try.func81, Try.ntmps81
  go_wp2_with fail
  refine (take_any B g l k _ HR.out (by omega)).mono ?_
  rintro e w1 (⟨hlt, rfl, rfl⟩ | ⟨hle, A, c, rfl, hby, hrd, hon, hsz⟩)
  · go_wp2
    go_ret2
    exact .inl ⟨hlt, rfl, rfl⟩
  · have hlen := hby.len
    have HB := Lib.hid hby
    have HD := Lib.hid hrd
    have HO := Lib.hid hon
    have HS := Lib.hid hsz
    have HL := Lib.hid hlen
    clear hby hrd hon hsz hlen
    go_wp2
    go_loop [8, 22] (fun x i => ∃ (j y : Nat), j ≤ k ∧ i = .int .i64 j ∧ x = .int .u64 y ∧ y = num ((l.take k).take j)) (fun _ i => k - (intOf i).toNat)
    case atStart => exact ⟨0, 0, by omega, rfl, rfl, rfl⟩
    case round =>
      obtain ⟨j, y, hj, rfl, rfl, hy⟩ := hrel
      by_cases hlt : j < k
      · have hyb := take_num_lt HL.out hlt hk
        rw [← hy] at hyb
        obtain ⟨b, off, z, rfl, _, hcell, _, ht⟩ := HB.out.at_ hlt
        have HY := Lib.hid hy
        have HT := Lib.hid ht
        have hz : z.toNat < 256 := z.toNat_lt
        clear hy ht
        go_wp2
        go_round
        case rel => exact ⟨j + 1, y * 256 + z.toNat, by omega, by go_num, by rw [← or_byte hyb z], by rw [HT.out, num_snoc, HY.out]⟩
        case measure => simp [intOf]; omega
      · have this : (l.take k).take j = l.take k := List.take_of_length_le (by rw [HL.out]; omega)
        rw [this] at hy
        have HY := Lib.hid hy
        clear hy this
        go_wp2
        go_ret2
        exact .inr ⟨hle, by rw [← HY.out]; rfl, HD.out, HO.out, HS.out⟩

/-- what count answers -/
def Counted (w : World) (B g : Nat) (l : List UInt8) (most : Nat) (e : Ending) (w' : World) : Prop :=
  (l.length < 2 ∧ e = .returned (.tuple #[.int .i64 0, .int .i64 2]) ∧ w = w') ∨
  (2 ≤ l.length ∧ most < num (l.take 2) ∧ e = .returned (.tuple #[.int .i64 0, .int .i64 3]) ∧ w.grownBy w' (some g)) ∨
  (2 ≤ l.length ∧ num (l.take 2) ≤ most ∧ e = .returned (.tuple #[.int .i64 (num (l.take 2)), .int .i64 0]) ∧ Reader w' B g (l.drop 2) ∧ w.grownBy w' (some g) ∧ w'.heap.size = w.heap.size)

set_option maxHeartbeats 400000 in
theorem count_any (B g : Nat) (l : List UInt8) (most : Nat) (w : World) (hr : Reader w B g l) (hm : most ≤ 1099511627776) :
    Calls Try.prog 75 #[.pointer (some ⟨g, 0, none⟩), .int .i64 most] w (Counted w B g l most) := by
  have HR := Lib.hid hr
  clear hr
  go_enter Try.func75, Try.ntmps75
  go_wp2_with fail
  refine (rnumber_any B g l 2 _ HR.out (by omega) (by omega)).mono ?_
  rintro e w1 (⟨hlt, rfl, rfl⟩ | ⟨hle, rfl, hrd, hon, hsz⟩)
  · go_wp2
    go_ret2
    exact .inl ⟨hlt, rfl, rfl⟩
  · have HD := Lib.hid hrd
    have HO := Lib.hid hon
    have HS := Lib.hid hsz
    have hx := num2_lt hle
    clear hrd hon hsz
    generalize hy : num (l.take 2) = y at hx
    have HY := Lib.hid hy
    clear hy
    by_cases hgt : most < y
    · go_wp2
      go_ret2
      exact .inr (.inl ⟨hle, by rw [HY.out]; exact hgt, rfl, HO.out⟩)
    · go_wp2
      go_ret2
      exact .inr (.inr ⟨hle, by rw [HY.out]; omega, by rw [HY.out]; rfl, HD.out, HO.out, HS.out⟩)

/-- what a field's reading answers -/
def Read1 (w : World) (B g : Nat) (res : Except Nat (Fld × List UInt8)) (e : Ending) (w' : World) : Prop :=
  (∃ k, res = .error k ∧ e = .returned (.tuple #[.agg #[.int .i64 0, .int .i64 0, .string ⟨#[]⟩], .int .i64 k]) ∧ w.grownBy w' (some g)) ∨
  (∃ f r, res = .ok (f, r) ∧ e = .returned (.tuple #[.agg #[.int .i64 f.kind, .int .i64 f.n, .string f.s], .int .i64 0]) ∧ Reader w' B g r ∧ w.grownBy w' (some g))
/-- a field's box, laid by the call: its cells, kept by what turns the reader alone -/
theorem box_of {w w1 : World} {g s : Nat} {t : TypeId} {x y z : Value} (h : (w.alloc (.cells #[x, y, z] t)).grownBy w1 (some g)) (hg : g < w.heap.size) (hs : s = w.heap.size) :
    w1.cell? ⟨s, 0, none⟩ = some x ∧ w1.cell? ⟨s, 1, none⟩ = some y ∧ w1.cell? ⟨s, 2, none⟩ = some z ∧ w1.frozen? ⟨s, 0, none⟩ = false ∧ w1.frozen? ⟨s, 1, none⟩ = false ∧ w1.frozen? ⟨s, 2, none⟩ = false := by
  subst hs
  have hb : Blk w1 w.heap.size t #[x, y, z] := (Blk.new w t #[x, y, z]).grown h (fun e => by injection e; omega)
  exact ⟨hb.cell 0, hb.cell 1, hb.cell 2, hb.frozen 0, hb.frozen 1, hb.frozen 2⟩

theorem wrap_i64 {y : Nat} (hy : y < 18446744073709551616) : wrap64 (y : Int) = i64 y := by
  unfold wrap64 i64
  split <;> omega
set_option maxHeartbeats 400000 in
theorem integer_any (B g : Nat) (l : List UInt8) (w : World) (hr : Reader w B g l) :
    Calls Try.prog 82 #[.pointer (some ⟨g, 0, none⟩)] w (Read1 w B g (takeF (1 :: l))) := by
  have HR := Lib.hid hr
  clear hr
  go_enter Try.func82, Try.ntmps82
  go_wp2_with fail
  refine (rnumber_any B g l 8 _ (HR.out.alloc _) (by omega) (by omega)).mono ?_
  rintro e w1 (⟨hlt, rfl, rfl⟩ | ⟨hle, rfl, hrd, hon, hsz⟩)
  · go_wp2
    refine bodyPost_ret (v := .tuple #[.agg #[.int .i64 0, .int .i64 0, .string ⟨#[]⟩], .int .i64 2]) (by simp [results, Try.results82, go_sem]) rfl (.inl ⟨2, takeF_int_short hlt, rfl, ?_⟩)
    exact only_alloc (World.grownBy.refl _ _) _
  · obtain ⟨c0, c1, c2, f0, f1, f2⟩ := box_of hon HR.out.lt rfl
    have HD := Lib.hid hrd
    have HO := Lib.hid hon
    have HS := Lib.hid hsz
    have hx := num8_lt hle
    clear hrd hon hsz
    generalize hy : num (l.take 8) = y at hx
    have HY := Lib.hid hy
    clear hy
    go_wp2
    refine bodyPost_ret (v := .tuple #[.agg #[.int .i64 1, .int .i64 (i64 y), .string ⟨#[]⟩], .int .i64 0]) ?_ rfl (.inr ⟨_, _, takeF_int hle, by rw [HY.out], ?_, ?_⟩)
    · rw [← wrap_i64 hx]
      simp [results, Try.results82, go_sem, c0, c1, c2]
    · exact ((HD.out.far (by exact HR.out.lt) _).far (by exact HR.out.lt) _).far (by exact HR.out.lt) _
    · exact only_setCell (only_setCell (only_setCell (only_trans (only_alloc (World.grownBy.refl w (some g)) _) HO.out (.inl rfl)) (.inr (Nat.le_refl _)) _) (.inr (Nat.le_refl _)) _) (.inr (Nat.le_refl _)) _

set_option maxHeartbeats 400000 in
theorem rtext_any (B g : Nat) (l : List UInt8) (w : World) (hr : Reader w B g l) :
    Calls Try.prog 83 #[.pointer (some ⟨g, 0, none⟩)] w (Read1 w B g (takeF (2 :: l))) := by
  have HR := Lib.hid hr
  clear hr
  go_enter Try.func83, Try.ntmps83
  go_wp2_with fail
  refine (count_any B g l 4096 _ (HR.out.alloc _) (by omega)).mono ?_
  rintro e w1 (⟨hlt, rfl, rfl⟩ | ⟨hle, hbig, rfl, hon⟩ | ⟨hle, hsm, rfl, hrd, hon, hsz⟩)
  · go_wp2
    refine bodyPost_ret (v := .tuple #[.agg #[.int .i64 0, .int .i64 0, .string ⟨#[]⟩], .int .i64 2]) (by simp [results, Try.results83, go_sem]) rfl (.inl ⟨2, takeF_text_short hlt, rfl, ?_⟩)
    exact only_alloc (World.grownBy.refl _ _) _
  · obtain ⟨c0, c1, c2, f0, f1, f2⟩ := box_of hon HR.out.lt rfl
    have HO := Lib.hid hon
    have HG := Lib.hid hbig
    clear hon hbig
    go_wp2
    refine bodyPost_ret (v := .tuple #[.agg #[.int .i64 0, .int .i64 0, .string ⟨#[]⟩], .int .i64 3]) (by simp [results, Try.results83, go_sem, c0, c1, c2]) rfl (.inl ⟨3, takeF_text_long hle HG.out, rfl, ?_⟩)
    exact only_setCell (only_setCell (only_setCell (only_trans (only_alloc (World.grownBy.refl w (some g)) _) HO.out (.inl rfl)) (.inr (Nat.le_refl _)) _) (.inr (Nat.le_refl _)) _) (.inr (Nat.le_refl _)) _
  · have HD := Lib.hid hrd
    have HO := Lib.hid hon
    have HS := Lib.hid hsz
    clear hrd hon hsz
    generalize hy : num (l.take 2) = y at hsm
    have HY := Lib.hid hy
    clear hy
    go_wp2_with fail
    refine (take_any B g (l.drop 2) y _ HD.out (by omega)).mono ?_
    rintro e w2 (⟨hlt, rfl, rfl⟩ | ⟨hle2, A, c, rfl, hby, hrd2, hon2, hsz2⟩)
    · obtain ⟨c0, c1, c2, f0, f1, f2⟩ := box_of HO.out HR.out.lt rfl
      go_wp2
      refine bodyPost_ret (v := .tuple #[.agg #[.int .i64 0, .int .i64 0, .string ⟨#[]⟩], .int .i64 2]) (by simp [results, Try.results83, go_sem, c0, c1, c2]) rfl (.inl ⟨2, takeF_text_lacks hle (by rw [HY.out]; exact hsm) (by rw [HY.out]; exact hlt), rfl, ?_⟩)
      exact only_setCell (only_setCell (only_setCell (only_trans (only_alloc (World.grownBy.refl w (some g)) _) HO.out (.inl rfl)) (.inr (Nat.le_refl _)) _) (.inr (Nat.le_refl _)) _) (.inr (Nat.le_refl _)) _
    · have hon3 := only_trans HO.out hon2 (.inl rfl)
      obtain ⟨c0, c1, c2, f0, f1, f2⟩ := box_of hon3 HR.out.lt rfl
      have HO3 := Lib.hid hon3
      have HD2 := Lib.hid hrd2
      have hcv := hby.str (P := Try.prog) Try.underlying35 Try.underlying5 Try.underlying9
      have HB := Lib.hid hby
      clear hon3 hon2 hsz2 hrd2 hby
      go_wp2
      refine bodyPost_ret (v := .tuple #[.agg #[.int .i64 2, .int .i64 0, .string (str ((l.drop 2).take y))], .int .i64 0]) (by simp [results, Try.results83, go_sem, c0, c1, c2]) rfl
        (.inr ⟨_, _, takeF_text hle (by rw [HY.out]; exact hsm) (by rw [HY.out]; exact hle2), by rw [HY.out]; rfl, ?_, ?_⟩)
      · rw [HY.out]
        exact ((HD2.out.far (by exact HR.out.lt) _).far (by exact HR.out.lt) _).far (by exact HR.out.lt) _
      · exact only_setCell (only_setCell (only_setCell (only_trans (only_alloc (World.grownBy.refl w (some g)) _) HO3.out (.inl rfl)) (.inr (Nat.le_refl _)) _) (.inr (Nat.le_refl _)) _) (.inr (Nat.le_refl _)) _

theorem num_one (k : UInt8) : num [k] = k.toNat := by rw [num_cons]; simp [num]

set_option maxHeartbeats 400000 in
theorem rfield_any (B g : Nat) (l : List UInt8) (w : World) (hr : Reader w B g l) :
    Calls Try.prog 76 #[.pointer (some ⟨g, 0, none⟩)] w (Read1 w B g (takeF l)) := by
  have HR := Lib.hid hr
  clear hr
  go_enter Try.func76, Try.ntmps76
  go_wp2_with fail
  refine (rnumber_any B g l 1 _ (HR.out.alloc _) (by omega) (by omega)).mono ?_
  rintro e w1 (⟨hlt, rfl, rfl⟩ | ⟨hle, rfl, hrd, hon, hsz⟩)
  · have hnil : l = [] := List.eq_nil_of_length_eq_zero (by omega)
    subst hnil
    clear hlt
    go_wp2
    refine bodyPost_ret (v := .tuple #[.agg #[.int .i64 0, .int .i64 0, .string ⟨#[]⟩], .int .i64 2]) (by simp [results, Try.results76, go_sem]) rfl (.inl ⟨2, takeF_nil, rfl, ?_⟩)
    exact only_alloc (World.grownBy.refl _ _) _
  · obtain ⟨k, r, rfl⟩ : ∃ k r, l = k :: r := by
      cases l with
      | nil => simp at hle
      | cons k r => exact ⟨k, r, rfl⟩
    rw [List.take_succ_cons, List.take_zero, num_one]
    rw [List.drop_succ_cons, List.drop_zero] at hrd
    obtain ⟨c0, c1, c2, f0, f1, f2⟩ := box_of hon HR.out.lt rfl
    have HD := Lib.hid hrd
    have HO := Lib.hid hon
    clear hrd hon hsz hle
    by_cases h1 : k = 1
    · subst h1
      go_wp2_with fail
      refine (integer_any B g r _ HD.out).mono ?_
      rintro e w2 (⟨q, hq, rfl, hon2⟩ | ⟨f, r', hq, rfl, hrd2, hon2⟩)
      · have hon3 := only_trans HO.out hon2 (.inl rfl)
        obtain ⟨d0, d1, d2, g0, g1, g2⟩ := box_of hon3 HR.out.lt rfl
        have HO3 := Lib.hid hon3
        have HQ := Lib.hid hq
        clear hon3 hon2 hq c0 c1 c2 f0 f1 f2
        go_wp2
        refine bodyPost_ret (v := .tuple #[.agg #[.int .i64 0, .int .i64 0, .string ⟨#[]⟩], .int .i64 q]) (by simp [results, Try.results76, go_sem, d0, d1, d2]) rfl (.inl ⟨q, HQ.out, rfl, ?_⟩)
        exact only_setCell (only_setCell (only_setCell (only_trans (only_alloc (World.grownBy.refl w (some g)) _) HO3.out (.inl rfl)) (.inr (Nat.le_refl _)) _) (.inr (Nat.le_refl _)) _) (.inr (Nat.le_refl _)) _
      · have hon3 := only_trans HO.out hon2 (.inl rfl)
        obtain ⟨d0, d1, d2, g0, g1, g2⟩ := box_of hon3 HR.out.lt rfl
        have HO3 := Lib.hid hon3
        have HQ := Lib.hid hq
        have HD2 := Lib.hid hrd2
        clear hon3 hon2 hq hrd2 c0 c1 c2 f0 f1 f2
        go_wp2
        refine bodyPost_ret (v := .tuple #[.agg #[.int .i64 f.kind, .int .i64 f.n, .string f.s], .int .i64 0]) (by simp [results, Try.results76, go_sem, d0, d1, d2]) rfl (.inr ⟨f, r', HQ.out, rfl, ?_, ?_⟩)
        · exact ((HD2.out.far (by exact HR.out.lt) _).far (by exact HR.out.lt) _).far (by exact HR.out.lt) _
        · exact only_setCell (only_setCell (only_setCell (only_trans (only_alloc (World.grownBy.refl w (some g)) _) HO3.out (.inl rfl)) (.inr (Nat.le_refl _)) _) (.inr (Nat.le_refl _)) _) (.inr (Nat.le_refl _)) _
    · have h1' : ((k.toNat : Int) == 1) = false := by
        simp only [beq_eq_false_iff_ne, ne_eq]
        intro h
        exact h1 (UInt8.toNat_inj.1 (by simpa using (by omega : k.toNat = 1)))
      by_cases h2 : k = 2
      · subst h2
        go_wp2_with fail
        refine (rtext_any B g r _ HD.out).mono ?_
        rintro e w2 (⟨q, hq, rfl, hon2⟩ | ⟨f, r', hq, rfl, hrd2, hon2⟩)
        · have hon3 := only_trans HO.out hon2 (.inl rfl)
          obtain ⟨d0, d1, d2, g0, g1, g2⟩ := box_of hon3 HR.out.lt rfl
          have HO3 := Lib.hid hon3
          have HQ := Lib.hid hq
          clear hon3 hon2 hq c0 c1 c2 f0 f1 f2
          go_wp2
          refine bodyPost_ret (v := .tuple #[.agg #[.int .i64 0, .int .i64 0, .string ⟨#[]⟩], .int .i64 q]) (by simp [results, Try.results76, go_sem, d0, d1, d2]) rfl (.inl ⟨q, HQ.out, rfl, ?_⟩)
          exact only_setCell (only_setCell (only_setCell (only_trans (only_alloc (World.grownBy.refl w (some g)) _) HO3.out (.inl rfl)) (.inr (Nat.le_refl _)) _) (.inr (Nat.le_refl _)) _) (.inr (Nat.le_refl _)) _
        · have hon3 := only_trans HO.out hon2 (.inl rfl)
          obtain ⟨d0, d1, d2, g0, g1, g2⟩ := box_of hon3 HR.out.lt rfl
          have HO3 := Lib.hid hon3
          have HQ := Lib.hid hq
          have HD2 := Lib.hid hrd2
          clear hon3 hon2 hq hrd2 c0 c1 c2 f0 f1 f2
          go_wp2
          refine bodyPost_ret (v := .tuple #[.agg #[.int .i64 f.kind, .int .i64 f.n, .string f.s], .int .i64 0]) (by simp [results, Try.results76, go_sem, d0, d1, d2]) rfl (.inr ⟨f, r', HQ.out, rfl, ?_, ?_⟩)
          · exact ((HD2.out.far (by exact HR.out.lt) _).far (by exact HR.out.lt) _).far (by exact HR.out.lt) _
          · exact only_setCell (only_setCell (only_setCell (only_trans (only_alloc (World.grownBy.refl w (some g)) _) HO3.out (.inl rfl)) (.inr (Nat.le_refl _)) _) (.inr (Nat.le_refl _)) _) (.inr (Nat.le_refl _)) _
      · have h2' : ((k.toNat : Int) == 2) = false := by
          simp only [beq_eq_false_iff_ne, ne_eq]
          intro h
          exact h2 (UInt8.toNat_inj.1 (by simpa using (by omega : k.toNat = 2)))
        go_wp2
        refine bodyPost_ret (v := .tuple #[.agg #[.int .i64 0, .int .i64 0, .string ⟨#[]⟩], .int .i64 3]) (by simp [results, Try.results76, go_sem, c0, c1, c2]) rfl (.inl ⟨3, takeF_other h1 h2, rfl, ?_⟩)
        exact only_setCell (only_setCell (only_setCell (only_trans (only_alloc (World.grownBy.refl w (some g)) _) HO.out (.inl rfl)) (.inr (Nat.le_refl _)) _) (.inr (Nat.le_refl _)) _) (.inr (Nat.le_refl _)) _
end Go.Proofs.Ytlkjmdkmcaaihaa.Field
