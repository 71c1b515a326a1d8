/-
  The walk of the law on limits: so many fields there may be, and so long a text, and no more.
-/
import Derived.Test.YtdinkampbkckpaaFieldLaws2
import Derived.OpenShut
namespace Go.Proofs.Ytdinkampbkckpaa.Field
open Go.RowKit Base FieldMath

def zeroF : Fld := ⟨0, 0, ⟨#[]⟩⟩
def oneF : Fld := ⟨1, 0, ⟨#[]⟩⟩
theorem made_fields (k : Nat) : (madeCells #[.int .i64 0, .int .i64 0, .string ⟨#[]⟩] (k * 3)).toList = fv (List.replicate k zeroF) := by
  apply List.ext_getElem?
  intro j
  by_cases hj : j < k * 3
  · have h1 : (List.replicate k zeroF)[j / 3]? = some zeroF := by rw [List.getElem?_replicate, if_pos (by omega)]
    have h2 := fv_get _ _ _ h1 (j % 3) (by omega)
    rw [show j / 3 * 3 + j % 3 = j by omega] at h2
    rw [h2]
    have h3 : j % 3 < 3 := by omega
    simp [madeCells, hj]
    generalize j % 3 = q at h3
    match q, h3 with
    | 0, _ => rfl
    | 1, _ => rfl
    | 2, _ => rfl
  · rw [List.getElem?_eq_none (by rw [Array.length_toList, size_madeCells]; omega), List.getElem?_eq_none (by rw [fv_length, List.length_replicate]; omega)]
theorem fv_set (l : List Fld) (j : Nat) (f : Fld) (h : j < l.length) : (((fv l).set (j * 3) (.int .i64 f.kind)).set (j * 3 + 1) (.int .i64 f.n)).set (j * 3 + 2) (.string f.s) = fv (l.set j f) := by
  induction l generalizing j with
  | nil => simp at h
  | cons g l ih =>
    cases j with
    | zero => rfl
    | succ j =>
      rw [List.length_cons] at h
      rw [List.set_cons_succ]
      show (((fcells g ++ fv l).set _ _).set _ _).set _ _ = fcells g ++ fv (l.set j f)
      rw [← ih j (by omega), List.set_append_right _ _ (by show 3 ≤ (j + 1) * 3; omega), List.set_append_right _ _ (by show 3 ≤ (j + 1) * 3 + 1; omega), List.set_append_right _ _ (by show 3 ≤ (j + 1) * 3 + 2; omega)]
      congr 1
      rw [show (j + 1) * 3 - (fcells g).length = j * 3 by show (j + 1) * 3 - 3 = _; omega, show (j + 1) * 3 + 1 - (fcells g).length = j * 3 + 1 by show (j + 1) * 3 + 1 - 3 = _; omega, show (j + 1) * 3 + 2 - (fcells g).length = j * 3 + 2 by show (j + 1) * 3 + 2 - 3 = _; omega]
def mixL (j k : Nat) : List Fld := List.replicate j oneF ++ List.replicate (k - j) zeroF
theorem mix_length {j k : Nat} (h : j ≤ k) : (mixL j k).length = k := by rw [mixL, List.length_append, List.length_replicate, List.length_replicate]; omega
theorem mix_get {j k : Nat} (h : j < k) : (mixL j k)[j]? = some zeroF := by
  rw [mixL, List.getElem?_append_right (by rw [List.length_replicate]; omega), List.length_replicate, Nat.sub_self, List.getElem?_replicate, if_pos (by omega)]
theorem mix_set {j k : Nat} (h : j < k) : (mixL j k).set j oneF = mixL (j + 1) k := by
  rw [mixL, List.set_append_right _ _ (by rw [List.length_replicate]; omega), List.length_replicate, Nat.sub_self, mixL]
  obtain ⟨q, hq⟩ : ∃ q, k - j = q + 1 := ⟨k - j - 1, by omega⟩
  rw [hq, List.replicate_succ, List.set_cons_zero, List.replicate_succ', List.append_assoc, show k - (j + 1) = q by omega]
  rfl
theorem mix_all (k : Nat) : mixL k k = List.replicate k oneF := by rw [mixL, Nat.sub_self]; simp
theorem ones_right (k : Nat) : ∀ f ∈ List.replicate k oneF, f.right = true ∧ f.ok := by
  intro f hf
  rw [(List.mem_replicate.1 hf).2]
  exact ⟨rfl, by show (-9223372036854775808 : Int) ≤ 1; omega, by show (1 : Int) ≤ _; omega, by show (-9223372036854775808 : Int) ≤ 0; omega, by show (0 : Int) ≤ _; omega, by show (0 : Nat) ≤ _; omega⟩
theorem ones_length (k : Nat) : (encZ (List.replicate k oneF)).length = 2 + 9 * k := by
  rw [encZ, List.length_append, big_length]
  congr 1
  induction k with
  | zero => rfl
  | succ k ih =>
    rw [List.replicate_succ, List.flatMap_cons, List.length_append, ih, show (encF oneF).length = 9 from rfl]
    omega
theorem enc_ones {k : Nat} (h : k ≤ 32767) : enc (List.replicate k oneF) = .ok (encZ (List.replicate k oneF)) := enc_right (by rw [List.length_replicate]; exact h) (ones_right k)
/-- one text, of m bytes -/
theorem enc_text {s : ByteArray} (h : s.size ≤ 4096) : ∃ l, enc [⟨2, 0, s⟩] = .ok l ∧ l.length = 5 + s.size := by
  refine ⟨_, enc_ok (by simp) (by simp [Fld.right, h]), ?_⟩
  rw [encZ, List.length_append, big_length, List.flatMap_cons, List.flatMap_nil, List.append_nil, encF, if_neg (by show ¬ (2 : Int) = 1; decide), List.length_cons, List.length_append, big_length, size_list]
  show 2 + (2 + s.size + 1) = _
  omega
theorem enc_text_long {s : ByteArray} (h : 4096 < s.size) : enc [⟨2, 0, s⟩] = .error 1 :=
  enc_wrong (k := 0) rfl (by
    simp [Fld.right]
    omega)
theorem num_two (x y : UInt8) : num [x, y] = x.toNat * 256 + y.toNat := by
  rw [num_cons, num_cons]
  simp [num]
theorem dec_five {x y : UInt8} {m : Nat} (h : x.toNat * 256 + y.toNat = m) (hm : 0 < m) : dec [0, 1, 2, x, y] = .error (if 4096 < m then 3 else 2) := by
  have h1 : takeF [2, x, y] = .error (if 4096 < m then 3 else 2) := by
    have hn : num (([x, y] : List UInt8).take 2) = m := by rw [show ([x, y] : List UInt8).take 2 = [x, y] from rfl, num_two, h]
    by_cases hb : 4096 < m
    · rw [if_pos hb]; exact takeF_text_long (by simp) (by rw [hn]; exact hb)
    · rw [if_neg hb]; exact takeF_text_lacks (by simp) (by rw [hn]; omega) (by rw [hn]; simp; omega)
  exact dec_err (by simp) (by show num [0, 1] ≤ 32767; decide) (by
    show takeN 1 [2, x, y] = _
    rw [takeN, h1])
theorem dec_two {x y : UInt8} {k : Nat} (h : x.toNat * 256 + y.toNat = k) (hk : 0 < k) : dec [x, y] = .error (if 32767 < k then 3 else 2) := by
  have hn : num (([x, y] : List UInt8).take 2) = k := by rw [show ([x, y] : List UInt8).take 2 = [x, y] from rfl, num_two, h]
  by_cases hb : 32767 < k
  · rw [if_pos hb]; exact dec_many (by simp) (by rw [hn]; exact hb)
  · rw [if_neg hb]
    refine dec_err (by simp) (by rw [hn]; omega) ?_
    rw [hn]
    obtain ⟨q, rfl⟩ : ∃ q, k = q + 1 := ⟨k - 1, by omega⟩
    rfl
theorem five_bytes (w : World) (e : TypeId) {s : Nat} (hs : s = w.heap.size) (x y : UInt8) {a b : Int} (ha : a = x.toNat) (hb : b = y.toNat) :
    Bytes (w.alloc (.cells #[.int .u8 0, .int .u8 1, .int .u8 2, .int .u8 a, .int .u8 b] e)) (w.heap.size + 1) (some ⟨s, 0, none⟩) 5 5 [0, 1, 2, x, y] := by
  subst ha hb
  exact Row.lit w #[.int .u8 0, .int .u8 1, .int .u8 2, .int .u8 x.toNat, .int .u8 y.toNat] e (0, 0) hs rfl (by omega)
theorem two_bytes (w : World) (e : TypeId) {s : Nat} (hs : s = w.heap.size) (x y : UInt8) {a b : Int} (ha : a = x.toNat) (hb : b = y.toNat) :
    Bytes (w.alloc (.cells #[.int .u8 a, .int .u8 b] e)) (w.heap.size + 1) (some ⟨s, 0, none⟩) 2 2 [x, y] := by
  subst ha hb
  exact Row.lit w #[.int .u8 x.toNat, .int .u8 y.toNat] e (0, 0) hs rfl (by omega)
theorem made_bytes (m : Nat) : (madeCells #[.int .u8 0] m).toList = bv (List.replicate m 0) := by rw [toList_madeCells_one, bv, List.map_replicate]; rfl

/-- what Encode answers of so many fields, of so long a text: how many bytes, and why not -/
def Lim (w : World) (yes : Prop) (len : Nat) (e : Ending) (w' : World) : Prop :=
  ∃ A c nb ec, e = .returned (.tuple #[.slice A nb c, .int .i64 ec]) ∧ (yes → nb = len ∧ ec = 0) ∧ (¬ yes → nb = 0 ∧ ec = 1) ∧ nb ≤ 1000000 ∧ Below w.heap.size w w'
theorem encode_lim (B : Nat) (A : Option Addr) (n c : Nat) (fs : List Fld) (w : World) (yes : Prop) (len : Nat) (hr : Flds w B A n c fs) (hB : B ≤ w.heap.size) (h1 : yes → ∃ l, enc fs = .ok l ∧ l.length = len) (h2 : ¬ yes → enc fs = .error 1) (hl : len ≤ 1000000) :
    Calls Try.prog 10 #[.slice A n c] w (Lim w yes len) := by
  refine (encode_any B A n c fs w hr hB).mono ?_
  rintro e w' ⟨A', n', c', he, ho, hb⟩
  have hn : (got (enc fs)).length = n' := by have := ho.1; rw [bv_length, Nat.mul_one] at this; exact this
  by_cases hy : yes
  · obtain ⟨l, h3, h4⟩ := h1 hy
    rw [h3] at he hn
    exact ⟨A', c', n', 0, he, fun _ => ⟨by rw [← hn]; exact h4, rfl⟩, fun h => absurd hy h, by rw [← hn]; show l.length ≤ _; omega, hb⟩
  · have h3 := h2 hy
    rw [h3] at he hn
    exact ⟨A', c', n', 1, he, fun h => absurd h hy, fun _ => ⟨by rw [← hn]; rfl, rfl⟩, by rw [← hn]; show 0 ≤ _; omega, hb⟩

def LimRel (w : World) (g k : Nat) (i : Value) (wr : World) : Prop :=
  ∃ j : Nat, j ≤ k ∧ i = .int .i64 j ∧ wr.ownsRow w.heap.size 26 3 (.slice (some ⟨g, 0, none⟩) k k) k (fv (mixL j k)) ∧ Below w.heap.size w wr

theorem hi_byte {m : Nat} (h : m < 65536) : (m : Int) / 256 = (((UInt8.ofNat (m / 256)).toNat : Nat) : Int) ∧ (m : Int) % 256 = (((UInt8.ofNat m).toNat : Nat) : Int) ∧ (UInt8.ofNat (m / 256)).toNat * 256 + (UInt8.ofNat m).toNat = m := by
  rw [UInt8.toNat_ofNat', UInt8.toNat_ofNat']
  show (m : Int) / 256 = ((m / 256 % 256 : Nat) : Int) ∧ (m : Int) % 256 = ((m % 256 : Nat) : Int) ∧ m / 256 % 256 * 256 + m % 256 = m
  omega

theorem wpList_make_elem {P : Program} (w : World) {ops : Array Oper} {rest : List Oper} {o : Oper} {a : Act} {Q : Exit → Act → World → Prop}
    (hg : o.guard = none) (l c : Operand) {t e : TypeId} {size bytes : Nat} {z : Value} (hop : o.op = Op.makeSlice t l c) (he : Elem P t e size bytes z) (base : Nat)
    (kl kc : IntKind) (L C : Int) (n : Nat) (hl : a.eval l = .int kl L) (hc : a.eval c = .int kc C) (hL : L = (n : Int)) (hC : C = (n : Int)) (b2 : bytes * n ≤ 281474976710656) (b3 : n ≤ 9223372036854775807) (b4 : base ≤ w.heap.size)
    (hK : ∀ w', w'.ownsRow base e size (.slice (some ⟨w.heap.size, 0, none⟩) n n) n (madeCells z.cells (n * size)).toList → Below base w w' → wpList P ops Q rest (a.put o.dst (.slice (some ⟨w.heap.size, 0, none⟩) n n)) w') :
    wpList P ops Q (o :: rest) a w := by
  obtain ⟨i, ht, hi, hz, hs, hb, _, _⟩ := he
  exact wpList_make_full w hg l c t hop base e i z size ht hi hz hs kl kc L C n hl hc hL hC (by rw [hb]; exact b2) (by unfold maxLen; omega) b4 (fun w' h1 h2 => hK w' h1 ((Below.refl base w).grown h2 b4 (fun _ h => by cases h)))

set_option maxRecDepth 100000 in
set_option maxHeartbeats 4000000 in
theorem limits_walk (n size : Int) (w : World) :
    Calls Try.prog 7 #[.int .i64 n, .int .i64 size] w fun e w' => e = .returned (.bool true) ∧ Below w.heap.size w w' := by
  have hk3 := modZ_lt n (n := 3) (by omega)
  have hm3 := modZ_lt size (n := 3) (by omega)
  go_enter Try.func7, Try.ntmps7
  go_wp2_with fail
  refine (mod_any n 3 _ (by omega) (by omega)).mono ?_
  rintro e w0 ⟨rfl, rfl⟩
  obtain ⟨k, hk', hk0, hk1⟩ : ∃ k : Nat, 32766 + ((modZ n 3 : Nat) : Int) = k ∧ 32766 ≤ k ∧ k ≤ 32768 := ⟨32766 + modZ n 3, by omega, by omega, by omega⟩
  generalize modZ n 3 = nm at hk3 hk'
  go_wp2_with (first
    | (refine wpList_make_elem _ rfl (.tmp 21) (.tmp 21) rfl ef w.heap.size .i64 .i64 _ _ k rfl rfl rfl rfl (by omega) (by omega) (Nat.le_refl _) ?_
       intro w1 ho1 hb1
       replace ho1 : w1.ownsRow w.heap.size 26 3 (.slice (some ⟨w.heap.size, 0, none⟩) k k) k (madeCells #[.int .i64 0, .int .i64 0, .string ⟨#[]⟩] (k * 3)).toList := ho1
       rw [made_fields] at ho1
       have HO1 := Lib.hid ho1
       have HB1 := Lib.hid hb1
       clear ho1 hb1))
  clear hk'
  generalize hg : w.heap.size = g at HO1
  have hgz : g = w.heap.size := hg.symm
  have HGZ := Lib.hid hgz
  clear hg hgz
  go_loopw [7] (fun i wr => LimRel w g k i wr) (fun i _ => k - (intOf i).toNat)
  case atStart => exact ⟨0, by omega, rfl, by rw [← HGZ.out]; exact HO1.out, HB1.out⟩
  case round =>
    obtain ⟨j, hj, rfl, ho, hb⟩ := hrel
    have HO := Lib.hid ho
    have HB := Lib.hid hb
    clear ho hb
    by_cases hlt : j < k
    · go_wp2_with fail
      refine (num_any 0 _).mono ?_
      rintro e w2 ⟨rfl, hb2⟩
      have HO2 := Lib.hid (own_keep HO.out hb2)
      have HB2 := Lib.hid (HB.out.trans (hb2.mono HB.out.size))
      clear hb2
      have q0 : w2.cell? ⟨g, j * 3, none⟩ = some (.int .i64 0) := by have := HO2.out.cellAt (j * 3 + 0) (by omega); rw [fv_get _ _ _ (mix_get hlt) 0 (by omega)] at this; exact this
      have q1 : w2.cell? ⟨g, j * 3 + 1, none⟩ = some (.int .i64 0) := by have := HO2.out.cellAt (j * 3 + 1) (by omega); rw [fv_get _ _ _ (mix_get hlt) 1 (by omega)] at this; exact this
      have q2 : w2.cell? ⟨g, j * 3 + 2, none⟩ = some (.string ⟨#[]⟩) := by have := HO2.out.cellAt (j * 3 + 2) (by omega); rw [fv_get _ _ _ (mix_get hlt) 2 (by omega)] at this; exact this
      have f0 := HO2.out.frozenAt (j * 3)
      have f1 := HO2.out.frozenAt (j * 3 + 1)
      have f2 := HO2.out.frozenAt (j * 3 + 2)
      have s0 := HO2.out.stored (j * 3) (.int .i64 oneF.kind)
      have s1 := s0.1.stored (j * 3 + 1) (.int .i64 oneF.n)
      have s2 := s1.1.stored (j * 3 + 2) (.string oneF.s)
      have hs := s2.1
      rw [fv_set _ _ _ (by rw [mix_length (by omega)]; exact hlt), mix_set hlt] at hs
      have HS := Lib.hid hs
      have hgb := (HO2.out.lt g rfl).1
      have HBS := Lib.hid (((HB2.out.setCell (p := ⟨g, j * 3, none⟩) hgb (.int .i64 oneF.kind)).setCell (p := ⟨g, j * 3 + 1, none⟩) hgb (.int .i64 oneF.n)).setCell (p := ⟨g, j * 3 + 2, none⟩) hgb (.string oneF.s))
      clear s0 s1 s2 hs
      go_wp2
      go_roundw
      case rel => exact ⟨j + 1, by omega, by go_num, HS.out, HBS.out⟩
      case measure => simp [intOf]; omega
    · obtain rfl : j = k := by omega
      have ho2 := HO.out
      rw [mix_all] at ho2
      have HF := Lib.hid (Flds.of_own ho2)
      clear ho2
      go_wp2_with fail
      refine (encode_lim _ _ _ _ _ _ (j ≤ 32767) (2 + 9 * j) HF.out (Nat.le_refl _) (fun h => ⟨_, enc_ones h, ones_length j⟩) (fun h => enc_many (by rw [List.length_replicate]; omega)) (by omega)).mono ?_
      rintro e w3 ⟨A3, c3, nb, ec, rfl, hy, hn, hnb, hb3⟩
      have HY := Lib.hid hy
      have HN := Lib.hid hn
      have HB3 := Lib.hid (HB.out.trans (hb3.mono HB.out.size))
      clear hy hn hb3
      go_wp2_with fail
      refine (mod_any size 3 _ (by omega) (by omega)).mono ?_
      rintro e w4 ⟨rfl, rfl⟩
      obtain ⟨m, hm', hm0, hm1⟩ : ∃ m : Nat, 4095 + ((modZ size 3 : Nat) : Int) = m ∧ 4095 ≤ m ∧ m ≤ 4097 := ⟨4095 + modZ size 3, by omega, by omega, by omega⟩
      generalize modZ size 3 = sm at hm3 hm'
      go_wp2_with (first
        | (refine wpList_make_elem _ rfl (.tmp 40) (.tmp 40) rfl eb w3.heap.size .i64 .i64 _ _ m rfl rfl rfl rfl (by omega) (by omega) (Nat.le_refl _) ?_
           intro w4 ho4 hb4
           replace ho4 : w4.ownsRow w3.heap.size 5 1 (.slice (some ⟨w3.heap.size, 0, none⟩) m m) m (madeCells #[.int .u8 0] (m * 1)).toList := ho4
           rw [Nat.mul_one, made_bytes] at ho4
           have hcv := (Bytes.of_own ho4).str (P := Try.prog) Try.underlying27 Try.underlying5 Try.underlying9
           have HB4 := Lib.hid (HB3.out.trans (hb4.mono HB3.out.size))
           have hsz : (str (List.replicate m 0)).size = m := by rw [str_size, List.length_replicate]
           have HSZ := Lib.hid hsz
           clear ho4 hb4 hsz)
        | fail)
      generalize str (List.replicate m 0) = st at HSZ
      clear hm' hcv
      refine (text_any _ _).mono ?_
      rintro e w5 ⟨rfl, hb5⟩
      have HB5 := Lib.hid (HB4.out.trans (hb5.mono HB4.out.size))
      have hz5 := HB5.out.size
      clear hb5
      go_wp2_with fail
      refine (encode_lim _ _ 1 1 _ _ (m ≤ 4096) (5 + m) (one_fld w5 _ ⟨2, 0, st⟩ rfl) (by simp) (fun h => by obtain ⟨l, h1, h2⟩ := enc_text (s := st) (by rw [HSZ.out]; exact h); exact ⟨l, h1, by rw [h2, HSZ.out]⟩) (fun h => enc_text_long (by rw [HSZ.out]; omega)) (by omega)).mono ?_
      rintro e w6 ⟨A6, c6, nd, ed, rfl, hy6, hn6, hnd, hb6⟩
      have HY6 := Lib.hid hy6
      have HN6 := Lib.hid hn6
      have HB6 := Lib.hid ((HB5.out.alloc hz5 _).trans (hb6.mono (by simp; omega)))
      have hz6 := HB6.out.size
      clear hy6 hn6 hb6
      obtain ⟨hb1, hb2, hb3⟩ := hi_byte (m := m) (by omega)
      obtain ⟨dm, hdm⟩ : ∃ dm : Nat, dm = if 4096 < m then 3 else 2 := ⟨_, rfl⟩
      have HDM := Lib.hid hdm
      have HM := Lib.hid ((dec_five hb3 (by omega)).trans (by rw [← hdm]))
      clear hdm
      have HM1 := Lib.hid hb1
      have HM2 := Lib.hid hb2
      clear hb1 hb2 hb3
      obtain ⟨hb1, hb2, hb3⟩ := hi_byte (m := j) (by omega)
      obtain ⟨dj, hdj⟩ : ∃ dj : Nat, dj = if 32767 < j then 3 else 2 := ⟨_, rfl⟩
      have HDJ := Lib.hid hdj
      have HJ := Lib.hid ((dec_two hb3 (by omega)).trans (by rw [← hdj]))
      clear hdj
      have HJ1 := Lib.hid hb1
      have HJ2 := Lib.hid hb2
      clear hb1 hb2 hb3
      go_wp2_with fail
      refine (decode_bad _ _ 5 5 _ _ _ (five_bytes w6 _ rfl _ _ HM1.out HM2.out) (by simp) HM.out).mono ?_
      rintro e w7 ⟨A7, n7, c7, rfl, hb7⟩
      have HB7 := Lib.hid ((HB6.out.alloc hz6 _).trans (hb7.mono (by simp; omega)))
      have hz7 := HB7.out.size
      clear hb7
      go_wp2_with fail
      refine (decode_bad _ _ 2 2 _ _ _ (two_bytes w7 _ rfl _ _ HJ1.out HJ2.out) (by simp) HJ.out).mono ?_
      rintro e w8 ⟨A8, n8, c8, rfl, hb8⟩
      have HB8 := Lib.hid ((HB7.out.alloc hz7 _).trans (hb8.mono (by simp; omega)))
      clear hb8 HM HJ HM1 HM2 HJ1 HJ2
      by_cases hjj : 32767 < j
      · obtain ⟨rfl, rfl⟩ := HN.out (by omega)
        obtain rfl : dj = 3 := by rw [HDJ.out, if_pos hjj]
        by_cases hmm : 4096 < m
        · obtain ⟨rfl, rfl⟩ := HN6.out (by omega)
          obtain rfl : dm = 3 := by rw [HDM.out, if_pos hmm]
          go_wp2_with fail
          refine (awake_any _).mono ?_
          rintro e w9 ⟨rfl, hb9⟩
          have HB9 := Lib.hid (HB8.out.trans (hb9.mono HB8.out.size))
          clear hb9
          go_wp2
          go_ret
          exact ⟨rfl, HB9.out⟩
        · obtain ⟨rfl, rfl⟩ := HY6.out (by omega)
          obtain rfl : dm = 2 := by rw [HDM.out, if_neg hmm]
          go_wp2_with fail
          refine (awake_any _).mono ?_
          rintro e w9 ⟨rfl, hb9⟩
          have HB9 := Lib.hid (HB8.out.trans (hb9.mono HB8.out.size))
          clear hb9
          go_wp2
          go_ret
          exact ⟨rfl, HB9.out⟩
      · obtain ⟨rfl, rfl⟩ := HY.out (by omega)
        obtain rfl : dj = 2 := by rw [HDJ.out, if_neg hjj]
        by_cases hmm : 4096 < m
        · obtain ⟨rfl, rfl⟩ := HN6.out (by omega)
          obtain rfl : dm = 3 := by rw [HDM.out, if_pos hmm]
          go_wp2_with fail
          refine (awake_any _).mono ?_
          rintro e w9 ⟨rfl, hb9⟩
          have HB9 := Lib.hid (HB8.out.trans (hb9.mono HB8.out.size))
          clear hb9
          go_wp2
          go_ret
          exact ⟨rfl, HB9.out⟩
        · obtain ⟨rfl, rfl⟩ := HY6.out (by omega)
          obtain rfl : dm = 2 := by rw [HDM.out, if_neg hmm]
          go_wp2_with fail
          refine (awake_any _).mono ?_
          rintro e w9 ⟨rfl, hb9⟩
          have HB9 := Lib.hid (HB8.out.trans (hb9.mono HB8.out.size))
          clear hb9
          go_wp2
          go_ret
          exact ⟨rfl, HB9.out⟩

theorem byte_of {z : Int} (h : (Lit.int .u8 z).wf = true) : z = ((UInt8.ofNat z.toNat).toNat : Nat) := by
  have hb := bounds_u8 h
  rw [UInt8.toNat_ofNat']
  show z = ((z.toNat % 256 : Nat) : Int)
  omega
theorem back_walk8 (A : Option Addr) (n c : Nat) (fs : List Fld) (cut more : Int) (w : World) (hm : (Lit.int .u8 more).wf = true) (hr : Flds w w.heap.size A n c fs) (hok : ∀ f ∈ fs, f.ok) :
    Calls Try.prog 5 #[.slice A n c, .int .i64 cut, .int .u8 more] w fun e w' => e = .returned (.bool true) ∧ Below w.heap.size w w' := by
  rw [byte_of hm]
  exact back_walk A n c fs cut _ w hr hok
theorem turned_walk8 (A : Option Addr) (n c : Nat) (fs : List Fld) (at_ by_ : Int) (w : World) (hm : (Lit.int .u8 by_).wf = true) (hr : Flds w w.heap.size A n c fs) (hok : ∀ f ∈ fs, f.ok) :
    Calls Try.prog 6 #[.slice A n c, .int .i64 at_, .int .u8 by_] w fun e w' => e = .returned (.bool true) ∧ Below w.heap.size w w' := by
  rw [byte_of hm]
  exact turned_walk A n c fs at_ _ w hr hok
end Go.Proofs.Ytdinkampbkckpaa.Field
