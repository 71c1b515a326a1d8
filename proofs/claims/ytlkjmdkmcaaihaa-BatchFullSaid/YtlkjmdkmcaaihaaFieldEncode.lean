/-
  Contracts of Encode: package field's, and the document's own: both answer what the plain mathematics says of the fields.
-/
import Derived.Test.YtlkjmdkmcaaihaaFieldFlds
namespace Go.Proofs.Ytlkjmdkmcaaihaa.Field
set_option maxRecDepth 100000
open Go.RowKit Base FieldMath

theorem wrap_u64 (n : Int) : IntKind.u64.wrap n = ((nat64 n : Nat) : Int) := by
  have hw : IntKind.u64.wrap n = n % 18446744073709551616 := by simp [IntKind.wrap, IntKind.bits, IntKind.signed]
  rw [hw, nat64]
  omega
theorem big_one : big 1 1 = [1] := by decide
theorem big_two : big 2 1 = [2] := by decide

/-- a field's box that the call laid is kept where only a row that was there ahead of it turns -/
theorem box_kept {w w1 : World} {base n : Nat} {e : TypeId} {size : Nat} {v v1 : Value} {xs : List Value} {t : TypeId} {x y z : Value} (hown : w.ownsRow base e size v n xs) (h : Grew (w.alloc (.cells #[x, y, z] t)) v.ownBlock w1 v1) :
    w1.cell? ⟨w.heap.size, 0, none⟩ = some x ∧ w1.cell? ⟨w.heap.size, 1, none⟩ = some y ∧ w1.cell? ⟨w.heap.size, 2, none⟩ = some z := by
  have hb : Blk w1 w.heap.size t #[x, y, z] := (Blk.new w t #[x, y, z]).grown h.1 (fun e => by have := (hown.lt _ e.symm).2; omega)
  exact ⟨hb.cell 0, hb.cell 1, hb.cell 2⟩

set_option maxHeartbeats 400000 in
theorem putField_any (base : Nat) (A : Option Addr) (m c : Nat) (l : List UInt8) (k n : Int) (s : ByteArray) (w : World) (hf : Fld.right ⟨k, n, s⟩ = true) (hm : m ≤ 1099511627000)
    (hown : w.ownsRow base 5 1 (.slice A m c) m (bv l)) (hbase : base ≤ w.heap.size) :
    Calls Try.prog 55 #[.slice A m c, .agg #[.int .i64 k, .int .i64 n, .string s]] w (OwnBytes base w (Value.slice A m c).ownBlock (l ++ encF ⟨k, n, s⟩)) := by
  have hlm : l.length = m := by have := hown.1; rw [bv_length, Nat.mul_one] at this; exact this
  subst hlm
  have HO := Lib.hid hown
  clear hown
  rcases right_cases hf with ⟨h1, h2⟩ | ⟨h1, h2, h3⟩
  · simp only at h1 h2
    subst h1
    have HF : Hid (l ++ encF ⟨1, n, s⟩ = (l ++ big 1 1) ++ big (nat64 n) 8) := by rw [encF, if_pos rfl, big_one, List.append_assoc]; rfl
    rw [HF.out]
    clear HF h2 hf
    go_enter Try.func55, Try.ntmps55
    go_wp2_with fail
    refine (put_any base A l.length c l 1 1 _ (by omega) (by omega) (by omega) (by omega) (by omega) (HO.out.alloc _) (by simp; omega)).mono ?_
    rintro e w1 ⟨A1, c1, rfl, hown1, hg1⟩
    obtain ⟨d0, d1, d2⟩ := box_kept HO.out hg1
    have HO1 := Lib.hid hown1
    have HG1 := Lib.hid hg1
    have hz1 := hg1.1.size
    have hx := u64_lt n
    have HE := Lib.hid (wrap_u64 n)
    clear hown1 hg1
    have hll : (l ++ big (Int.toNat 1) 1).length = l.length + 1 := by rw [List.length_append, big_length]
    rw [hll] at HO1 HG1 ⊢
    go_wp2_with fail
    rw [HE.out]
    refine (put_any base A1 _ c1 _ ((nat64 n : Nat) : Int) 8 _ (by omega) (by omega) (by omega) (by omega) (by omega) HO1.out (by simp at hz1; omega)).mono ?_
    rintro e w2 ⟨A2, c2, rfl, hown2, hg2⟩
    have HO2 := Lib.hid hown2
    have HG2 := Lib.hid ((((Grew.refl w (.slice A l.length c)).alloc _).step HG1.out).step hg2)
    clear hown2 hg2
    have hll2 : (l ++ big (Int.toNat 1) 1 ++ big ((nat64 n : Nat) : Int).toNat 8).length = l.length + 9 := by rw [List.length_append, hll, big_length]
    rw [hll2] at HO2 HG2 ⊢
    clear hll hll2
    go_wp2
    go_ret
    exact own_bytes rfl HO2.out rfl HG2.out
  · simp only at h1 h2 h3
    subst h1
    have HF : Hid (l ++ encF ⟨2, n, s⟩ = ((l ++ big 2 1) ++ big s.size 2) ++ s.data.toList) := by rw [encF, if_neg (by show ¬ (2 : Int) = 1; decide), big_two, List.append_assoc, List.append_assoc]; rfl
    rw [HF.out]
    clear HF h2 hf
    go_enter Try.func55, Try.ntmps55
    go_wp2_with fail
    refine (put_any base A l.length c l 2 1 _ (by omega) (by omega) (by omega) (by omega) (by omega) (HO.out.alloc _) (by simp; omega)).mono ?_
    rintro e w1 ⟨A1, c1, rfl, hown1, hg1⟩
    obtain ⟨d0, d1, d2⟩ := box_kept HO.out hg1
    have HO1 := Lib.hid hown1
    have HG1 := Lib.hid hg1
    have hz1 := hg1.1.size
    have hbox : Blk w1 w.heap.size 59 #[.int .i64 2, .int .i64 n, .string s] := (Blk.new w _ _).grown hg1.1 (fun e => by have := (HO.out.lt _ e.symm).2; omega)
    have HX := Lib.hid hbox
    clear hown1 hg1 hbox
    have hll : (l ++ big (Int.toNat 2) 1).length = l.length + 1 := by rw [List.length_append, big_length]
    rw [hll] at HO1 HG1 ⊢
    go_wp2_with fail
    refine (put_any base A1 _ c1 _ ((s.size : Nat) : Int) 2 _ (by omega) (by omega) (by omega) (by omega) (by omega) HO1.out (by simp at hz1; omega)).mono ?_
    rintro e w2 ⟨A2, c2, rfl, hown2, hg2⟩
    have HX2 := HX.out.grown hg2.1 (fun e => by
      rcases HG1.out.2 with h | h
      · rw [← e] at h
        have := (HO.out.lt _ h.symm).2
        omega
      · have := h _ e.symm
        simp at this
        omega)
    have e2 : w2.cell? ⟨w.heap.size, 2, none⟩ = some (.string s) := HX2.cell 2
    have HO2 := Lib.hid hown2
    have HG2 := Lib.hid ((((Grew.refl w (.slice A l.length c)).alloc _).step HG1.out).step hg2)
    have hz2 := hg2.1.size
    clear hown2 hg2 HX2 d0 d1 d2
    have hll2 : (l ++ big (Int.toNat 2) 1 ++ big ((s.size : Nat) : Int).toNat 2).length = l.length + 3 := by rw [List.length_append, hll, big_length]
    rw [hll2] at HO2 HG2 ⊢
    clear hll hll2
    go_wp2_with (first
      | (at_builtin
         refine wpList_append_str rfl (.tmp 24) (.tmp 26) rfl eb Try.underlying9 base _ _ _ rfl HO2.out s rfl (by omega) (by simp at hz1; omega) ?_
         intro A3 c3 w3 hown3 hg3 _
         have HO3 := Lib.hid hown3
         have HG3 := Lib.hid (HG2.out.step hg3)
         clear hown3 hg3))
    go_ret
    exact own_bytes rfl (by have := HO3.out; rw [bv_str, ← bv_append] at this; exact this) rfl HG3.out

/-- what Encode answers -/
def Encoded (w : World) (fs : List Fld) (e : Ending) (w' : World) : Prop :=
  ∃ A n c, e = .returned (.tuple #[.slice A n c, .int .i64 (err (enc fs))]) ∧ w'.ownsRow w.heap.size 5 1 (.slice A n c) n (bv (got (enc fs))) ∧ Below w.heap.size w w'
theorem enc_many {fs : List Fld} (h : 32767 < fs.length) : enc fs = .error 1 := by unfold enc; rw [if_pos (.inl h)]
theorem enc_wrong {fs : List Fld} {k : Nat} {f : Fld} (h : fs[k]? = some f) (hf : f.right = false) : enc fs = .error 1 := by
  have hall : fs.all Fld.right = false := by
    cases hall : fs.all Fld.right with
    | false => rfl
    | true =>
      have := List.all_eq_true.1 hall f (List.mem_of_getElem? h)
      rw [hf] at this
      cases this
  unfold enc
  rw [if_pos (.inr hall)]
theorem enc_ok {fs : List Fld} (h : fs.length ≤ 32767) (hf : fs.all Fld.right = true) : enc fs = .ok (encZ fs) := by
  unfold enc
  rw [if_neg (by rw [hf]; simp; omega)]
theorem encoded_err {w w' : World} {fs : List Fld} {e : Ending} {k : Nat} (h : enc fs = .error k) (he : e = .returned (.tuple #[.slice none 0 0, .int .i64 k])) (hb : Below w.heap.size w w') : Encoded w fs e w' := by
  unfold Encoded
  rw [h]
  exact ⟨none, 0, 0, he, World.ownsRow_nil _ _ _ _, hb⟩
theorem encoded_ok {w w' : World} {fs : List Fld} {e : Ending} {A : Option Addr} {n c : Nat} (h : enc fs = .ok (encZ fs)) (he : e = .returned (.tuple #[.slice A n c, .int .i64 0])) (ho : w'.ownsRow w.heap.size 5 1 (.slice A n c) n (bv (encZ fs))) (hb : Below w.heap.size w w') : Encoded w fs e w' := by
  unfold Encoded
  rw [h]
  exact ⟨A, n, c, he, ho, hb⟩
/-- the bytes of the first k of them -/
def part (fs : List Fld) (k : Nat) : List UInt8 := big fs.length 2 ++ (fs.take k).flatMap encF
theorem part_zero (fs : List Fld) : part fs 0 = big fs.length 2 := by simp [part]
theorem part_all (fs : List Fld) : part fs fs.length = encZ fs := by rw [part, List.take_length, encZ]
theorem part_succ {fs : List Fld} {k : Nat} {f : Fld} (h : fs.take (k + 1) = fs.take k ++ [f]) : part fs (k + 1) = part fs k ++ encF f := by
  rw [part, part, h, List.flatMap_append, List.append_assoc]
  simp
theorem right_size {f : Fld} (h : f.right = true) : f.s.size ≤ 4096 := by rcases right_cases h with ⟨_, h⟩ | ⟨_, _, h⟩ <;> omega
theorem all_take {fs : List Fld} {k : Nat} {f : Fld} (h : fs.take (k + 1) = fs.take k ++ [f]) (h1 : (fs.take k).all Fld.right = true) (h2 : f.right = true) : (fs.take (k + 1)).all Fld.right = true := by
  rw [h, List.all_append, h1]
  simp [h2]
theorem right_get {fs : List Fld} {k : Nat} {f : Fld} (h : fs.all Fld.right = true) (hf : fs[k]? = some f) : f.right = true := List.all_eq_true.1 h f (List.mem_of_getElem? hf)

theorem box3 {w w1 : World} {t : TypeId} {x y z : Value} (hb : Below (w.alloc (.cells #[x, y, z] t)).heap.size (w.alloc (.cells #[x, y, z] t)) w1) :
    w1.cell? ⟨w.heap.size, 0, none⟩ = some x ∧ w1.cell? ⟨w.heap.size, 1, none⟩ = some y ∧ w1.cell? ⟨w.heap.size, 2, none⟩ = some z := by
  have h : Blk w1 w.heap.size t #[x, y, z] := (Blk.new w t #[x, y, z]).below hb (by simp)
  exact ⟨h.cell 0, h.cell 1, h.cell 2⟩
def SizeRel (w : World) (n : Nat) (fs : List Fld) (t i : Value) (wr : World) : Prop :=
  ∃ k z : Nat, k ≤ n ∧ i = .int .i64 k ∧ t = .int .i64 z ∧ z ≤ 2 + 4100 * k ∧ (fs.take k).all Fld.right = true ∧ Below w.heap.size w wr
def EncRel (w : World) (n : Nat) (fs : List Fld) (v i : Value) (wr : World) : Prop :=
  ∃ (k z : Nat) (A : Option Addr) (c : Nat), k ≤ n ∧ i = .int .i64 k ∧ v = .slice A z c ∧ z ≤ 2 + 4100 * k ∧ wr.ownsRow w.heap.size 5 1 (.slice A z c) z (bv (part fs k)) ∧ Below w.heap.size w wr

set_option maxHeartbeats 1000000 in
theorem encode_any (B : Nat) (A : Option Addr) (n c : Nat) (fs : List Fld) (w : World) (hr : Flds w B A n c fs) (hB : B ≤ w.heap.size) :
    Calls Try.prog 26 #[.slice A n c] w (Encoded w fs) := by
  have hle := hr.le
  have hlen := hr.len
  have HL := Lib.hid hlen
  have HR := Lib.hid hr
  clear hr hlen
  by_cases hbig : 32767 < n
  · go_enter Try.func26, Try.ntmps26
    go_wp2
    go_ret2
    exact encoded_err (enc_many (by rw [HL.out]; exact hbig)) rfl (Below.refl _ _)
  · have hsm : n ≤ 32767 := by omega
    clear hbig
    go_enter Try.func26, Try.ntmps26
    go_wp2
    go_loopw [4, 15, 6] (fun t i _ wr => SizeRel w n fs t i wr) (fun _ i _ _ => n - (intOf i).toNat)
    case atStart => exact ⟨0, 2, by omega, rfl, rfl, by omega, rfl, Below.refl _ _⟩
    case round =>
      obtain ⟨k, z, hk, rfl, rfl, hz, hall, hbel⟩ := hrel
      have HA := Lib.hid hall
      have HB := Lib.hid hbel
      clear hall hbel
      by_cases hlt : k < n
      · obtain ⟨b, off, f, rfl, hb, q0, q1, q2, hget, htk⟩ := (HR.out.below (HB.out.mono hB)).at_ hlt
        have HG := Lib.hid hget
        have HK := Lib.hid htk
        clear hget htk
        obtain ⟨fk, fn, fss⟩ := f
        simp only at q0 q1 q2
        by_cases hrt : Fld.right ⟨fk, fn, fss⟩ = true
        · have hss := right_size hrt
          simp only at hss
          have HRT := Lib.hid hrt
          clear hrt
          go_wp2_with fail
          refine (right_any _ _ _ _).mono ?_
          rintro e w1 ⟨rfl, hb1⟩
          rw [HRT.out]
          obtain ⟨d0, d1, d2⟩ := box3 hb1
          have HB1 := Lib.hid ((HB.out.alloc (by exact HB.out.size) _).trans (hb1.mono (by have := HB.out.size; simp; omega)))
          clear hb1
          go_wp2_with fail
          refine (size_any _ _ _ _ hss).mono ?_
          rintro e w2 ⟨rfl, hb2⟩
          have HB2 := Lib.hid (HB1.out.trans (hb2.mono HB1.out.size))
          have hfz : fsize ⟨fk, fn, fss⟩ ≤ 4100 := by unfold fsize; simp only; split <;> omega
          clear hb2
          generalize fsize ⟨fk, fn, fss⟩ = fz at hfz
          go_wp2
          go_roundw
          case rel => exact ⟨k + 1, z + fz, by omega, by go_num, by go_num, by omega, all_take HK.out HA.out HRT.out, HB2.out⟩
          case measure => simp [intOf]; omega
        · have hrf : Fld.right ⟨fk, fn, fss⟩ = false := by simpa using hrt
          have HRT := Lib.hid hrf
          clear hrt hrf
          go_wp2_with fail
          refine (right_any _ _ _ _).mono ?_
          rintro e w1 ⟨rfl, hb1⟩
          rw [HRT.out]
          have HB1 := Lib.hid ((HB.out.alloc (by exact HB.out.size) _).trans (hb1.mono (by have := HB.out.size; simp; omega)))
          clear hb1
          go_wp2
          go_ret2
          exact encoded_err (enc_wrong HG.out HRT.out) rfl HB1.out
      · have hkn : fs.take k = fs := List.take_of_length_le (by rw [HL.out]; omega)
        rw [hkn] at HA
        have HOK := Lib.hid (enc_ok (by rw [HL.out]; exact hsm) HA.out)
        clear hkn
        obtain ⟨i0, ht0, hi0, hz0, hs0, hb0, _, _⟩ := eb
        go_wp2_with (first
          | (refine wpList_make_own _ rfl _ _ _ rfl w.heap.size 5 i0 _ 1 ht0 hi0 hz0 hs0 .i64 .i64 _ z rfl rfl rfl (by rw [hb0]; omega) (by unfold maxLen; omega) HB.out.size ?_
             intro w1 hown1 hg1
             have HO1 := Lib.hid hown1
             have HB1 := Lib.hid (HB.out.grown hg1 HB.out.size (fun _ h => by cases h))
             clear hown1 hg1))
        go_wp2_with fail
        refine (put_any w.heap.size _ 0 _ [] (n : Int) 2 _ (by omega) (by omega) (by omega) (by omega) (by omega) HO1.out HB1.out.size).mono ?_
        rintro e w2 ⟨A2, c2, rfl, hown2, hg2⟩
        rw [List.nil_append, Int.toNat_natCast, big_length] at hown2
        rw [List.nil_append, Int.toNat_natCast, big_length]
        have HO2 := Lib.hid hown2
        have HB2 := Lib.hid (HB1.out.trans (hg2.below HO1.out HB1.out.size))
        clear hown2 hg2
        go_wp2
        go_loopw [7, 35, 9] (fun v i _ wr => EncRel w n fs v i wr) (fun _ i _ _ => n - (intOf i).toNat)
        case atStart => exact ⟨0, 2, A2, c2, by omega, rfl, rfl, by omega, by rw [part_zero, HL.out]; exact HO2.out, HB2.out⟩
        case round =>
          obtain ⟨j, y, A3, c3, hj, rfl, rfl, hy, hown3, hbel3⟩ := hrel
          have HO3 := Lib.hid hown3
          have HB3 := Lib.hid hbel3
          clear hown3 hbel3
          by_cases hlt2 : j < n
          · obtain ⟨b, off, f, rfl, hb, q0, q1, q2, hget, htk⟩ := (HR.out.below (HB3.out.mono hB)).at_ hlt2
            have HRT := Lib.hid (right_get HA.out hget)
            have HK := Lib.hid htk
            clear hget htk
            have hss := right_size HRT.out
            obtain ⟨fk, fn, fss⟩ := f
            simp only at q0 q1 q2 hss
            have hz3 := HB3.out.size
            go_wp2_with fail
            refine (putField_any w.heap.size A3 y c3 (part fs j) fk fn fss _ HRT.out (by omega) (HO3.out.alloc _) (by simp; omega)).mono ?_
            rintro e w4 ⟨A4, c4, rfl, hown4, hg4⟩
            have HB4 := Lib.hid ((HB3.out.alloc (by omega) _).trans (hg4.below (HO3.out.alloc _) (by simp; omega)))
            rw [← part_succ HK.out] at hown4
            rw [← part_succ HK.out]
            have hll : (part fs (j + 1)).length ≤ 2 + 4100 * (j + 1) := by
              have h1 : (part fs j).length = y := by have := HO3.out.1; rw [bv_length, Nat.mul_one] at this; exact this
              rw [part_succ HK.out, List.length_append, h1, fsize_enc]
              have : fsize ⟨fk, fn, fss⟩ ≤ 4100 := by unfold fsize; simp only; split <;> omega
              omega
            have HO4 := Lib.hid hown4
            clear hown4 hg4
            generalize hq : (part fs (j + 1)).length = q at hll HO4
            clear hq
            go_wp2
            go_roundw
            case rel => exact ⟨j + 1, q, A4, c4, by omega, by go_num, rfl, hll, HO4.out, HB4.out⟩
            case measure => simp [intOf]; omega
          · have hjn : j = fs.length := by rw [HL.out]; omega
            have hpt : part fs j = encZ fs := by rw [hjn, part_all]
            rw [hpt] at HO3
            clear hpt hjn
            go_wp2
            go_ret2
            exact encoded_ok HOK.out rfl HO3.out HB3.out

/-! ### the document's own -/
set_option maxRecDepth 100000 in
set_option maxHeartbeats 1600000 in
theorem refencode_any (B : Nat) (A : Option Addr) (n c : Nat) (fs : List Fld) (w : World) (hr : Flds w B A n c fs) (hB : B ≤ w.heap.size) :
    Calls Try.prog 21 #[.slice A n c] w (Encoded w fs) := by
  have hle := hr.le
  have hlen := hr.len
  have HL := Lib.hid hlen
  have HR := Lib.hid hr
  clear hr hlen
  by_cases hbig : 32767 < n
  · go_enter Try.func21, Try.ntmps21
    go_wp2
    go_ret2
    exact encoded_err (enc_many (by rw [HL.out]; exact hbig)) rfl (Below.refl _ _)
  · have hsm : n ≤ 32767 := by omega
    clear hbig
    go_enter Try.func21, Try.ntmps21
    go_wp2_with fail
    refine (big_any (n : Int) 2 _ (by omega) (by omega) (by omega) (by omega)).mono ?_
    rintro e w2 ⟨A2, c2, rfl, hown2, hg2⟩
    rw [Int.toNat_natCast, big_length] at hown2 hg2
    rw [Int.toNat_natCast, big_length]
    have HO2 := Lib.hid hown2
    have HB2 := Lib.hid ((Below.refl w.heap.size w).grown hg2.1 (Nat.le_refl _) (fun _ h => by cases h))
    clear hown2 hg2
    go_wp2
    go_loopw [4, 5] (fun v i wr => EncRel w n fs v i wr ∧ (∃ k : Nat, i = .int .i64 k ∧ (fs.take k).all Fld.right = true)) (fun _ i _ => n - (intOf i).toNat)
    case atStart => exact ⟨⟨0, 2, A2, c2, by omega, rfl, rfl, by omega, by rw [part_zero, HL.out]; exact HO2.out, HB2.out⟩, 0, rfl, rfl⟩
    case round =>
      obtain ⟨⟨j, y, A3, c3, hj, rfl, rfl, hy, hown3, hbel3⟩, k', hk', hall⟩ := hrel
      obtain rfl : j = k' := by
        have : (j : Int) = k' := by simpa using hk'
        omega
      clear hk'
      have HA := Lib.hid hall
      have HO3 := Lib.hid hown3
      have HB3 := Lib.hid hbel3
      clear hown3 hbel3 hall
      by_cases hlt2 : j < n
      · have HRw := Lib.hid (HR.out.below (HB3.out.mono hB))
        obtain ⟨b, off, f, rfl, hb, q0, q1, q2, hget, htk⟩ := HRw.out.at_ hlt2
        have HG := Lib.hid hget
        have HK := Lib.hid htk
        clear hget htk
        obtain ⟨fk, fn, fss⟩ := f
        simp only at q0 q1 q2
        have hz3 := HB3.out.size
        by_cases hrt : Fld.right ⟨fk, fn, fss⟩ = true
        · have hss := right_size hrt
          simp only at hss
          have HRT := Lib.hid hrt
          clear hrt
          go_wp2_with fail
          refine (rightField_any _ _ _ _).mono ?_
          rintro e w4 ⟨rfl, hb4⟩
          rw [HRT.out]
          have r0 : w4.cell? ⟨b, off + j * 3, none⟩ = some (.int .i64 fk) := (hb4.cell (p := ⟨b, off + j * 3, none⟩) (by show b < _; omega)).trans q0
          have r1 : w4.cell? ⟨b, off + j * 3 + 1, none⟩ = some (.int .i64 fn) := (hb4.cell (p := ⟨b, off + j * 3 + 1, none⟩) (by show b < _; omega)).trans q1
          have r2 : w4.cell? ⟨b, off + j * 3 + 2, none⟩ = some (.string fss) := (hb4.cell (p := ⟨b, off + j * 3 + 2, none⟩) (by show b < _; omega)).trans q2
          have HO4 := Lib.hid (own_keep HO3.out hb4)
          have HB4 := Lib.hid (HB3.out.trans (hb4.mono HB3.out.size))
          have hz4 := HB4.out.size
          clear hb4 q0 q1 q2
          rcases right_cases HRT.out with ⟨h1, _⟩ | ⟨h1, h0, _⟩
          · simp only at h1
            subst h1
            go_wp2_with (first
              | (at_builtin
                 refine wpList_append_row rfl (.tmp 25) (.tmp 32) rfl eb w.heap.size _ y (bv (part fs j)) rfl (HO4.out.alloc _) _ _ 1 1 (bv [1]) rfl (one_byte w4 _ 1 rfl rfl) (bv_one _) (by omega) (by omega) (by simp; omega) ?_
                 intro A5 c5 w5 hown5 _ hb5
                 rw [← bv_append] at hown5
                 have HO5 := Lib.hid hown5
                 have HB5 := Lib.hid ((HB4.out.alloc (by omega) _).trans hb5)
                 have s0 : w5.cell? ⟨b, off + j * 3, none⟩ = some (.int .i64 1) := by rw [hb5.cell (p := ⟨b, off + j * 3, none⟩) (by show b < _; omega)]; rw [World.cell?_alloc_lt _ _ _ (by show b < _; omega)]; exact r0
                 have s1 : w5.cell? ⟨b, off + j * 3 + 1, none⟩ = some (.int .i64 fn) := by rw [hb5.cell (p := ⟨b, off + j * 3 + 1, none⟩) (by show b < _; omega)]; rw [World.cell?_alloc_lt _ _ _ (by show b < _; omega)]; exact r1
                 have hz5 := HB5.out.size
                 clear hown5 hb5))
            have HW := Lib.hid (wrap_u64 fn)
            have hu := u64_lt fn
            go_wp2_with fail
            rw [HW.out]
            refine (big_any ((nat64 fn : Nat) : Int) 8 _ (by omega) (by omega) (by omega) (by omega)).mono ?_
            rintro e w6 ⟨A6, c6, rfl, hown6, hg6⟩
            rw [Int.toNat_natCast, big_length] at hown6 hg6
            rw [Int.toNat_natCast, big_length]
            have hb6 : Below w5.heap.size w5 w6 := (Below.refl _ _).grown hg6.1 (Nat.le_refl _) (fun _ h => by cases h)
            have HO6 := Lib.hid (own_keep HO5.out hb6)
            have HS6 := Lib.hid (Row.of_own hown6)
            have HB6 := Lib.hid (HB5.out.trans (hb6.mono HB5.out.size))
            have hz6 := HB6.out.size
            clear hown6 hg6 hb6
            go_wp2_with (first
              | (at_builtin
                 refine wpList_append_row rfl (.tmp 40) (.tmp 47) rfl eb w.heap.size _ _ _ rfl HO6.out _ _ 8 _ (bv (big (nat64 fn) 8)) rfl HS6.out (bv_one _) (by omega) (by omega) (by omega) ?_
                 intro A7 c7 w7 hown7 _ hb7
                 rw [← bv_append] at hown7
                 have HO7 := Lib.hid hown7
                 have HB7 := Lib.hid (HB6.out.trans hb7)
                 clear hown7 hb7))
            have HE := Lib.hid (show part fs j ++ [1] ++ big (nat64 fn) 8 = part fs (j + 1) by rw [part_succ HK.out, encF, if_pos rfl, List.append_assoc]; rfl)
            rw [HE.out] at HO7
            go_roundw
            case rel => exact ⟨⟨j + 1, y + 1 + 8, A7, c7, by omega, by go_num, rfl, by omega, HO7.out, HB7.out⟩, j + 1, by go_num, all_take HK.out HA.out HRT.out⟩
            case measure => simp [intOf]; omega
          · simp only at h1
            subst h1
            go_wp2_with (first
              | (at_builtin
                 refine wpList_append_row rfl (.tmp 25) (.tmp 32) rfl eb w.heap.size _ y (bv (part fs j)) rfl (HO4.out.alloc _) _ _ 1 1 (bv [2]) rfl (one_byte w4 _ 2 rfl rfl) (bv_one _) (by omega) (by omega) (by simp; omega) ?_
                 intro A5 c5 w5 hown5 _ hb5
                 rw [← bv_append] at hown5
                 have HO5 := Lib.hid hown5
                 have HB5 := Lib.hid ((HB4.out.alloc (by omega) _).trans hb5)
                 have s0 : w5.cell? ⟨b, off + j * 3, none⟩ = some (.int .i64 2) := by rw [hb5.cell (p := ⟨b, off + j * 3, none⟩) (by show b < _; omega)]; rw [World.cell?_alloc_lt _ _ _ (by show b < _; omega)]; exact r0
                 have s2 : w5.cell? ⟨b, off + j * 3 + 2, none⟩ = some (.string fss) := by rw [hb5.cell (p := ⟨b, off + j * 3 + 2, none⟩) (by show b < _; omega)]; rw [World.cell?_alloc_lt _ _ _ (by show b < _; omega)]; exact r2
                 have hz5 := HB5.out.size
                 clear hown5 hb5))
            go_wp2_with fail
            refine (big_any ((fss.size : Nat) : Int) 2 _ (by omega) (by omega) (by omega) (by omega)).mono ?_
            rintro e w6 ⟨A6, c6, rfl, hown6, hg6⟩
            rw [Int.toNat_natCast, big_length] at hown6 hg6
            rw [Int.toNat_natCast, big_length]
            have hb6 : Below w5.heap.size w5 w6 := (Below.refl _ _).grown hg6.1 (Nat.le_refl _) (fun _ h => by cases h)
            have HO6 := Lib.hid (own_keep HO5.out hb6)
            have HS6 := Lib.hid (Row.of_own hown6)
            have HB6 := Lib.hid (HB5.out.trans (hb6.mono HB5.out.size))
            have hz6 := HB6.out.size
            have t2 : w6.cell? ⟨b, off + j * 3 + 2, none⟩ = some (.string fss) := by rw [hb6.cell (p := ⟨b, off + j * 3 + 2, none⟩) (by show b < _; omega)]; exact s2
            clear hown6 hg6 hb6
            go_wp2_with (first
              | (at_builtin
                 refine wpList_append_row rfl (.tmp 49) (.tmp 57) rfl eb w.heap.size _ _ _ rfl HO6.out _ _ 2 _ (bv (big fss.size 2)) rfl HS6.out (bv_one _) (by omega) (by omega) (by omega) ?_
                 intro A7 c7 w7 hown7 _ hb7
                 rw [← bv_append] at hown7
                 have HO7 := Lib.hid hown7
                 have HB7 := Lib.hid (HB6.out.trans hb7)
                 have hz7 := HB7.out.size
                 have u2 : w7.cell? ⟨b, off + j * 3 + 2, none⟩ = some (.string fss) := by rw [hb7.cell (p := ⟨b, off + j * 3 + 2, none⟩) (by show b < _; omega)]; exact t2
                 clear hown7 hb7)
              | (at_builtin
                 refine wpList_append_str rfl (.tmp 59) (.tmp 64) rfl eb Try.underlying9 w.heap.size _ _ _ rfl HO7.out fss rfl (by omega) (by omega) ?_
                 intro A8 c8 w8 hown8 _ hb8
                 rw [bv_str, ← bv_append] at hown8
                 have HO8 := Lib.hid hown8
                 have HB8 := Lib.hid (HB7.out.trans hb8)
                 clear hown8 hb8))
            have HE := Lib.hid (show part fs j ++ [2] ++ big fss.size 2 ++ fss.data.toList = part fs (j + 1) by rw [part_succ HK.out, encF, if_neg (by show ¬ (2 : Int) = 1; decide), List.append_assoc, List.append_assoc]; rfl)
            rw [HE.out] at HO8
            go_roundw
            case rel => exact ⟨⟨j + 1, y + 1 + 2 + fss.size, A8, c8, by omega, by go_num, rfl, by omega, HO8.out, HB8.out⟩, j + 1, by go_num, all_take HK.out HA.out HRT.out⟩
            case measure => simp [intOf]; omega
        · have hrf : Fld.right ⟨fk, fn, fss⟩ = false := by simpa using hrt
          have HRT := Lib.hid hrf
          clear hrt hrf
          go_wp2_with fail
          refine (rightField_any _ _ _ _).mono ?_
          rintro e w1 ⟨rfl, hb1⟩
          rw [HRT.out]
          have HB1 := Lib.hid (HB3.out.trans (hb1.mono HB3.out.size))
          clear hb1
          go_wp2
          go_ret2
          exact encoded_err (enc_wrong HG.out HRT.out) rfl HB1.out
      · have hjn : j = fs.length := by rw [HL.out]; omega
        have hpt : part fs j = encZ fs := by rw [hjn, part_all]
        have hkn : fs.take j = fs := List.take_of_length_le (by rw [HL.out]; omega)
        rw [hkn] at HA
        rw [hpt] at HO3
        have HOK := Lib.hid (enc_ok (by rw [HL.out]; exact hsm) HA.out)
        clear hpt hjn hkn
        go_wp2
        go_ret2
        exact encoded_ok HOK.out rfl HO3.out HB3.out
end Go.Proofs.Ytlkjmdkmcaaihaa.Field
