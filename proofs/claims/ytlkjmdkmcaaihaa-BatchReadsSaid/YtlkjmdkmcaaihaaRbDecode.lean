/-
  Contract of the document's DecodeItem: it answers what the plain mathematics says of the bytes.
-/
import Derived.Test.YtlkjmdkmcaaihaaTxnRefRead
import Derived.Test.YtlkjmdkmcaaihaaRbMay
import Derived.Test.YtlkjmdkmcaaihaaBtDecode
import Derived.BigRegion
namespace Go.Proofs.Ytlkjmdkmcaaihaa.Bt
set_option linter.unusedVariables false
set_option maxRecDepth 100000
open Go.RowKit Base FieldMath TxnMath BatchMath Last
open GuardMath (Gp noGp)
open Gd (Gps ov ov_append ov_one ov_length ocells oval oel oone)
open Txn (RR RR.far RR.drewN RR.alloc RR.lt Blk.kept rint_any rchange_any rflag_any rend_any chv isEnd dec_why)
open Go.Proofs.Ytlkjmdkmcaaihaa.Field (fv fv_append fv_one fv_length fv_get fv_take Flds ef ret_bool empty_iff Decoded)
set_option linter.ambiguousOpen false
set_option linter.unusedSimpArgs false

abbrev mx : Option Int := some 1099511627776
theorem decR_none {l : List UInt8} {fs : List Fld} (h : dec l = .ok fs) (hx : decF mx mx refB true fs = none) : decI l = .error 3 := decI_none wide_max wide_max refB_good h hx
theorem decR_some {l : List UInt8} {fs : List Fld} {t : It} (h : dec l = .ok fs) (hx : decF mx mx refB true fs = some t) : decI l = .ok t := decI_some wide_max wide_max refB_good h hx
/-- the document's Decode on its way: the reader at block g, the item at block c, the result's block ahead of both -/
def DSt (w : World) (B g c : Nat) (s : Rs) (cs : Array Value) (wr : World) : Prop := RR wr B g s ∧ Blk wr c 25 cs ∧ Blk wr w.heap.size 25 itz ∧ Below w.heap.size w wr
section
variable {w wr w1 : World} {B g c : Nat} {s s' : Rs} {cs : Array Value}
theorem DSt.call (h : DSt w B g c s cs wr) (hR : w.heap.size < g) (hc : g < c) (hr : RR w1 B g s') (hg : wr.grownBy w1 (some g)) : DSt w B g c s' cs w1 :=
  ⟨hr, Blk.kept h.2.1 hg (by omega), Blk.kept h.2.2.1 hg (by omega), h.2.2.2.trans ((below_of_only hg (Nat.le_of_lt h.1.lt)).mono (by omega))⟩
theorem DSt.store (h : DSt w B g c s cs wr) (hR : w.heap.size < g) (hc : g < c) (i : Nat) (v : Value) : DSt w B g c s (cs.setIfInBounds i v) (wr.setCell ⟨c, i, none⟩ v) :=
  ⟨h.1.far (by exact hc) v, h.2.1.set_ i v, h.2.2.1.far (by show w.heap.size ≠ c; omega) v, h.2.2.2.setCell (by show w.heap.size ≤ c; omega) v⟩
theorem DSt.far (h : DSt w B g c s cs wr) (hR : w.heap.size < g) (hc : g < c) {p : Addr} (hp : c < p.block) (v : Value) : DSt w B g c s cs (wr.setCell p v) :=
  ⟨h.1.far (by omega) v, h.2.1.far (by omega) v, h.2.2.1.far (by omega) v, h.2.2.2.setCell (by omega) v⟩
theorem DSt.drew (h : DSt w B g c s cs wr) : DSt w B g c s cs wr.drew := ⟨h.1, h.2.1, h.2.2.1, h.2.2.2.drew⟩
theorem DSt.alloc (h : DSt w B g c s cs wr) (o : Obj) : DSt w B g c s cs (wr.alloc o) := ⟨h.1.alloc o, h.2.1.alloc o, h.2.2.1.alloc o, h.2.2.2.alloc h.2.2.2.size o⟩
theorem DSt.below (h : DSt w B g c s cs wr) (hR : w.heap.size < g) (hc : g < c) (hb : Below (c + 1) wr w1) : DSt w B g c s cs w1 := by
  obtain ⟨⟨A, n, k, l, a, x, h1, h2, h3, h4, h5⟩, hx, hy, ho⟩ := h
  exact ⟨⟨A, n, k, l, a, x, h1.below hb (by omega), h2.below (hb.mono (by omega)), h3, h4, h5⟩, hx.below hb (by omega), hy.below hb (by omega), ho.trans (hb.mono (by omega))⟩
end
theorem off2 {wr w1 : World} {g c n : Nat} {e : TypeId} {size : Nat} {v : Value} {xs : List Value} (h : wr.ownsRow (c + 1) e size v n xs) (hlt : g < c) (hg : wr.grownBy w1 (some g)) : w1.ownsRow (c + 1) e size v n xs :=
  h.kept hg (.inr fun e => by have := (h.lt g e).1; omega)
theorem rdL_step2 {α : Type} {rd : Rs → α × Rs} {N k : Nat} {pre : List α} {s0 : Rs} {r : List Fld} (h : rdL rd true N s0 = (pre ++ (rdL rd true (N - k) (some r)).1, (rdL rd true (N - k) (some r)).2)) (hlt : k < N) :
    rdL rd true N s0 = (pre ++ [(rd (some r)).1] ++ (rdL rd true (N - (k + 1)) (rd (some r)).2).1, (rdL rd true (N - (k + 1)) (rd (some r)).2).2) := by
  obtain ⟨m, hm⟩ : ∃ m, N - k = m + 1 := ⟨N - k - 1, by omega⟩
  rw [h, hm, show N - (k + 1) = m by omega, rdL, if_neg (by simp)]
  simp
theorem rdL_stop {α : Type} {rd : Rs → α × Rs} {m : Nat} {s : Rs} (h : m = 0 ∨ s = none) : rdL rd true m s = ([], s) := by
  rcases h with rfl | rfl
  · rfl
  · cases m with
    | zero => rfl
    | succ m => rw [rdL, if_pos (by simp)]
def DOpsRel (w : World) (B g c N : Nat) (L : Int) (s0 : Rs) (i : Value) (wr : World) : Prop :=
  ∃ (k : Nat) (pre : List Gp) (s : Rs) (A : Option Addr) (cp : Nat), k ≤ N ∧ i = .int .i64 k ∧ rdL (rdO mx mx) true N s0 = (pre ++ (rdL (rdO mx mx) true (N - k) s).1, (rdL (rdO mx mx) true (N - k) s).2) ∧
    wr.ownsRow (c + 1) 29 5 (.slice A k cp) k (ov pre) ∧ DSt w B g c s #[.int .i64 L, .slice A k cp, .slice none 0 0] wr
def DNtsRel (w : World) (B g c N : Nat) (L : Int) (l : List Gp) (A0 : Option Addr) (n0 c0 : Nat) (s0 : Rs) (i : Value) (wr : World) : Prop :=
  ∃ (k : Nat) (pre : List Nt) (s : Rs) (A : Option Addr) (cp : Nat), k ≤ N ∧ i = .int .i64 k ∧ rdL (rdM refB) true N s0 = (pre ++ (rdL (rdM refB) true (N - k) s).1, (rdL (rdM refB) true (N - k) s).2) ∧
    wr.ownsRow (c + 1) 29 5 (.slice A0 n0 c0) n0 (ov l) ∧ wr.ownsRow (c + 1) 27 7 (.slice A k cp) k (ntv pre) ∧ DSt w B g c s #[.int .i64 L, .slice A0 n0 c0, .slice A k cp] wr
/-- the reader's bad mark, and what it has before it -/
theorem RR.bad {w : World} {B g : Nat} {s : Rs} (h : RR w B g s) : (w.cell? ⟨g, 2, none⟩ = some (.bool true) ∧ s = none) ∨ (∃ r, w.cell? ⟨g, 2, none⟩ = some (.bool false) ∧ s = some r) := by
  obtain ⟨A, n, k, l, a, x, h1, h2, h3, h4, h5⟩ := h
  cases x with
  | true => exact .inl ⟨h1.cell 2, by rw [h5]; rfl⟩
  | false => exact .inr ⟨_, h1.cell 2, by rw [h5, if_neg (by simp)]⟩

/-- a note on its way, at block p: what is read into it; both rows apart from it -/
def NSt (w : World) (B g c : Nat) (s : Rs) (cs : Array Value) (p : Nat) (pc : Array Value) (vo : Value) (no : Nat) (xo : List Value) (vn : Value) (nn : Nat) (xn : List Value) (wr : World) : Prop :=
  DSt w B g c s cs wr ∧ Blk wr p 27 pc ∧ wr.ownsRow (c + 1) 29 5 vo no xo ∧ wr.ownsRow (c + 1) 27 7 vn nn xn ∧ c < p ∧ vo.ownBlock ≠ some p ∧ vn.ownBlock ≠ some p
section
variable {w wr w1 : World} {B g c p no nn : Nat} {s s' : Rs} {cs pc : Array Value} {vo vn : Value} {xo xn : List Value}
theorem NSt.call (h : NSt w B g c s cs p pc vo no xo vn nn xn wr) (hR : w.heap.size < g) (hc : g < c) (hr : RR w1 B g s') (hg : wr.grownBy w1 (some g)) : NSt w B g c s' cs p pc vo no xo vn nn xn w1 := by
  obtain ⟨h1, h2, h3, h4, h5, h6, h7⟩ := h
  exact ⟨h1.call hR hc hr hg, Blk.kept h2 hg (by omega), off2 h3 hc hg, off2 h4 hc hg, h5, h6, h7⟩
theorem NSt.store (h : NSt w B g c s cs p pc vo no xo vn nn xn wr) (hR : w.heap.size < g) (hc : g < c) (i : Nat) (v : Value) : NSt w B g c s cs p (pc.setIfInBounds i v) vo no xo vn nn xn (wr.setCell ⟨p, i, none⟩ v) := by
  obtain ⟨h1, h2, h3, h4, h5, h6, h7⟩ := h
  exact ⟨h1.far hR hc (by exact h5) v, h2.set_ i v, h3.kept (only_setCell (World.grownBy.refl _ (some p)) (.inl rfl) _) (.inr h6), h4.kept (only_setCell (World.grownBy.refl _ (some p)) (.inl rfl) _) (.inr h7), h5, h6, h7⟩
end
theorem four_on (w : World) (b : Nat) (v1 v2 v3 v4 : Value) : w.grownBy ((((w.setCell ⟨b, 1, none⟩ v1).setCell ⟨b, 2, none⟩ v2).setCell ⟨b, 3, none⟩ v3).setCell ⟨b, 4, none⟩ v4) (some b) := by
  have h0 := only_setCell (World.grownBy.refl w (some b)) (p := ⟨b, 1, none⟩) (.inl rfl) v1
  have h1 := only_setCell h0 (p := ⟨b, 2, none⟩) (.inl rfl) v2
  have h2 := only_setCell h1 (p := ⟨b, 3, none⟩) (.inl rfl) v3
  exact only_setCell h2 (p := ⟨b, 4, none⟩) (.inl rfl) v4

set_option maxHeartbeats 12800000 in
theorem refdecode_any (B : Nat) (A : Option Addr) (n c : Nat) (l : List UInt8) (w : World) (hr : Bytes w B A n c l) (hB : B ≤ w.heap.size) :
    Calls Try.prog 22 #[.slice A n c] w (ItO w (decI l)) := by
  have HR := Lib.hid hr
  clear hr
  have HX0 : Hid (Blk (w.alloc (.cells itz 25)) w.heap.size 25 itz) := Blk.new _ _ _
  have HB0 : Hid (Below w.heap.size w (w.alloc (.cells itz 25))) := (Below.refl _ _).alloc (Nat.le_refl _) _
  go_enter Try.func22, Try.ntmps22
  go_wp2_with fail
  refine (Field.refdecode_any B A n c l _ (HR.out.alloc hB _) (by simp; omega)).mono ?_
  rintro e w1 ⟨A1, n1, c1, rfl, hf1, hb1⟩
  have HX1 := Lib.hid (HX0.out.below hb1 HX0.out.lt)
  have HB1 := Lib.hid (held_two HB0.out hb1)
  have HF1 := Lib.hid hf1
  have hz1 : w.heap.size < w1.heap.size := HX1.out.lt
  clear hf1 hb1 HX0 HB0
  have q0 : w1.cell? ⟨w.heap.size, 0, none⟩ = some (.int .i64 0) := HX1.out.cell 0
  have q1 : w1.cell? ⟨w.heap.size, 1, none⟩ = some (.slice none 0 0) := HX1.out.cell 1
  have q2 : w1.cell? ⟨w.heap.size, 2, none⟩ = some (.slice none 0 0) := HX1.out.cell 2
  have r0 := HX1.out.frozen 0
  have r1 := HX1.out.frozen 1
  have r2 := HX1.out.frozen 2
  cases hd : dec l with
  | error k =>
    have hk0 : k ≠ 0 := by have := dec_why hd; omega
    have hk1 : ((k : Int) != 0) = true := by simp; omega
    have HD := Lib.hid (decI_err hd)
    clear hd hk0
    rw [show ((err (Except.error k : Except Nat (List Fld)) : Nat) : Int) = (k : Int) from rfl]
    go_wp2
    refine bodyPost_ret (v := .tuple #[itv 0 none 0 0 none 0 0, .int .i64 k]) (by simp [itv, results, Try.results22, go_sem, q0, q1, q2]) rfl ?_
    exact itO_no HD.out rfl (three_below HB1.out _ _ _)
  | ok fs =>
    have HD := Lib.hid hd
    rw [hd] at HF1
    have HF2 : Hid (Flds w1 w1.heap.size A1 n1 c1 fs) := HF1.out
    clear hd HF1 q0 q1 q2 r0 r1 r2
    rw [show ((err (Except.ok fs : Except Nat (List Fld)) : Nat) : Int) = 0 from rfl]
    obtain ⟨a, ha⟩ : ∃ a, a = rdN mx (some fs) := ⟨_, rfl⟩
    obtain ⟨n, hn⟩ : ∃ n, n = rdN (some 4096) a.2 := ⟨_, rfl⟩
    obtain ⟨d, hd⟩ : ∃ d, d = rdL (rdO mx mx) true n.1.toNat n.2 := ⟨_, rfl⟩
    obtain ⟨m, hm⟩ : ∃ m, m = rdN (some 256) d.2 := ⟨_, rfl⟩
    obtain ⟨e, he⟩ : ∃ e, e = rdL (rdM refB) true m.1.toNat m.2 := ⟨_, rfl⟩
    have HE : Hid (rdI mx mx refB true (some fs) = (⟨a.1, d.1, e.1⟩, e.2)) := by
      show _ = _
      rw [he, hm, hd, hn, ha]
      rfl
    have hn2 := rdN_range (show (0 : Int) ≤ 4096 by omega) a.2
    rw [← hn] at hn2
    have hm2 := rdN_range (show (0 : Int) ≤ 256 by omega) d.2
    rw [← hm] at hm2
    obtain ⟨N, hN⟩ : ∃ N : Nat, n.1 = N := ⟨n.1.toNat, by omega⟩
    obtain ⟨M, hM⟩ : ∃ M : Nat, m.1 = M := ⟨m.1.toNat, by omega⟩
    rw [hN, Int.toNat_natCast] at hd
    rw [hM, Int.toNat_natCast] at he
    rw [hN] at hn2
    rw [hM] at hm2
    have HA := Lib.hid ha
    have HNN := Lib.hid hn
    have HDD := Lib.hid hd
    have HMM := Lib.hid hm
    have HEE := Lib.hid he
    have HN := Lib.hid hN
    have HM := Lib.hid hM
    clear ha hn hd hm he hN hM
    go_wp2_with fail
    have HW2 : Hid (RR (w1.alloc (.cells #[.slice A1 n1 c1, .int .i64 0, .bool false] 84)) w1.heap.size w1.heap.size (some fs)) := ⟨A1, n1, c1, fs, 0, false, Blk.new _ _ _, HF2.out.alloc (Nat.le_refl _) _, Nat.zero_le _, Nat.le_refl _, rfl⟩
    refine (rint_any w1.heap.size w1.heap.size (some fs) 1099511627776 _ HW2.out).mono ?_
    rintro e3 w3 ⟨he3, hr3, hg3⟩
    rw [show ((1099511627776 : Nat) : Int) = 1099511627776 from rfl, ← HA.out] at he3 hr3
    subst he3
    have hz3 : w1.heap.size < w3.heap.size := hr3.lt
    have HT3 : Hid (DSt w w1.heap.size w1.heap.size w3.heap.size a.2 #[.int .i64 a.1, .slice none 0 0, .slice none 0 0] (w3.alloc (.cells #[.int .i64 a.1, .slice none 0 0, .slice none 0 0] 25))) :=
      ⟨hr3.alloc _, Blk.new _ _ _, (Blk.kept (HX1.out.alloc _) hg3 (by omega)).alloc _, ((HB1.out.alloc (by omega) _).trans ((below_of_only hg3 (by simp)).mono (by omega))).alloc (by omega) _⟩
    generalize hgg : w1.heap.size = g at hz1 hz3 HT3 ⊢
    clear hr3 hg3 HW2 HX1 HB1 HF2 hgg
    go_wp2_with fail
    refine (rint_any g g a.2 4096 _ HT3.out.1).mono ?_
    rintro e6 w6 ⟨he6, hr6, hg6⟩
    rw [show ((4096 : Nat) : Int) = 4096 from rfl, ← HNN.out, HN.out] at he6
    rw [show ((4096 : Nat) : Int) = 4096 from rfl, ← HNN.out] at hr6
    subst he6
    have HT6 : Hid (DSt w g g w3.heap.size n.2 #[.int .i64 a.1, .slice none 0 0, .slice none 0 0] w6) := HT3.out.call hz1 hz3 hr6 hg6
    generalize w3.heap.size = ct at hz3 HT6 ⊢
    clear hr6 hg6 HT3
    go_wp2
    go_loopw [9] (fun i wr => DOpsRel w g g ct N a.1 n.2 i wr) (fun i _ => N - (intOf i).toNat)
    case atStart => exact ⟨0, [], n.2, none, 0, by omega, rfl, rfl, World.ownsRow_nil _ _ _ _, HT6.out⟩
    case round =>
      obtain ⟨k, pre, s1, Ap, cp, hk, rfl, hrd, hown, hst⟩ := hrel
      have HRD := Lib.hid hrd
      have HO := Lib.hid hown
      have HT := Lib.hid hst
      have hbad := RR.bad hst.1
      have hctw : ct < wr.heap.size := hst.2.1.lt
      clear hrd hown hst HT6
      by_cases hgo : k < N ∧ s1 ≠ none
      · obtain ⟨hlk, hs1⟩ := hgo
        obtain ⟨r, kb, rfl⟩ : ∃ r, wr.cell? ⟨g, 2, none⟩ = some (.bool false) ∧ s1 = some r := by
          rcases hbad with ⟨_, h2⟩ | h2
          · exact absurd h2 hs1
          · exact h2
        clear hbad hs1
        have HST := Lib.hid (rdL_step2 HRD.out hlk)
        obtain ⟨a5, ha5⟩ : ∃ a5, a5 = rdN mx (some r) := ⟨_, rfl⟩
        obtain ⟨b5, hb5⟩ : ∃ b5, b5 = rdC mx a5.2 := ⟨_, rfl⟩
        have HRO : Hid (rdO mx mx (some r) = (⟨a5.1, b5.1.tbl, b5.1.key, b5.1.gone, b5.1.val⟩, b5.2)) := by show _ = _; rw [hb5, ha5]; rfl
        rw [HRO.out] at HST
        have HA5 := Lib.hid ha5
        have HB5 := Lib.hid hb5
        clear ha5 hb5 HRO
        go_wp2_with fail
        refine (rint_any g g (some r) 1099511627776 _ HT.out.1).mono ?_
        rintro e5 w5 ⟨he5, hr5, hg5⟩
        rw [show ((1099511627776 : Nat) : Int) = 1099511627776 from rfl, ← HA5.out] at he5 hr5
        subst he5
        have HT5 := Lib.hid (HT.out.call hz1 hz3 hr5 hg5)
        have HO5 := Lib.hid (off2 HO.out hz3 hg5)
        have hz5 : ct < w5.heap.size := HT5.out.2.1.lt
        clear hr5 hg5 kb
        go_wp2_with fail
        refine (rchange_any g g a5.2 _ (HT5.out.alloc _).1).mono ?_
        rintro e7 w7 ⟨he7, hr7, hg7⟩
        rw [← HB5.out] at he7 hr7
        subst he7
        have HT7 := Lib.hid ((HT5.out.alloc (.cells #[.int .i64 a5.1, .int .i64 0, .int .i64 0, .bool false, .string ⟨#[]⟩] 29)).call hz1 hz3 hr7 hg7)
        have HO7 := Lib.hid (off2 (own_keep HO5.out ((Below.refl _ _).alloc (Nat.le_refl _) (.cells #[.int .i64 a5.1, .int .i64 0, .int .i64 0, .bool false, .string ⟨#[]⟩] 29))) hz3 hg7)
        have hP7 : Blk w7 w5.heap.size 29 #[.int .i64 a5.1, .int .i64 0, .int .i64 0, .bool false, .string ⟨#[]⟩] := Blk.kept (Blk.new w5 _ _) hg7 (by omega)
        have hne5 : (Value.slice Ap k cp).ownBlock ≠ some w5.heap.size := fun e => by have := (HO5.out.lt _ e).2; omega
        have HP7 := Lib.hid hP7
        have hz7 : w5.heap.size < w7.heap.size := hP7.lt
        generalize w5.heap.size = p1 at hP7 HP7 hz5 hz7 hne5 ⊢
        clear hr7 hg7 HT5 HO5 hP7
        unfold chv
        obtain ⟨⟨ft, fk, fg, fv⟩, fr⟩ := b5
        dsimp only at HST ⊢
        go_upto_region 12 with fail
        have hP8 : Blk (w7.alloc (.cells #[.int .i64 ft, .int .i64 fk, .bool fg, .string fv] 63)) p1 29 #[.int .i64 a5.1, .int .i64 0, .int .i64 0, .bool false, .string ⟨#[]⟩] := HP7.out.alloc _
        have hQ8 : Blk (w7.alloc (.cells #[.int .i64 ft, .int .i64 fk, .bool fg, .string fv] 63)) w7.heap.size 63 #[.int .i64 ft, .int .i64 fk, .bool fg, .string fv] := Blk.new _ _ _
        have HT8 := Lib.hid (HT7.out.alloc (.cells #[.int .i64 ft, .int .i64 fk, .bool fg, .string fv] 63))
        have HO8 := Lib.hid (own_keep HO7.out ((Below.refl _ _).alloc (Nat.le_refl _) (.cells #[.int .i64 ft, .int .i64 fk, .bool fg, .string fv] 63)))
        generalize hV : (w7.alloc (.cells #[.int .i64 ft, .int .i64 fk, .bool fg, .string fv] 63)) = V at hP8 hQ8 HT8 HO8 ⊢
        generalize w7.heap.size = p2 at hQ8 hz7 ⊢
        have g0 : V.cell? ⟨p1, 0, none⟩ = some (.int .i64 a5.1) := hP8.cell 0
        have g1 : V.cell? ⟨p1, 1, none⟩ = some (.int .i64 0) := hP8.cell 1
        have g2 : V.cell? ⟨p1, 2, none⟩ = some (.int .i64 0) := hP8.cell 2
        have g3 : V.cell? ⟨p1, 3, none⟩ = some (.bool false) := hP8.cell 3
        have g4 : V.cell? ⟨p1, 4, none⟩ = some (.string ⟨#[]⟩) := hP8.cell 4
        have i0 : V.cell? ⟨p2, 0, none⟩ = some (.int .i64 ft) := hQ8.cell 0
        have i1 : V.cell? ⟨p2, 1, none⟩ = some (.int .i64 fk) := hQ8.cell 1
        have i2 : V.cell? ⟨p2, 2, none⟩ = some (.bool fg) := hQ8.cell 2
        have i3 : V.cell? ⟨p2, 3, none⟩ = some (.string fv) := hQ8.cell 3
        have j1 := hP8.frozen 1
        have j2 := hP8.frozen 2
        have j3 := hP8.frozen 3
        have j4 := hP8.frozen 4
        have hpq : p1 ≠ p2 := by omega
        have hqp : p2 ≠ p1 := by omega
        have hpV : p1 < V.heap.size := hP8.lt
        have hqV : p2 < V.heap.size := hQ8.lt
        have HP8 := Lib.hid hP8
        clear hV hP8 hQ8 HT7 HO7 HP7
        go_region
        have HP9 : Hid (Blk (((((V.setCell ⟨p1, 1, none⟩ (.int .i64 ft)).setCell ⟨p1, 2, none⟩ (.int .i64 fk)).setCell ⟨p1, 3, none⟩ (.bool fg)).setCell ⟨p1, 4, none⟩ (.string fv)).drew) p1 29 #[.int .i64 a5.1, .int .i64 ft, .int .i64 fk, .bool fg, .string fv]) := (((HP8.out.set_ 1 (.int .i64 ft)).set_ 2 (.int .i64 fk)).set_ 3 (.bool fg)).set_ 4 (.string fv)
        have HT9 : Hid (DSt w g g ct fr #[.int .i64 a.1, .slice Ap k cp, .slice none 0 0] (((((V.setCell ⟨p1, 1, none⟩ (.int .i64 ft)).setCell ⟨p1, 2, none⟩ (.int .i64 fk)).setCell ⟨p1, 3, none⟩ (.bool fg)).setCell ⟨p1, 4, none⟩ (.string fv)).drew)) := ((((HT8.out.far hz1 hz3 (by exact hz5) _).far hz1 hz3 (by exact hz5) _).far hz1 hz3 (by exact hz5) _).far hz1 hz3 (by exact hz5) _).drew
        have HO9 : Hid ((((((V.setCell ⟨p1, 1, none⟩ (.int .i64 ft)).setCell ⟨p1, 2, none⟩ (.int .i64 fk)).setCell ⟨p1, 3, none⟩ (.bool fg)).setCell ⟨p1, 4, none⟩ (.string fv)).drew).ownsRow (ct + 1) 29 5 (.slice Ap k cp) k (ov pre)) := by
          have h9 := HO8.out.kept (four_on V p1 (.int .i64 ft) (.int .i64 fk) (.bool fg) (.string fv)) (.inr hne5)
          exact h9
        generalize (((((V.setCell ⟨p1, 1, none⟩ (.int .i64 ft)).setCell ⟨p1, 2, none⟩ (.int .i64 fk)).setCell ⟨p1, 3, none⟩ (.bool fg)).setCell ⟨p1, 4, none⟩ (.string fv)).drew) = W9 at HP9 HT9 HO9 ⊢
        clear g0 g1 g2 g3 g4 i0 i1 i2 i3 j1 j2 j3 j4 HP8 HT8 HO8 hpV hqV
        have g0 : W9.cell? ⟨p1, 0, none⟩ = some (.int .i64 a5.1) := HP9.out.cell 0
        have g1 : W9.cell? ⟨p1, 1, none⟩ = some (.int .i64 ft) := HP9.out.cell 1
        have g2 : W9.cell? ⟨p1, 2, none⟩ = some (.int .i64 fk) := HP9.out.cell 2
        have g3 : W9.cell? ⟨p1, 3, none⟩ = some (.bool fg) := HP9.out.cell 3
        have g4 : W9.cell? ⟨p1, 4, none⟩ = some (.string fv) := HP9.out.cell 4
        have y1 : W9.cell? ⟨ct, 1, none⟩ = some (.slice Ap k cp) := HT9.out.2.1.cell 1
        have hz9 : ct < W9.heap.size := HT9.out.2.1.lt
        obtain ⟨f, hf⟩ : ∃ f : Gp, f = ⟨a5.1, ft, fk, fg, fv⟩ := ⟨_, rfl⟩
        rw [← hf] at HST
        have HF := Lib.hid hf
        clear hf
        go_wp2_with (first
          | (at_builtin
             refine wpList_append_row rfl (.tmp 61) (.tmp 63) rfl oel (ct + 1) _ k (ov pre) rfl (own_keep HO9.out ((Below.refl _ _).alloc (Nat.le_refl _) _)) _ _ 1 1 (ov [⟨a5.1, ft, fk, fg, fv⟩]) rfl (oone W9 ⟨a5.1, ft, fk, fg, fv⟩ rfl) (ov_one _) (by omega) (by omega) (by simp; omega) ?_
             intro A6 c6 w6 hown6 _ hb6
             rw [← HF.out, ← ov_append] at hown6
             have HT10 := Lib.hid ((HT9.out.alloc (.cells #[.int .i64 a5.1, .int .i64 ft, .int .i64 fk, .bool fg, .string fv] 29)).below hz1 hz3 hb6)
             have HO10 := Lib.hid hown6
             have z1 : w6.cell? ⟨ct, 1, none⟩ = some (.slice Ap k cp) := HT10.out.2.1.cell 1
             have fz1 := HT10.out.2.1.frozen 1
             clear hown6 hb6)
          | fail)
        have HS6 : Hid (DSt w g g ct fr #[.int .i64 a.1, .slice A6 (k + 1) c6, .slice none 0 0] (w6.setCell ⟨ct, 1, none⟩ (.slice A6 (k + 1) c6))) := HT10.out.store hz1 hz3 1 _
        have HO11 : Hid ((w6.setCell ⟨ct, 1, none⟩ (.slice A6 (k + 1) c6)).ownsRow (ct + 1) 29 5 (.slice A6 (k + 1) c6) (k + 1) (ov (pre ++ [f]))) :=
          HO10.out.kept (only_setCell (World.grownBy.refl _ (some ct)) (.inl rfl) _) (.inr fun e => by have := (HO10.out.lt _ e).1; omega)
        go_roundw
        case rel => exact ⟨k + 1, pre ++ [f], fr, A6, c6, by omega, by go_num, HST.out, HO11.out, HS6.out⟩
        case measure => simp [intOf]; omega
      · have HD1 : Hid (d = (pre, s1)) := by
          show d = _
          rw [HDD.out, HRD.out, rdL_stop (by
            by_cases h : k < N
            · exact .inr (Classical.byContradiction fun e => hgo ⟨h, e⟩)
            · exact .inl (by omega))]
          simp
        have HP : Hid (pre = d.1) := by
          show _ = _
          rw [HD1.out]
        have hS : Hid (s1 = d.2) := by
          show _ = _
          rw [HD1.out]
        have HTx := Lib.hid HT.out
        rw [hS.out] at HTx
        have hkb : k < N → wr.cell? ⟨g, 2, none⟩ = some (.bool true) := fun h => by
          rcases hbad with ⟨h1, _⟩ | ⟨r, _, h2⟩
          · exact h1
          · exact absurd (by rw [h2]; simp) (fun e => hgo ⟨h, e⟩)
        have hw2 : ∀ x : Bool, (k < N ∧ wr.cell? ⟨g, 2, none⟩ = some (.bool true)) ∨ (¬ k < N ∧ True) := fun _ => by
          by_cases h : k < N
          · exact .inl ⟨h, hkb h⟩
          · exact .inr ⟨h, trivial⟩
        have hw3 := hw2 true
        have hkN := hk
        clear HT HRD hS hkb hw2 hbad hgo HD1
        rcases hw3 with ⟨hlk, kb⟩ | ⟨hlk, kb⟩
        all_goals (
          go_wp2_with fail
          refine (rint_any g g d.2 256 _ HTx.out.1).mono ?_
          rintro e7 w7 ⟨he7, hr7, hg7⟩
          rw [show ((256 : Nat) : Int) = 256 from rfl, ← HMM.out, HM.out] at he7
          rw [show ((256 : Nat) : Int) = 256 from rfl, ← HMM.out] at hr7
          subst he7
          have HT7 := Lib.hid (HTx.out.call hz1 hz3 hr7 hg7)
          have HO7 := Lib.hid (off2 HO.out hz3 hg7)
          clear hr7 hg7 kb hk
          go_wp2
          go_loopw [12] (fun i wr => DNtsRel w g g ct M a.1 pre Ap k cp m.2 i wr) (fun i _ => M - (intOf i).toNat)
          case atStart => exact ⟨0, [], m.2, none, 0, by omega, rfl, rfl, HO7.out, World.ownsRow_nil _ _ _ _, HT7.out⟩
          case round =>
            obtain ⟨j, pre2, s2, A2, cp2, hj, rfl, hrd, hownc, hown, hst⟩ := hrel
            have HRD := Lib.hid hrd
            have HOC := Lib.hid hownc
            have HO2 := Lib.hid hown
            have HT := Lib.hid hst
            have hbad := RR.bad hst.1
            have hctr : ct < wr.heap.size := hst.2.1.lt
            clear hrd hown hownc hst HT7 HO7
            by_cases hgo : j < M ∧ s2 ≠ none
            · obtain ⟨hlj, hs1⟩ := hgo
              obtain ⟨r, kb, rfl⟩ : ∃ r, wr.cell? ⟨g, 2, none⟩ = some (.bool false) ∧ s2 = some r := by
                rcases hbad with ⟨_, h2⟩ | h2
                · exact absurd h2 hs1
                · exact h2
              clear hbad hs1
              have HST := Lib.hid (rdL_step2 HRD.out hlj)
              obtain ⟨z0, hz_0⟩ : ∃ z0, z0 = rdN (some 2) (some r) := ⟨_, rfl⟩
              obtain ⟨z1, hz_1⟩ : ∃ z1, z1 = rdN (some 64) z0.2 := ⟨_, rfl⟩
              obtain ⟨z2, hz_2⟩ : ∃ z2, z2 = rdN (some 8) z1.2 := ⟨_, rfl⟩
              obtain ⟨z3, hz_3⟩ : ∃ z3, z3 = rdN (some 8) z2.2 := ⟨_, rfl⟩
              obtain ⟨z4, hz_4⟩ : ∃ z4, z4 = rdN (mx) z3.2 := ⟨_, rfl⟩
              obtain ⟨z5, hz_5⟩ : ∃ z5, z5 = rdN (mx) z4.2 := ⟨_, rfl⟩
              obtain ⟨z6, hz_6⟩ : ∃ z6, z6 = rdN (some 1) z5.2 := ⟨_, rfl⟩
              have HRM : Hid (rdM refB (some r) = (⟨z0.1, z1.1, z2.1, z3.1, z4.1, z5.1, z6.1 == 1⟩, z6.2)) := by show _ = _; rw [hz_6, hz_5, hz_4, hz_3, hz_2, hz_1, hz_0]; rfl
              rw [HRM.out] at HST
              have HZ0 := Lib.hid hz_0
              have HZ1 := Lib.hid hz_1
              have HZ2 := Lib.hid hz_2
              have HZ3 := Lib.hid hz_3
              have HZ4 := Lib.hid hz_4
              have HZ5 := Lib.hid hz_5
              have HZ6 := Lib.hid hz_6
              clear HRM hz_0 hz_1 hz_2 hz_3 hz_4 hz_5 hz_6
              go_wp2_with fail
              refine (rint_any g g (some r) 2 _ HT.out.1).mono ?_
              rintro e8 v0 ⟨he8, hr8, hg8⟩
              rw [show ((2 : Nat) : Int) = 2 from rfl, ← HZ0.out] at he8 hr8
              subst he8
              have hctv : ct < v0.heap.size := (HT.out.call hz1 hz3 hr8 hg8).2.1.lt
              have HA0 : Hid (NSt w g g ct z0.2 #[.int .i64 a.1, .slice Ap k cp, .slice A2 j cp2] v0.heap.size #[.int .i64 z0.1, .int .i64 0, .int .i64 0, .int .i64 0, .int .i64 0, .int .i64 0, .bool false] (.slice Ap k cp) k (ov pre) (.slice A2 j cp2) j (ntv pre2) (v0.alloc (.cells #[.int .i64 z0.1, .int .i64 0, .int .i64 0, .int .i64 0, .int .i64 0, .int .i64 0, .bool false] 27))) := by
                have h1 := off2 HOC.out hz3 hg8
                have h2 := off2 HO2.out hz3 hg8
                exact ⟨(HT.out.call hz1 hz3 hr8 hg8).alloc _, Blk.new _ _ _, own_keep h1 ((Below.refl _ _).alloc (Nat.le_refl _) _), own_keep h2 ((Below.refl _ _).alloc (Nat.le_refl _) _), hctv, fun e => by have := (h1.lt _ e).2; omega, fun e => by have := (h2.lt _ e).2; omega⟩
              clear hr8 hg8 kb
              go_wp2_with fail
              generalize hpp : v0.heap.size = p1 at HA0 hctv ⊢
              clear hpp
              refine (rint_any g g z0.2 64 _ HA0.out.1.1).mono ?_
              rintro e8 v1 ⟨he8, hr8, hg8⟩
              rw [show ((64 : Nat) : Int) = 64 from rfl, ← HZ1.out] at he8 hr8
              subst he8
              have HC1 : Hid (NSt w g g ct z1.2 #[.int .i64 a.1, .slice Ap k cp, .slice A2 j cp2] p1 #[.int .i64 z0.1, .int .i64 0, .int .i64 0, .int .i64 0, .int .i64 0, .int .i64 0, .bool false] (.slice Ap k cp) k (ov pre) (.slice A2 j cp2) j (ntv pre2) v1) := HA0.out.call hz1 hz3 hr8 hg8
              have kc1 : v1.cell? ⟨p1, 1, none⟩ = some (.int .i64 0) := HC1.out.2.1.cell 1
              have fc1 := HC1.out.2.1.frozen 1
              clear hr8 hg8 HA0
              have HB1 : Hid (NSt w g g ct z1.2 #[.int .i64 a.1, .slice Ap k cp, .slice A2 j cp2] p1 #[.int .i64 z0.1, .int .i64 z1.1, .int .i64 0, .int .i64 0, .int .i64 0, .int .i64 0, .bool false] (.slice Ap k cp) k (ov pre) (.slice A2 j cp2) j (ntv pre2) (v1.setCell ⟨p1, 1, none⟩ (.int .i64 z1.1))) := HC1.out.store hz1 hz3 1 (.int .i64 z1.1)
              go_wp2_with fail
              refine (rint_any g g z1.2 8 _ HB1.out.1.1).mono ?_
              rintro e8 v2 ⟨he8, hr8, hg8⟩
              rw [show ((8 : Nat) : Int) = 8 from rfl, ← HZ2.out] at he8 hr8
              subst he8
              have HC2 : Hid (NSt w g g ct z2.2 #[.int .i64 a.1, .slice Ap k cp, .slice A2 j cp2] p1 #[.int .i64 z0.1, .int .i64 z1.1, .int .i64 0, .int .i64 0, .int .i64 0, .int .i64 0, .bool false] (.slice Ap k cp) k (ov pre) (.slice A2 j cp2) j (ntv pre2) v2) := HB1.out.call hz1 hz3 hr8 hg8
              have kc2 : v2.cell? ⟨p1, 2, none⟩ = some (.int .i64 0) := HC2.out.2.1.cell 2
              have fc2 := HC2.out.2.1.frozen 2
              clear hr8 hg8 HB1 HC1 kc1 fc1
              have HB2 : Hid (NSt w g g ct z2.2 #[.int .i64 a.1, .slice Ap k cp, .slice A2 j cp2] p1 #[.int .i64 z0.1, .int .i64 z1.1, .int .i64 z2.1, .int .i64 0, .int .i64 0, .int .i64 0, .bool false] (.slice Ap k cp) k (ov pre) (.slice A2 j cp2) j (ntv pre2) (v2.setCell ⟨p1, 2, none⟩ (.int .i64 z2.1))) := HC2.out.store hz1 hz3 2 (.int .i64 z2.1)
              go_wp2_with fail
              refine (rint_any g g z2.2 8 _ HB2.out.1.1).mono ?_
              rintro e8 v3 ⟨he8, hr8, hg8⟩
              rw [show ((8 : Nat) : Int) = 8 from rfl, ← HZ3.out] at he8 hr8
              subst he8
              have HC3 : Hid (NSt w g g ct z3.2 #[.int .i64 a.1, .slice Ap k cp, .slice A2 j cp2] p1 #[.int .i64 z0.1, .int .i64 z1.1, .int .i64 z2.1, .int .i64 0, .int .i64 0, .int .i64 0, .bool false] (.slice Ap k cp) k (ov pre) (.slice A2 j cp2) j (ntv pre2) v3) := HB2.out.call hz1 hz3 hr8 hg8
              have kc3 : v3.cell? ⟨p1, 3, none⟩ = some (.int .i64 0) := HC3.out.2.1.cell 3
              have fc3 := HC3.out.2.1.frozen 3
              clear hr8 hg8 HB2 HC2 kc2 fc2
              have HB3 : Hid (NSt w g g ct z3.2 #[.int .i64 a.1, .slice Ap k cp, .slice A2 j cp2] p1 #[.int .i64 z0.1, .int .i64 z1.1, .int .i64 z2.1, .int .i64 z3.1, .int .i64 0, .int .i64 0, .bool false] (.slice Ap k cp) k (ov pre) (.slice A2 j cp2) j (ntv pre2) (v3.setCell ⟨p1, 3, none⟩ (.int .i64 z3.1))) := HC3.out.store hz1 hz3 3 (.int .i64 z3.1)
              go_wp2_with fail
              refine (rint_any g g z3.2 1099511627776 _ HB3.out.1.1).mono ?_
              rintro e8 v4 ⟨he8, hr8, hg8⟩
              rw [show ((1099511627776 : Nat) : Int) = 1099511627776 from rfl, ← HZ4.out] at he8 hr8
              subst he8
              have HC4 : Hid (NSt w g g ct z4.2 #[.int .i64 a.1, .slice Ap k cp, .slice A2 j cp2] p1 #[.int .i64 z0.1, .int .i64 z1.1, .int .i64 z2.1, .int .i64 z3.1, .int .i64 0, .int .i64 0, .bool false] (.slice Ap k cp) k (ov pre) (.slice A2 j cp2) j (ntv pre2) v4) := HB3.out.call hz1 hz3 hr8 hg8
              have kc4 : v4.cell? ⟨p1, 4, none⟩ = some (.int .i64 0) := HC4.out.2.1.cell 4
              have fc4 := HC4.out.2.1.frozen 4
              clear hr8 hg8 HB3 HC3 kc3 fc3
              have HB4 : Hid (NSt w g g ct z4.2 #[.int .i64 a.1, .slice Ap k cp, .slice A2 j cp2] p1 #[.int .i64 z0.1, .int .i64 z1.1, .int .i64 z2.1, .int .i64 z3.1, .int .i64 z4.1, .int .i64 0, .bool false] (.slice Ap k cp) k (ov pre) (.slice A2 j cp2) j (ntv pre2) (v4.setCell ⟨p1, 4, none⟩ (.int .i64 z4.1))) := HC4.out.store hz1 hz3 4 (.int .i64 z4.1)
              go_wp2_with fail
              refine (rint_any g g z4.2 1099511627776 _ HB4.out.1.1).mono ?_
              rintro e8 v5 ⟨he8, hr8, hg8⟩
              rw [show ((1099511627776 : Nat) : Int) = 1099511627776 from rfl, ← HZ5.out] at he8 hr8
              subst he8
              have HC5 : Hid (NSt w g g ct z5.2 #[.int .i64 a.1, .slice Ap k cp, .slice A2 j cp2] p1 #[.int .i64 z0.1, .int .i64 z1.1, .int .i64 z2.1, .int .i64 z3.1, .int .i64 z4.1, .int .i64 0, .bool false] (.slice Ap k cp) k (ov pre) (.slice A2 j cp2) j (ntv pre2) v5) := HB4.out.call hz1 hz3 hr8 hg8
              have kc5 : v5.cell? ⟨p1, 5, none⟩ = some (.int .i64 0) := HC5.out.2.1.cell 5
              have fc5 := HC5.out.2.1.frozen 5
              clear hr8 hg8 HB4 HC4 kc4 fc4
              have HB5 : Hid (NSt w g g ct z5.2 #[.int .i64 a.1, .slice Ap k cp, .slice A2 j cp2] p1 #[.int .i64 z0.1, .int .i64 z1.1, .int .i64 z2.1, .int .i64 z3.1, .int .i64 z4.1, .int .i64 z5.1, .bool false] (.slice Ap k cp) k (ov pre) (.slice A2 j cp2) j (ntv pre2) (v5.setCell ⟨p1, 5, none⟩ (.int .i64 z5.1))) := HC5.out.store hz1 hz3 5 (.int .i64 z5.1)
              go_wp2_with fail
              refine (rflag_any g g z5.2 _ HB5.out.1.1).mono ?_
              rintro e8 v6 ⟨he8, hr8, hg8⟩
              rw [← HZ6.out] at he8 hr8
              subst he8
              have HC6 : Hid (NSt w g g ct z6.2 #[.int .i64 a.1, .slice Ap k cp, .slice A2 j cp2] p1 #[.int .i64 z0.1, .int .i64 z1.1, .int .i64 z2.1, .int .i64 z3.1, .int .i64 z4.1, .int .i64 z5.1, .bool false] (.slice Ap k cp) k (ov pre) (.slice A2 j cp2) j (ntv pre2) v6) := HB5.out.call hz1 hz3 hr8 hg8
              have kc6 : v6.cell? ⟨p1, 6, none⟩ = some (.bool false) := HC6.out.2.1.cell 6
              have fc6 := HC6.out.2.1.frozen 6
              clear hr8 hg8 HB5 HC5 kc5 fc5
              generalize hzz : (z6.1 == 1) = zz at HST ⊢
              clear hzz
              have HB6 : Hid (NSt w g g ct z6.2 #[.int .i64 a.1, .slice Ap k cp, .slice A2 j cp2] p1 #[.int .i64 z0.1, .int .i64 z1.1, .int .i64 z2.1, .int .i64 z3.1, .int .i64 z4.1, .int .i64 z5.1, .bool zz] (.slice Ap k cp) k (ov pre) (.slice A2 j cp2) j (ntv pre2) (v6.setCell ⟨p1, 6, none⟩ (.bool zz))) := HC6.out.store hz1 hz3 6 (.bool zz)
              have gg0 : v6.cell? ⟨p1, 0, none⟩ = some (.int .i64 z0.1) := HC6.out.2.1.cell 0
              have gg1 : v6.cell? ⟨p1, 1, none⟩ = some (.int .i64 z1.1) := HC6.out.2.1.cell 1
              have gg2 : v6.cell? ⟨p1, 2, none⟩ = some (.int .i64 z2.1) := HC6.out.2.1.cell 2
              have gg3 : v6.cell? ⟨p1, 3, none⟩ = some (.int .i64 z3.1) := HC6.out.2.1.cell 3
              have gg4 : v6.cell? ⟨p1, 4, none⟩ = some (.int .i64 z4.1) := HC6.out.2.1.cell 4
              have gg5 : v6.cell? ⟨p1, 5, none⟩ = some (.int .i64 z5.1) := HC6.out.2.1.cell 5
              have hp6 : p1 < v6.heap.size := HC6.out.2.1.lt
              have yy2 : v6.cell? ⟨ct, 2, none⟩ = some (.slice A2 j cp2) := HC6.out.1.2.1.cell 2
              have hctne : ct ≠ p1 := by omega
              have hctne2 : p1 ≠ ct := by omega
              have hct6 : ct < v6.heap.size := by omega
              obtain ⟨f, hf⟩ : ∃ f : Nt, f = ⟨z0.1, z1.1, z2.1, z3.1, z4.1, z5.1, zz⟩ := ⟨_, rfl⟩
              rw [← hf] at HST
              have HF := Lib.hid hf
              clear hf
              go_wp2_with (first
                | (at_builtin
                   refine wpList_append_row rfl (.tmp 102) (.tmp 104) rfl ntel (ct + 1) _ j (ntv pre2) rfl (own_keep HB6.out.2.2.2.1 ((Below.refl _ _).alloc (Nat.le_refl _) _)) _ _ 1 1 (ntv [⟨z0.1, z1.1, z2.1, z3.1, z4.1, z5.1, zz⟩]) rfl (ntone (v6.setCell ⟨p1, 6, none⟩ (.bool zz)) ⟨z0.1, z1.1, z2.1, z3.1, z4.1, z5.1, zz⟩ (by simp)) (ntv_one _) (by omega) (by omega) (by simp; omega) ?_
                   intro A6 c6 w6 hown6 hg6 hb6
                   rw [← HF.out, ← ntv_append] at hown6
                   have HT10 := Lib.hid ((HB6.out.1.alloc (.cells #[.int .i64 z0.1, .int .i64 z1.1, .int .i64 z2.1, .int .i64 z3.1, .int .i64 z4.1, .int .i64 z5.1, .bool zz] 27)).below hz1 hz3 hb6)
                   have HO10 := Lib.hid hown6
                   have HOC10 := Lib.hid ((own_keep HB6.out.2.2.1 ((Below.refl _ _).alloc (Nat.le_refl _) (.cells #[.int .i64 z0.1, .int .i64 z1.1, .int .i64 z2.1, .int .i64 z3.1, .int .i64 z4.1, .int .i64 z5.1, .bool zz] 27))).kept hg6.1 (own_types HB6.out.2.2.1 HB6.out.2.2.2.1 (by decide)))
                   have zz1 : w6.cell? ⟨ct, 2, none⟩ = some (.slice A2 j cp2) := HT10.out.2.1.cell 2
                   have fzz1 := HT10.out.2.1.frozen 2
                   clear hown6 hb6 hg6)
                | fail)
              have HS6 : Hid (DSt w g g ct z6.2 #[.int .i64 a.1, .slice Ap k cp, .slice A6 (j + 1) c6] (w6.setCell ⟨ct, 2, none⟩ (.slice A6 (j + 1) c6))) := HT10.out.store hz1 hz3 2 _
              have HO11 : Hid ((w6.setCell ⟨ct, 2, none⟩ (.slice A6 (j + 1) c6)).ownsRow (ct + 1) 27 7 (.slice A6 (j + 1) c6) (j + 1) (ntv (pre2 ++ [f]))) :=
                HO10.out.kept (only_setCell (World.grownBy.refl _ (some ct)) (.inl rfl) _) (.inr fun e => by have := (HO10.out.lt _ e).1; omega)
              have HOC11 : Hid ((w6.setCell ⟨ct, 2, none⟩ (.slice A6 (j + 1) c6)).ownsRow (ct + 1) 29 5 (.slice Ap k cp) k (ov pre)) :=
                HOC10.out.kept (only_setCell (World.grownBy.refl _ (some ct)) (.inl rfl) _) (.inr fun e => by have := (HOC10.out.lt _ e).1; omega)
              go_roundw
              case rel => exact ⟨j + 1, pre2 ++ [f], z6.2, A6, c6, by omega, by go_num, HST.out, HOC11.out, HO11.out, HS6.out⟩
              case measure => simp [intOf]; omega
            · have HD2 : Hid (e = (pre2, s2)) := by
                show e = _
                rw [HEE.out, HRD.out, rdL_stop (by
                  by_cases h : j < M
                  · exact .inr (Classical.byContradiction fun e => hgo ⟨h, e⟩)
                  · exact .inl (by omega))]
                simp
              have hS2 : Hid (s2 = e.2) := by
                show _ = _
                rw [HD2.out]
              have HTy := Lib.hid HT.out
              rw [hS2.out] at HTy
              have hkb : j < M → wr.cell? ⟨g, 2, none⟩ = some (.bool true) := fun h => by
                rcases hbad with ⟨h1, _⟩ | ⟨r, _, h2⟩
                · exact h1
                · exact absurd (by rw [h2]; simp) (fun e => hgo ⟨h, e⟩)
              have hw2 : ∀ x : Bool, (j < M ∧ wr.cell? ⟨g, 2, none⟩ = some (.bool true)) ∨ (¬ j < M ∧ True) := fun _ => by
                by_cases h : j < M
                · exact .inl ⟨h, hkb h⟩
                · exact .inr ⟨h, trivial⟩
              have hw3 := hw2 true
              clear HT HRD hS2 hkb hw2 hbad hgo hj
              rcases hw3 with ⟨hlj, kb⟩ | ⟨hlj, kb⟩
              all_goals (
                go_wp2_with fail
                refine (rend_any g g e.2 _ HTy.out.1).mono ?_
                rintro e8 W ⟨rfl, kk, hW⟩
                have HX8 : Hid (Blk W w.heap.size 25 itz) := by rw [hW]; exact HTy.out.2.2.1.drewN kk
                have HC8 : Hid (Blk W ct 25 #[.int .i64 a.1, .slice Ap k cp, .slice A2 j cp2]) := by rw [hW]; exact HTy.out.2.1.drewN kk
                have HB8 : Hid (Below w.heap.size w W) := by rw [hW]; exact below_drewN HTy.out.2.2.2 kk
                have HOC8 : Hid (W.ownsRow (ct + 1) 29 5 (.slice Ap k cp) k (ov pre)) := by rw [hW]; exact HOC.out
                have HOS8 : Hid (W.ownsRow (ct + 1) 27 7 (.slice A2 j cp2) j (ntv pre2)) := by rw [hW]; exact HO2.out
                clear hW kb
                have hR8 : w.heap.size < W.heap.size := HX8.out.lt
                cases hend : isEnd e.2 with
                | false =>
                  have HE9 := Lib.hid (decR_none HD.out (decF_off (by rw [HE.out]; intro h; dsimp only at h; rw [h] at hend; cases hend)))
                  clear hend
                  have qb0 : W.cell? ⟨w.heap.size, 0, none⟩ = some (.int .i64 0) := HX8.out.cell 0
                  have qb1 : W.cell? ⟨w.heap.size, 1, none⟩ = some (.slice none 0 0) := HX8.out.cell 1
                  have qb2 : W.cell? ⟨w.heap.size, 2, none⟩ = some (.slice none 0 0) := HX8.out.cell 2
                  have rb0 := HX8.out.frozen 0
                  have rb1 := HX8.out.frozen 1
                  have rb2 := HX8.out.frozen 2
                  go_wp2
                  refine bodyPost_ret (v := .tuple #[itv 0 none 0 0 none 0 0, .int .i64 3]) (by simp [itv, results, Try.results22, go_sem, qb0, qb1, qb2]) rfl ?_
                  exact itO_no HE9.out rfl (three_below HB8.out _ _ _)
                | true =>
                  have hem : e.2 = some [] := isEnd_some hend
                  have HEM := Lib.hid hem
                  clear hend hem
                  have t0 : W.cell? ⟨ct, 0, none⟩ = some (.int .i64 a.1) := HC8.out.cell 0
                  have t1 : W.cell? ⟨ct, 1, none⟩ = some (.slice Ap k cp) := HC8.out.cell 1
                  have t2 : W.cell? ⟨ct, 2, none⟩ = some (.slice A2 j cp2) := HC8.out.cell 2
                  go_wp2_with fail
                  refine (refmay_any W.heap.size a.1 Ap k cp pre A2 j cp2 pre2 _ (Row.of_own HOC8.out) (Row.of_own HOS8.out) (Nat.le_refl _)).mono ?_
                  rintro e9 w9 ⟨rfl, hb9⟩
                  have HX9 := Lib.hid (HX8.out.below hb9 hR8)
                  have HC9 := Lib.hid (HC8.out.below hb9 HC8.out.lt)
                  have HB9 := Lib.hid (held_two HB8.out hb9)
                  have HOC9 := Lib.hid (own_keep HOC8.out hb9)
                  have HOS9 := Lib.hid (own_keep HOS8.out hb9)
                  have u0 : w9.cell? ⟨ct, 0, none⟩ = some (.int .i64 a.1) := HC9.out.cell 0
                  have u1 : w9.cell? ⟨ct, 1, none⟩ = some (.slice Ap k cp) := HC9.out.cell 1
                  have u2 : w9.cell? ⟨ct, 2, none⟩ = some (.slice A2 j cp2) := HC9.out.cell 2
                  clear hb9 t0 t1 t2
                  have qc0 : w9.cell? ⟨w.heap.size, 0, none⟩ = some (.int .i64 0) := HX9.out.cell 0
                  have qc1 : w9.cell? ⟨w.heap.size, 1, none⟩ = some (.slice none 0 0) := HX9.out.cell 1
                  have qc2 : w9.cell? ⟨w.heap.size, 2, none⟩ = some (.slice none 0 0) := HX9.out.cell 2
                  have rc0 := HX9.out.frozen 0
                  have rc1 := HX9.out.frozen 1
                  have rc2 := HX9.out.frozen 2
                  have HT9 : Hid ((rdI mx mx refB true (some fs)).1 = ⟨a.1, pre, pre2⟩) := by
                    show _ = _
                    rw [HE.out, HD2.out, ← HP.out]
                  cases hm : may ⟨a.1, pre, pre2⟩ with
                  | true =>
                    have HE9 := Lib.hid (decR_some HD.out (decF_good (by rw [HE.out]; exact HEM.out) (by rw [HT9.out]; exact hm)))
                    rw [HT9.out] at HE9
                    clear hm
                    go_wp2
                    have hon := three_on w9 w.heap.size (.int .i64 a.1) (.slice Ap k cp) (.slice A2 j cp2)
                    refine bodyPost_ret (v := .tuple #[itv a.1 Ap k cp A2 j cp2, .int .i64 0]) (by simp [itv, results, Try.results22, go_sem, qc0, qc1, qc2]) rfl ?_
                    unfold ItO
                    rw [HE9.out]
                    refine ⟨Ap, k, cp, A2, j, cp2, rfl, ⟨own_mono (HOC9.out.kept hon (.inr fun e => by have := (HOC9.out.lt _ e).1; omega)) (by omega), own_mono (HOS9.out.kept hon (.inr fun e => by have := (HOS9.out.lt _ e).1; omega)) (by omega)⟩, three_below HB9.out _ _ _⟩
                  | false =>
                    have HE9 := Lib.hid (decR_none HD.out (decF_bad (by rw [HT9.out]; exact hm)))
                    clear hm
                    go_wp2
                    refine bodyPost_ret (v := .tuple #[itv 0 none 0 0 none 0 0, .int .i64 3]) (by simp [itv, results, Try.results22, go_sem, qc0, qc1, qc2]) rfl ?_
                    exact itO_no HE9.out rfl (three_below HB9.out _ _ _)))
end Go.Proofs.Ytlkjmdkmcaaihaa.Bt
