/-
  The document's own Between (qanatref07): contract.
-/
import Derived.Test.YtlgdbpejefgeaaaFoldRef
namespace Go.Proofs.Ytlgdbpejefgeaaa.Fold
set_option linter.unusedVariables false
set_option linter.unusedSimpArgs false
set_option maxRecDepth 100000
open Go.RowKit Base FoldMath Foot
open TxnMath (Ch Tx)
open PTx
set_option linter.ambiguousOpen false

def RefBetI (w0 : World) (l : List Tx) (a : Nat) (t key : Int) (v : ByteArray) (k : Nat) (wr : World) : Prop :=
  a ≤ k ∧ (∀ q, a ≤ q → q < k → value t key (chs l q) ≠ some v) ∧ Below w0.heap.size w0 wr
set_option maxHeartbeats 3200000 in
theorem refbetween_any (B : Nat) (A : Option Addr) (n c : Nat) (l : List Tx) (a b t key : Int) (v : ByteArray) (w : World) (hl : Txs w B A n c l) (hB : B ≤ w.heap.size) (hn : n ≤ 1099511627774) :
    Calls Try.prog 18 #[.slice A n c, .int .i64 a, .int .i64 b, .int .i64 t, .agg #[.int .i64 key, .string v]] w (BetR w (between l a b t key v)) := by
  have hlen := hl.len
  have hb0 : Below w.heap.size w (w.alloc (.cells #[.int .i64 key, .string v] 36)) := (Below.refl _ _).alloc (Nat.le_refl _) _
  have hz0 : (w.alloc (.cells #[.int .i64 key, .string v] 36)).heap.size = w.heap.size + 1 := by simp
  have hx0 : Blk (w.alloc (.cells #[.int .i64 key, .string v] 36)) w.heap.size 36 #[.int .i64 key, .string v] := Blk.new _ _ _
  have HL : Hid (Txs (w.alloc (.cells #[.int .i64 key, .string v] 36)) (w.alloc (.cells #[.int .i64 key, .string v] 36)).heap.size A n c l) := ((hl.more hB).below hb0).more (by rw [hz0]; exact Nat.le_succ _)
  have HRB : ∀ r : Bool, between l a b t key v = r → ∀ w', Below (w.alloc (.cells #[.int .i64 key, .string v] 36)).heap.size (w.alloc (.cells #[.int .i64 key, .string v] 36)) w' → BetR w (between l a b t key v) (.returned (.bool r)) w' := fun r h w' hb => ⟨by rw [h], hb0.trans (hb.mono (by rw [hz0]; exact Nat.le_succ _))⟩
  have HRET := Lib.hid HRB
  have HX0 := Lib.hid hx0
  have HYES : Hid (∀ k, held a n ≤ k → k ≤ held b n → value t key (chs l k) = some v → between l a b t key v = true) := fun k h1 h2 h3 => between_yes (by rw [hlen]; exact h1) (by rw [hlen]; exact h2) h3
  have HNO : Hid ((∀ k, held a n ≤ k → k ≤ held b n → value t key (chs l k) ≠ some v) → between l a b t key v = false) := fun h => between_no (by rw [hlen]; exact h)
  have hha : held a n ≤ n := held_le a n
  have hhb : held b n ≤ n := held_le b n
  clear hl hb0 hz0 hx0 HRB
  generalize hBB : between l a b t key v = bb at *
  clear hBB
  go_enter Try.func18, Try.ntmps18
  go_upto_region 1 with fail
  generalize (w.alloc (.cells #[.int .i64 key, .string v] 36)) = w0 at *
  go_wp2_with fail
  refine (refheld_any a n w0).mono ?_
  rintro e w3 ⟨rfl, rfl⟩
  go_wp2_with fail
  go_loopw [11] (fun vi wr => ∃ k : Nat, vi = .int .i64 k ∧ k ≤ n + 1 ∧ RefBetI w0 l (held a n) t key v k wr) (fun vi _ => n + 2 - (Go.RowKit.intOf vi).toNat)
  case atStart => exact ⟨held a n, rfl, by omega, Nat.le_refl _, (fun q h1 h2 => by omega), Below.refl _ _⟩
  case round =>
    obtain ⟨k, rfl, hk, hak, hno, hbe⟩ := hrel
    have HNK := Lib.hid hno
    have HBE := Lib.hid hbe
    clear hno hbe
    go_wp2_with fail
    refine (refheld_any b n wr).mono ?_
    rintro e w3 ⟨rfl, rfl⟩
    by_cases hkb : k ≤ held b n
    · have l1 : (k : Int) ≤ (held b n : Int) := by omega
      have hkh : held (k : Int) n = k := held_nat (by omega)
      have CT := Lib.hid (refvalue_any w0.heap.size A n c l (k : Int) t key wr (HL.out.below HBE.out) HBE.out.size)
      rw [hlen, hkh] at CT
      have q0 : wr.cell? ⟨w.heap.size, 0, none⟩ = some (.int .i64 key) := (HX0.out.below HBE.out HX0.out.lt).cell 0
      clear hkh
      obtain ⟨o, ho⟩ : ∃ o, o = value t key (chs l k) := ⟨_, rfl⟩
      rw [← ho] at CT
      have HO := Lib.hid ho
      clear ho
      go_wp2_with fail
      refine CT.out.mono ?_
      rintro e w3 ⟨rfl, hb3⟩
      have HB3 : Hid (Below w0.heap.size w0 w3) := HBE.out.trans (hb3.mono HBE.out.size)
      have q1 : w3.cell? ⟨w.heap.size, 1, none⟩ = some (.string v) := (HX0.out.below HB3.out HX0.out.lt).cell 1
      clear hb3 CT q0
      by_cases hv : o = some v
      · have HQ := Lib.hid (HRET.out true (HYES.out k hak hkb (HO.out.symm.trans hv)) w3 HB3.out)
        subst hv
        have hs1 : (some v : Option ByteArray).isSome = true := rfl
        have hs2 : (some v : Option ByteArray).getD ⟨#[]⟩ = v := rfl
        have hs3 : (v.toList == v.toList) = true := by simp
        rw [hs1, hs2]
        go_wp2
        go_ret
        exact HQ.out
      · have HN : Hid (RefBetI w0 l (held a n) t key v (k + 1) w3) := ⟨by omega, fun q h1 h2 => by
          by_cases hq : q = k
          · rw [hq, ← HO.out]; exact hv
          · exact HNK.out q h1 (by omega), HB3.out⟩
        cases o with
        | none =>
          have hs1 : (none : Option ByteArray).isSome = false := rfl
          rw [hs1]
          go_wp2
          go_roundw
          case rel => exact ⟨k + 1, by go_num, by omega, HN.out⟩
          case measure => simp [Go.RowKit.intOf]; omega
        | some x =>
          have hs1 : (some x : Option ByteArray).isSome = true := rfl
          have hs2 : (some x : Option ByteArray).getD ⟨#[]⟩ = x := rfl
          have hs3 : (x.toList == v.toList) = false := by rw [text_eq]; exact decide_eq_false hv
          rw [hs1, hs2]
          clear hv
          go_wp2
          go_roundw
          case rel => exact ⟨k + 1, by go_num, by omega, HN.out⟩
          case measure => simp [Go.RowKit.intOf]; omega
    · have l1 : ¬ (k : Int) ≤ (held b n : Int) := by omega
      have HQ := Lib.hid (HRET.out false (HNO.out fun q h1 h2 => HNK.out q h1 (by omega)) wr HBE.out)
      go_wp2
      go_ret
      exact HQ.out
end Go.Proofs.Ytlgdbpejefgeaaa.Fold
