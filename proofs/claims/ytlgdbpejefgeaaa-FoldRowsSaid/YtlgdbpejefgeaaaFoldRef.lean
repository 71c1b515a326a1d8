/-
  The document's own Held, Value and Between (qanatref07): contracts.
-/
import Derived.Test.YtlgdbpejefgeaaaTxMem
import Derived.Test.YtlgdbpejefgeaaaFoldCol
import Derived.Test.YtlgdbpejefgeaaaFoldBetween
import Derived.BigQuiet
namespace Go.Proofs.Ytlgdbpejefgeaaa.Fold
set_option linter.unusedVariables false
set_option linter.unusedSimpArgs false
set_option maxRecDepth 100000
open Go.RowKit Base FoldMath Foot
open TxnMath (Ch Tx)
open PChg (gval Cs)
open PTx
set_option linter.ambiguousOpen false

theorem refheld_any (k : Int) (n : Nat) (w : World) : Calls Try.prog 31 #[.int .i64 k, .int .i64 n] w fun e w' => e = .returned (.int .i64 (held k n)) ∧ w = w' := by
  go_enter Try.func31, Try.ntmps31
  go_wp2
  go_ret
  exact ⟨ret_int (show max 0 (min k (n : Int)) = ((held k n : Nat) : Int) by unfold FoldMath.held; omega), rfl⟩
/-- the value on its way -/
def ValI (w : World) (o : Option ByteArray) (vv vb : Value) (wr : World) : Prop := vv = .string (o.getD ⟨#[]⟩) ∧ vb = .bool o.isSome ∧ Below w.heap.size w wr
set_option maxHeartbeats 3200000 in
theorem refvalue_any (B : Nat) (A : Option Addr) (n c : Nat) (l : List Tx) (k t key : Int) (w : World) (hl : Txs w B A n c l) (hB : B ≤ w.heap.size) :
    Calls Try.prog 16 #[.slice A n c, .int .i64 k, .int .i64 t, .int .i64 key] w (ValueR w (value t key (chs l (held k l.length)))) := by
  have hlen := hl.len
  have hle := hl.le
  have HL := Lib.hid (hl.more hB)
  clear hl
  rw [hlen]
  have hh := held_le k n
  obtain ⟨h, hh2⟩ : ∃ h, h = held k n := ⟨_, rfl⟩
  have HH := Lib.hid hh2
  rw [← hh2] at hh ⊢
  clear hh2
  go_enter Try.func16, Try.ntmps16
  go_wp2
  go_loopw [10, 11, 12] (fun vv vb vi wr => ∃ i : Nat, vi = .int .i64 i ∧ i ≤ h ∧ ValI w (value t key (chs l i)) vv vb wr) (fun _ _ vi _ => h - (Go.RowKit.intOf vi).toNat)
  case atStart => exact ⟨0, rfl, Nat.zero_le _, by rw [chs_zero]; exact ⟨rfl, rfl, Below.refl _ _⟩⟩
  case round =>
    obtain ⟨i, rfl, hi, rfl, rfl, hb⟩ := hrel
    have HB := Lib.hid hb
    clear hb
    go_wp2_with fail
    refine (refheld_any k n wr).mono ?_
    rintro e w3 ⟨rfl, rfl⟩
    rw [← HH.out]
    by_cases hih : i < h
    · have l1 : (i : Int) < (h : Int) := by omega
      obtain ⟨b, off, x, rfl, hbB, hx, A1, n1, c1, A2, n2, c2, x0, x1, x2, x3, x4, hcs, _⟩ := (HL.out.below HB.out).at_ (show i < n by omega)
      have HX := Lib.hid hx
      have HCS : Hid (∀ wx, Below w.heap.size w wx → Cs wx w.heap.size A1 n1 c1 x.chs) := fun wx hbx => Row.keep hcs fun q hq => (hbx.cell hq).trans (HB.out.cell hq).symm
      have HX2 : Hid (∀ wx, Below w.heap.size w wx → wx.cell? ⟨b, off + i * 5 + 2, none⟩ = some (.slice A1 n1 c1)) := fun wx hbx => ((hbx.cell hbB).trans (HB.out.cell hbB).symm).trans x2
      have hn1 := hcs.le
      have hl1 := hcs.len
      have l3 : (i : Int) < (n : Int) := by omega
      clear hx hcs x0 x1 x2 x3 x4
      go_wp2_with fail
      go_loopw [10, 11, 13] (fun vv vb vj wx => ∃ m : Nat, vj = .int .i64 m ∧ m ≤ n1 ∧ ValI w (value t key (chs l i ++ x.chs.take m)) vv vb wx) (fun _ _ vj _ => n1 - (Go.RowKit.intOf vj).toNat)
      case atStart => exact ⟨0, rfl, Nat.zero_le _, by rw [List.take_zero, List.append_nil]; exact ⟨rfl, rfl, HB.out⟩⟩
      case round =>
        obtain ⟨m, rfl, hm, rfl, rfl, hb⟩ := hrel
        have HB2 := Lib.hid hb
        have y2 := HX2.out wr hb
        clear hb
        by_cases hmn : m < n1
        · have l2 : (m : Int) < (n1 : Int) := by omega
          obtain ⟨b3, off3, f, rfl, hb3, c0, c1', c2', c3, hf, ht⟩ := (HCS.out wr HB2.out).at_ hmn
          have HV : Hid (value t key (chs l i ++ x.chs.take (m + 1)) = valStep t key (value t key (chs l i ++ x.chs.take m)) f) := by show _ = _; rw [ht, ← List.append_assoc, value_snoc]
          obtain ⟨o, ho⟩ : ∃ o, o = value t key (chs l i ++ x.chs.take m) := ⟨_, rfl⟩
          rw [← ho] at HV ⊢
          clear ho hf ht
          obtain ⟨ft, fk, fg, fv⟩ := f
          dsimp only at c0 c1' c2' c3
          have HW1 : Hid (Below w.heap.size w (wr.alloc (.cells #[.int .i64 ft, .int .i64 fk, .bool fg, .string fv] 44))) := HB2.out.alloc HB2.out.size _
          by_cases h1 : ft = t
          · by_cases h2 : fk = key
            · subst h1 h2
              have b1 : (ft == ft) = true := by simp
              have b2 : (fk == fk) = true := by simp
              cases fg with
              | true =>
                rw [show valStep ft fk o ⟨ft, fk, true, fv⟩ = none by simp [valStep]] at HV
                go_upto_region 10 with fail
                go_quiet (fail)
                go_wp2
                go_roundw
                case rel => exact ⟨m + 1, by go_num, by omega, by rw [HV.out]; exact ⟨rfl, rfl, below_drewN HW1.out _⟩⟩
                case measure => simp [Go.RowKit.intOf]; omega
              | false =>
                rw [show valStep ft fk o ⟨ft, fk, false, fv⟩ = some fv by simp [valStep]] at HV
                go_upto_region 10 with fail
                go_quiet (fail)
                go_wp2
                go_roundw
                case rel => exact ⟨m + 1, by go_num, by omega, by rw [HV.out]; exact ⟨rfl, rfl, below_drewN HW1.out _⟩⟩
                case measure => simp [Go.RowKit.intOf]; omega
            · subst h1
              have b1 : (ft == ft) = true := by simp
              have b2 : (fk == key) = false := by simpa using h2
              rw [show valStep ft key o ⟨ft, fk, fg, fv⟩ = o by simp [valStep, h2]] at HV
              go_wp2
              go_roundw
              case rel => exact ⟨m + 1, by go_num, by omega, by rw [HV.out]; exact ⟨rfl, rfl, HW1.out⟩⟩
              case measure => simp [Go.RowKit.intOf]; omega
          · have b1 : (ft == t) = false := by simpa using h1
            rw [show valStep t key o ⟨ft, fk, fg, fv⟩ = o by simp [valStep, h1]] at HV
            go_wp2
            go_roundw
            case rel => exact ⟨m + 1, by go_num, by omega, by rw [HV.out]; exact ⟨rfl, rfl, HW1.out⟩⟩
            case measure => simp [Go.RowKit.intOf]; omega
        · obtain rfl : m = n1 := by omega
          have l2 : ¬ (m : Int) < (m : Int) := by omega
          have HE : Hid (chs l i ++ x.chs.take m = chs l (i + 1)) := by show _ = _; rw [List.take_of_length_le (by omega), ← chs_succ HX.out]
          go_wp2
          go_roundw
          case rel => exact ⟨i + 1, by go_num, by omega, by rw [← HE.out]; exact ⟨rfl, rfl, HB2.out⟩⟩
          case measure => simp [Go.RowKit.intOf]; omega
    · have l1 : ¬ (i : Int) < (h : Int) := by omega
      obtain rfl : i = h := by omega
      go_wp2
      go_ret2
      exact ⟨rfl, HB.out⟩
end Go.Proofs.Ytlgdbpejefgeaaa.Fold
