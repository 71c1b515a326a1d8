/-
  Signals, plainly: which texts are signals, and what they say; the text of one. Of no program.
-/
import Derived.Test.YtffjoacflchomaaDoorSigStr
namespace Go.Proofs.YtffjoacflchomaaDoor.Sig
set_option linter.unusedVariables false
set_option linter.unusedSimpArgs false

def word : List UInt8 := [115, 110, 97, 112, 115, 104, 111, 116, 32]
/-- the number that one digit says -/
def dig : List UInt8 → Option Nat
  | [d] => if 48 ≤ d.toNat ∧ d.toNat ≤ 57 then some (d.toNat - 48) else none
  | _ => none
/-- what lies behind the word and its blank -/
def tail : List UInt8 → Option (Nat × Nat)
  | [d] => if 48 ≤ d.toNat ∧ d.toNat ≤ 55 then some (d.toNat - 48, 1) else none
  | [d, b, e] => if 48 ≤ d.toNat ∧ d.toNat ≤ 55 ∧ b = 32 ∧ 49 ≤ e.toNat ∧ e.toNat ≤ 56 then some (d.toNat - 48, e.toNat - 48) else none
  | _ => none
/-- the signal that a text says, if it is one -/
def sg (l : List UInt8) : Option (Nat × Nat) := if l.take 9 = word then tail (l.drop 9) else none
def tableOf : Option (Nat × Nat) → Nat | some (t, _) => t | none => 0
def weightOf : Option (Nat × Nat) → Nat | some (_, k) => k | none => 0

theorem cutb_nil : cutb [] = ([], [], false) := rfl
theorem cutb_cons (x : UInt8) (l : List UInt8) : cutb (x :: l) = if x = 32 then ([], l, true) else (x :: (cutb l).1, (cutb l).2.1, (cutb l).2.2) := by
  unfold cutb
  by_cases hx : x = 32
  · subst hx; simp [Lib.indexByte]
  · have e : (x == 32) = false := by simpa using hx
    rw [if_neg hx]
    rw [show Lib.indexByte (x :: l) 32 = if Lib.indexByte l 32 == -1 then -1 else Lib.indexByte l 32 + 1 by rw [show Lib.indexByte (x :: l) 32 = if x == 32 then 0 else if Lib.indexByte l 32 == -1 then -1 else Lib.indexByte l 32 + 1 from rfl, e]; rfl]
    rcases index_lt l with h | h
    · have hge := Lib.indexByte_ge l 32
      by_cases h0 : 0 ≤ Lib.indexByte l 32
      · obtain ⟨k, hk⟩ := Int.eq_ofNat_of_zero_le h0
        have h1 : (Lib.indexByte l 32 == -1) = false := by rw [hk]; simp
        simp only [h1, Bool.false_eq_true, if_false]
        rw [hk, if_pos (by omega), if_pos (by omega)]
        have e1 : ((k : Int) + 1).toNat = k + 1 := by omega
        rw [e1, Int.toNat_natCast]
        simp
      · have h1 : Lib.indexByte l 32 = -1 := by omega
        rw [h1]; simp
    · rw [h]; simp

/-- what the program makes of what lies behind the word -/
def ctail (r : List UInt8) : Option (Nat × Nat) :=
  match dig (cutb r).1 with
  | none => none
  | some t => if (cutb r).2.2 then
      match dig (cutb r).2.1 with
      | none => none
      | some k => if t < 8 ∧ 1 ≤ k ∧ k ≤ 8 then some (t, k) else none
    else if t < 8 then some (t, 1) else none

theorem dig_long (a b : UInt8) (l : List UInt8) : dig (a :: b :: l) = none := rfl
theorem ctail_eq (r : List UInt8) : ctail r = tail r := by
  unfold ctail
  match r with
  | [] => rfl
  | [d] =>
    rw [cutb_cons]
    by_cases h : d = 32
    · subst h; rfl
    · simp only [if_neg h, cutb_nil, dig, tail, Bool.false_eq_true, if_false]
      by_cases h1 : 48 ≤ d.toNat ∧ d.toNat ≤ 57
      · by_cases h2 : 48 ≤ d.toNat ∧ d.toNat ≤ 55
        · rw [if_pos h1, if_pos h2]; simp only; rw [if_pos (by omega)]
        · rw [if_pos h1, if_neg h2]; simp only; rw [if_neg (by omega)]
      · rw [if_neg h1, if_neg (by omega)]
  | [d, b] =>
    rw [cutb_cons, cutb_cons]
    by_cases h : d = 32
    · subst h; rfl
    · by_cases h1 : b = 32
      · subst h1; simp only [if_neg h, if_true, dig, tail]; split <;> rfl
      · simp only [if_neg h, if_neg h1, dig, tail]
  | [d, b, e] =>
    rw [cutb_cons, cutb_cons, cutb_cons]
    by_cases h : d = 32
    · subst h; rfl
    · by_cases h1 : b = 32
      · subst h1
        simp only [if_neg h, if_true, dig, tail]
        by_cases h1 : 48 ≤ d.toNat ∧ d.toNat ≤ 57
        · rw [if_pos h1]
          simp only
          by_cases h2 : 48 ≤ e.toNat ∧ e.toNat ≤ 57
          · rw [if_pos h2]
            simp only
            by_cases h3 : 48 ≤ d.toNat ∧ d.toNat ≤ 55 ∧ 49 ≤ e.toNat ∧ e.toNat ≤ 56
            · rw [if_pos (by omega), if_pos ⟨h3.1, h3.2.1, trivial, h3.2.2⟩]
            · rw [if_neg (by omega), if_neg (fun h => h3 ⟨h.1, h.2.1, h.2.2.2⟩)]
          · rw [if_neg h2]; simp only; rw [if_neg (fun h => h2 ⟨by have := h.2.2.2; omega, by have := h.2.2.2; omega⟩)]
        · rw [if_neg h1]; simp only; rw [if_neg (fun h => h1 ⟨h.1, by have := h.2.1; omega⟩)]
      · by_cases h2 : e = 32
        · subst h2
          simp only [if_neg h, if_neg h1, if_true, dig, tail, false_and, and_false, if_false]
          rw [if_neg (fun hh => h1 hh.2.2.1)]
        · simp only [if_neg h, if_neg h1, if_neg h2, cutb_nil, dig, tail, false_and, and_false, if_false]
          rw [if_neg (fun hh => h1 hh.2.2.1)]
  | d :: b :: e :: f :: l =>
    rw [cutb_cons, cutb_cons, cutb_cons]
    by_cases h : d = 32
    · subst h; rfl
    · by_cases h1 : b = 32
      · subst h1
        simp only [if_neg h, if_true, dig, tail]
        split <;> rfl
      · simp only [if_neg h, if_neg h1, tail, dig_long]

/-- the text of what may be said -/
def mayB (t k : Int) : Bool := decide (0 ≤ t ∧ t ≤ 7 ∧ 1 ≤ k ∧ k ≤ 8)
def one (n : Int) : UInt8 := (48 + n).toNat.toUInt8
def textL (t k : Int) : List UInt8 := word ++ [one t, 32, one k]
theorem one_toNat {n : Int} (h0 : 0 ≤ n) (h1 : n ≤ 9) : (one n).toNat = 48 + n.toNat := by
  unfold one
  rw [UInt8.toNat_ofNat', Nat.mod_eq_of_lt (by omega)]
  omega
theorem sg_text {t k : Int} (h : mayB t k = true) : sg (textL t k) = some (t.toNat, k.toNat) := by
  have h := of_decide_eq_true h
  have h1 := one_toNat (n := t) (by omega) (by omega)
  have h2 := one_toNat (n := k) (by omega) (by omega)
  have e : (textL t k).take 9 = word := rfl
  have e2 : (textL t k).drop 9 = [one t, 32, one k] := rfl
  rw [sg, if_pos e, e2, tail, if_pos ⟨by omega, by omega, rfl, by omega, by omega⟩]
  rw [h1, h2]
  simp
theorem sg_nil : sg [] = none := rfl
theorem hasWord (l : List UInt8) : Lib.hasPrefix l word = true ↔ l.take 9 = word := by
  rw [← Lib.hasPrefix_of_take, Bool.and_eq_true, decide_eq_true_iff, beq_iff_eq]
  constructor
  · exact fun h => h.2
  · intro h
    refine ⟨?_, h⟩
    have := congrArg List.length h
    rw [List.length_take] at this
    have e : word.length = 9 := rfl
    omega
theorem sg_miss {l : List UInt8} (h : Lib.hasPrefix l word = false) : sg l = none := by
  unfold sg
  rw [if_neg (fun e => by rw [(hasWord l).2 e] at h; cases h)]
theorem sg_hit {l : List UInt8} (h : Lib.hasPrefix l word = true) : sg l = ctail (l.drop 9) := by
  rw [sg, if_pos ((hasWord l).1 h), ctail_eq]
def digB (l : List UInt8) : Bool := (dig l).isSome
def digN (l : List UInt8) : Nat := (dig l).getD 0
theorem digN_le (l : List UInt8) : digN l ≤ 9 := by
  unfold digN
  match l with
  | [] => exact Nat.zero_le _
  | [d] =>
    show (if 48 ≤ d.toNat ∧ d.toNat ≤ 57 then some (d.toNat - 48) else none).getD 0 ≤ 9
    split
    · simp; omega
    · simp
  | a :: b :: r => exact Nat.zero_le _
theorem ctail_no {r : List UInt8} (h : digB (cutb r).1 = false) : ctail r = none := by
  unfold digB at h
  unfold ctail
  rw [Option.isSome_eq_false_iff, Option.isNone_iff_eq_none] at h
  rw [h]
theorem ctail_one {r : List UInt8} (h : digB (cutb r).1 = true) (h2 : (cutb r).2.2 = false) : ctail r = if mayB (digN (cutb r).1) 1 then some (digN (cutb r).1, 1) else none := by
  unfold digB at h
  obtain ⟨t, ht⟩ := Option.isSome_iff_exists.1 h
  unfold ctail digN
  rw [ht, h2]
  unfold mayB
  simp only [Bool.false_eq_true, if_false, Option.getD_some]
  by_cases h8 : t < 8
  · rw [if_pos h8, if_pos (decide_eq_true (by omega))]
  · rw [if_neg h8, if_neg (by rw [decide_eq_true_iff]; omega)]
theorem ctail_two {r : List UInt8} (h : digB (cutb r).1 = true) (h2 : (cutb r).2.2 = true) (h3 : digB (cutb r).2.1 = true) : ctail r = if mayB (digN (cutb r).1) (digN (cutb r).2.1) then some (digN (cutb r).1, digN (cutb r).2.1) else none := by
  unfold digB at h h3
  obtain ⟨t, ht⟩ := Option.isSome_iff_exists.1 h
  obtain ⟨k, hk⟩ := Option.isSome_iff_exists.1 h3
  unfold ctail digN
  rw [ht, h2, hk]
  unfold mayB
  simp only [if_true, Option.getD_some]
  by_cases h8 : t < 8 ∧ 1 ≤ k ∧ k ≤ 8
  · rw [if_pos h8, if_pos (decide_eq_true (by omega))]
  · rw [if_neg h8, if_neg (by rw [decide_eq_true_iff]; omega)]
theorem ctail_bad {r : List UInt8} (h : digB (cutb r).1 = true) (h2 : (cutb r).2.2 = true) (h3 : digB (cutb r).2.1 = false) : ctail r = none := by
  unfold digB at h h3
  obtain ⟨t, ht⟩ := Option.isSome_iff_exists.1 h
  rw [Option.isSome_eq_false_iff, Option.isNone_iff_eq_none] at h3
  unfold ctail
  rw [ht, h2, h3]
  simp
end Go.Proofs.YtffjoacflchomaaDoor.Sig
