/-
  A disk whose blocks all lie from block B on: the contracts once more, in that form; what a program that does nothing does not answer.
-/
import Derived.Test.YthjdankeopfkaaaDiskCrash
import Derived.Deep.RegionHeld3
import Derived.Lib.SlBytesConst
namespace Go.Proofs.Ythjdankeopfkaaa.Disk
open Go.RowKit Base DiskMath
set_option linter.ambiguousOpen false

def DiskB (B : Nat) (w : World) (g : Nat) (d : Dk) : Prop := DiskAt (fun i => B ≤ i ∧ i < w.heap.size) w g d
section
variable {B : Nat} {w w' : World} {g : Nat} {d : Dk}
theorem DiskB.of {F : Nat → Prop} (h : DiskAt F w g d) (hF : ∀ i, F i → B ≤ i) : DiskB B w g d := h.exact.mono fun i hi => ⟨hF i hi.1, hi.2⟩
theorem DiskB.new (h : DiskB B w g d) (hb : Below w.heap.size w w') : DiskB B w' g d := .of (DiskAt.new h hb) fun _ hi => hi.1
theorem DiskB.alloc (h : DiskB B w g d) (o : Obj) : DiskB B (w.alloc o) g d := h.new ((Below.refl _ _).alloc (Nat.le_refl _) o)
theorem DiskB.drew (h : DiskB B w g d) : DiskB B w.drew g d := h
theorem DiskB.held {W : World} (h : DiskB B W g d) (hb : Below W.heap.size W w) : DiskB B w g d := h.new hb
/-- what an operation answers, and what became of the disk -/
def DoneB (B : Nat) (w : World) (g : Nat) (r : Int × Dk) (e : Ending) (w' : World) : Prop := e = .returned (.int .i64 r.1) ∧ DiskB B w' g r.2 ∧ Below B w w'
theorem Done.base {r : Int × Dk} {e : Ending} (h : Done (fun i => B ≤ i ∧ i < w.heap.size) w g r e w') (hB : B ≤ w.heap.size) : DoneB B w g r e w' :=
  ⟨h.1, .of h.2.1 fun i hi => by rcases hi with hi | hi <;> omega, h.2.2.below (fun _ hi => hi.1) hB⟩
end

theorem new_b (w : World) : Calls Try.prog 8 #[] w fun e w' => ∃ g, e = .returned (.pointer (some ⟨g, 0, none⟩)) ∧ DiskB w.heap.size w' g none_ ∧ Below w.heap.size w w' := by
  refine (new_any w).mono ?_
  rintro e w' ⟨g, rfl, hd, hb⟩
  exact ⟨g, rfl, .of hd fun i hi => by rcases hi with hi | hi; exact hi.elim; exact hi.1, hb⟩
theorem append_b (B : Nat) (g : Nat) (d : Dk) (f : Int) (C : Nat) (A : Option Addr) (n c : Nat) (b : List UInt8) (w : World) (k : Int) (d' : Dk) (h : DiskB B w g d) (hB : B ≤ w.heap.size) (hf : Fits d) (hr : Bytes w C A n c b) (hC : C ≤ w.heap.size)
    (hn : n ≤ 140737488355328) (hsz : ∀ x, seek d.files f = some x → x.b.length + n ≤ 140737488355328) (hv : append d f b = (k, d')) :
    Calls Try.prog 15 #[.pointer (some ⟨g, 0, none⟩), .int .i64 f, .slice A n c] w fun e w' => e = .returned (.int .i64 k) ∧ DiskB B w' g d' ∧ Below B w w' :=
  (append_any _ g d f C A n c b w h hf hr hC hn hsz).mono fun _ _ h => by rw [hv] at h; exact h.base hB
theorem sync_b (B : Nat) (g : Nat) (d : Dk) (f : Int) (w : World) (k : Int) (d' : Dk) (h : DiskB B w g d) (hB : B ≤ w.heap.size) (hf : Fits d) (hv : sync d f = (k, d')) :
    Calls Try.prog 16 #[.pointer (some ⟨g, 0, none⟩), .int .i64 f] w fun e w' => e = .returned (.int .i64 k) ∧ DiskB B w' g d' ∧ Below B w w' :=
  (sync_any _ g d f w h hf).mono fun _ _ h => by rw [hv] at h; exact h.base hB
theorem crash_b (B : Nat) (g : Nat) (d d' : Dk) (A : Option Addr) (n c : Nat) (ks : List Int) (w : World) (h : DiskB B w g d) (hB : B ≤ w.heap.size) (hr : Row (w.alloc (.cells (iv ks).toArray 3)) (w.heap.size + 1) 1 A n c (iv ks)) (hA : ∀ a, A = some a → a.block = w.heap.size)
    (hk : ∀ k, I64 (ks.getD k 0)) (hsz : ∀ x ∈ d.files, x.b.length ≤ 140737488355328) (hv : crash d ks = d') :
    Calls Try.prog 17 #[.pointer (some ⟨g, 0, none⟩), .slice A n c] (w.alloc (.cells (iv ks).toArray 3)) fun e w' => e = .returned (.tuple #[]) ∧ DiskB B w' g d' ∧ Below B w w' := by
  subst hv
  have hh : DiskAt (fun i => B ≤ i ∧ i < w.heap.size) (w.alloc (.cells (iv ks).toArray 3)) g d := DiskAt.alloc h _
  refine (crash_any _ g d (w.heap.size + 1) A n c ks _ hh (fun i hi => by rw [World.size_alloc]; omega) hr (by rw [World.size_alloc]; exact Nat.le_refl _) (fun _ a ha hf => by have := hA a ha; omega) hk hsz).mono ?_
  rintro e w' ⟨rfl, hd, ht⟩
  have hb : Below B (w.alloc (.cells (iv ks).toArray 3)) w' := ht.below (fun _ hi => hi.1) (by rw [World.size_alloc]; omega)
  exact ⟨rfl, .of hd fun i hi => by rcases hi with hi | hi; exact hi.1; rw [World.size_alloc] at hi; omega, ((Below.refl B w).alloc hB _).trans hb⟩

theorem len_val (F : Nat → Prop) (g : Nat) (d : Dk) (f : Int) (w : World) (k : Int) (h : DiskAt F w g d) (hI : I64 f) (hv : size d f = k) :
    Calls Try.prog 13 #[.pointer (some ⟨g, 0, none⟩), .int .i64 f] w fun e w' => e = .returned (.int .i64 k) ∧ w = w' := by
  subst hv
  exact len_any F g d f w h hI
theorem synced_val (F : Nat → Prop) (g : Nat) (d : Dk) (f : Int) (w : World) (k : Int) (h : DiskAt F w g d) (hI : I64 f) (hv : safe d f = k) :
    Calls Try.prog 14 #[.pointer (some ⟨g, 0, none⟩), .int .i64 f] w fun e w' => e = .returned (.int .i64 k) ∧ w = w' := by
  subst hv
  exact synced_any F g d f w h hI
theorem down_val (F : Nat → Prop) (g : Nat) (d : Dk) (w : World) (b : Bool) (h : DiskAt F w g d) (hv : d.off = b) :
    Calls Try.prog 18 #[.pointer (some ⟨g, 0, none⟩)] w fun e w' => e = .returned (.bool b) ∧ w = w' := by
  subst hv
  exact down_any F g d w h
theorem str_cat (x y : List UInt8) : str x ++ str y = str (x ++ y) := by
  unfold str
  rw [ByteArray.mk_append_mk]
theorem str_room (x y : List UInt8) (hx : x.length ≤ 8388608) (hy : y.length ≤ 8388608) : (9223372036854775807 < (str x).size + (str y).size) = False := by
  rw [str_size, str_size]
  exact eq_false (by omega)
theorem fits_of (l : List Fl) (a : Nat) (o : Bool) (b : Nat) (h1 : a < 1000) (h2 : b < 1000) : Fits ⟨l, a, o, b⟩ := ⟨by dsimp only; omega, by dsimp only; omega⟩
def dA : Dk := ⟨[⟨0, [97, 98, 99], 0⟩], 0, false, 1⟩
def dB : Dk := ⟨[⟨0, [97, 98, 99], 3⟩], 0, false, 2⟩
def dC : Dk := ⟨[⟨0, [97, 98, 99, 100, 101], 3⟩], 0, false, 3⟩
def dD : Dk := ⟨[⟨0, [97, 98, 99, 100], 4⟩], 0, false, 3⟩
theorem val_A : append none_ 0 [97, 98, 99] = (0, dA) := rfl
theorem val_B : sync dA 0 = (0, dB) := rfl
theorem val_C : append dB 0 [100, 101] = (0, dC) := rfl
theorem val_D : crash dC [1] = dD := rfl
theorem one_num (w : World) (e : TypeId) (k : Int) {s : Nat} (hs : s = w.heap.size) : Row (w.alloc (.cells (iv [k]).toArray e)) (w.heap.size + 1) 1 (some ⟨s, 0, none⟩) 1 1 (iv [k]) :=
  Row.lit w #[.int .i64 k] e (0, 0) hs rfl (by omega)
theorem one_i64 {k : Int} (h : I64 k) (j : Nat) : I64 ([k].getD j 0) := by
  match j with
  | 0 => exact h
  | _ + 1 => exact ⟨by simp, by simp⟩

set_option maxRecDepth 100000 in
set_option maxHeartbeats 1600000 in
theorem awake_any (w : World) : Calls Try.prog 12 #[] w fun e w' => e = .returned (.bool true) ∧ Below w.heap.size w w' := by
  have kc := fun (w : World) (C : Array Value) (n c : Nat) => Lib.run_convert_bytes_const (P := Try.prog) w 30 5 C n c Try.underlying30 Try.underlying5
  go_enter Try.func12, Try.ntmps12
  go_wp2_with fail
  refine (new_b w).mono ?_
  rintro e w1 ⟨g, rfl, hd, hb⟩
  have HD1 := Lib.hid hd
  have HB1 := Lib.hid hb
  clear hd hb
  go_wp2_with fail
  refine (append_b w.heap.size g none_ 0 (w1.heap.size + 1) _ 3 3 [97, 98, 99] _ 0 dA (HD1.out.alloc _) (by have := HB1.out.size; simp; omega) ⟨by decide, by decide⟩ (Row.lit w1 #[.int .u8 97, .int .u8 98, .int .u8 99] _ _ rfl rfl (by omega)) (by simp) (by omega) (fun x hx => by cases hx) val_A).mono ?_
  rintro e w2 ⟨rfl, hd, hb⟩
  have HD2 := Lib.hid hd
  have HB2 := Lib.hid ((HB1.out.alloc HB1.out.size _).trans hb)
  clear hd hb HD1 HB1
  go_wp2_with fail
  refine (sync_b w.heap.size g dA 0 _ 0 dB HD2.out HB2.out.size ⟨by decide, by decide⟩ val_B).mono ?_
  rintro e w3 ⟨rfl, hd, hb⟩
  have HD3 := Lib.hid hd
  have HB3 := Lib.hid (HB2.out.trans hb)
  clear hd hb HD2 HB2
  go_wp2_with fail
  refine (append_b w.heap.size g dB 0 (w3.heap.size + 1) _ 2 2 [100, 101] _ 0 dC (HD3.out.alloc _) (by have := HB3.out.size; simp; omega) ⟨by decide, by decide⟩ (Row.lit w3 #[.int .u8 100, .int .u8 101] _ _ rfl rfl (by omega)) (by simp) (by omega) (fun x hx => by obtain rfl : _ = x := Option.some.inj hx; decide) val_C).mono ?_
  rintro e w4 ⟨rfl, hd, hb⟩
  have HD4 := Lib.hid hd
  have HB4 := Lib.hid ((HB3.out.alloc HB3.out.size _).trans hb)
  clear hd hb HD3 HB3
  go_wp2_with fail
  refine (crash_b w.heap.size g dC dD _ 1 1 [1] w4 HD4.out HB4.out.size (one_num w4 _ 1 rfl) (fun a ha => by injection ha with ha; rw [← ha]) (one_i64 ⟨by omega, by omega⟩) (fun x hx => by simp [dC] at hx; subst hx; simp) val_D).mono ?_
  rintro e w5 ⟨rfl, hd, hb⟩
  have HD5 := Lib.hid hd
  have HB5 := Lib.hid (HB4.out.trans hb)
  clear hd hb HD4 HB4
  go_wp2_with fail
  refine (read_yes _ g dD 0 ⟨0, [97, 98, 99, 100], 4⟩ _ HD5.out ⟨by omega, by omega⟩ rfl (by simp)).mono ?_
  rintro e w6 ⟨A6, c6, rfl, hown, hb⟩
  have HD6 := Lib.hid (HD5.out.new hb)
  have HB6 := Lib.hid (HB5.out.trans (hb.mono HB5.out.size))
  have hcv : (convert 30 9 (.slice A6 4 c6)).run Try.prog w6 = .ok (.string ⟨#[97, 98, 99, 100]⟩) w6 := (Bytes.of_own (l := [97, 98, 99, 100]) hown).str (P := Try.prog) Try.underlying30 Try.underlying5 Try.underlying9
  clear hown hb HD5 HB5
  go_wp2_with fail
  refine (len_any _ g dD 0 _ HD6.out ⟨by omega, by omega⟩).mono ?_
  rintro e w7 ⟨rfl, rfl⟩
  rw [show size dD 0 = 4 from rfl]
  go_wp2_with fail
  refine (synced_any _ g dD 0 _ HD6.out ⟨by omega, by omega⟩).mono ?_
  rintro e w7 ⟨rfl, rfl⟩
  rw [show safe dD 0 = 4 from rfl]
  go_wp2_with fail
  refine (len_any _ g dD 1 _ HD6.out ⟨by omega, by omega⟩).mono ?_
  rintro e w7 ⟨rfl, rfl⟩
  rw [show size dD 1 = -1 from rfl]
  go_wp2_with fail
  refine (ops_any _ g dD _ HD6.out).mono ?_
  rintro e w7 ⟨rfl, rfl⟩
  rw [show dD.ops = 3 from rfl]
  go_wp2
  go_ret
  exact ⟨rfl, HB6.out⟩
end Go.Proofs.Ythjdankeopfkaaa.Disk
