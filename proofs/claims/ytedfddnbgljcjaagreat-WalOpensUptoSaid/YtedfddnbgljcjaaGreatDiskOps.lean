/-
  Contracts of package disk's operations: Append, Sync, Cut, Remove.
-/
import Derived.Test.YtedfddnbgljcjaaGreatDiskCode
namespace Go.Proofs.YtedfddnbgljcjaaGreat.Disk
set_option maxRecDepth 100000
open Go.RowKit Base DiskMath
set_option linter.ambiguousOpen false

/-- what an operation answers, and what became of the disk -/
def Done (F : Nat → Prop) (w : World) (g : Nat) (r : Int × Dk) (e : Ending) (w' : World) : Prop := e = .returned (.int .i64 r.1) ∧ DiskAt (Out F w w') w' g r.2 ∧ Turn F w w'

theorem own_cut {w : World} {base len c : Nat} {e : TypeId} {A : Option Addr} {xs : List Value} (h : w.ownsRow base e 1 (.slice A len c) len xs) {n : Nat} (hn : n ≤ len) : w.ownsRow base e 1 (.slice A n c) n (xs.take n) := by
  rcases h with ⟨h1, ⟨hv, h0⟩ | ⟨g, cap, cur, hv, hg, h3, h4, h5, h6, h7⟩⟩
  · obtain rfl : n = 0 := by omega
    simp only [Value.slice.injEq] at hv
    obtain ⟨rfl, _, rfl⟩ := hv
    exact ⟨by simp, .inl ⟨rfl, rfl⟩⟩
  · simp only [Value.slice.injEq] at hv
    obtain ⟨rfl, _, rfl⟩ := hv
    refine ⟨by rw [List.length_take, h1]; omega, .inr ⟨g, c, cur, rfl, hg, h3, by omega, h5, h6, ?_⟩⟩
    rw [← h7, List.take_take]
    congr 1
    omega
theorem take_len {l : List UInt8} {n : Nat} (h : n ≤ l.length) : (l.take n).length = n := by rw [List.length_take]; omega

/-- a file's block is written: it is cut, and so much is safe -/
theorem FileAt.wrote {w : World} {F : Nat → Prop} {x : Fl} {p c : Nat} {A : Option Addr} (h : FileAt w F x ⟨p, A, c⟩) {n : Nat} (hn : n ≤ x.b.length) (s : Nat) :
    FileAt ((w.setCell ⟨p, 0, none⟩ (.slice A n c)).setCell ⟨p, 1, none⟩ (.int .i64 s)) F ⟨x.id, x.b.take n, s⟩ ⟨p, A, c⟩ := by
  have hl := take_len hn
  obtain ⟨h1, h2, h3, h4⟩ := h
  refine ⟨?_, h2, ?_, h4⟩
  · have := Blk.set_ (Blk.set_ h1 0 (.slice A n c)) 1 (.int .i64 s)
    dsimp only
    rw [hl]
    exact this
  · dsimp only
    rw [hl]
    have hc := own_cut h3 hn
    rw [bv_take] at hc
    refine own_same hc fun g hg => ?_
    obtain ⟨cur, hcur⟩ := own_type hc hg
    have hne : g ≠ p := fun e => by
      unfold Blk at h1
      dsimp only at h1
      rw [← e, hcur] at h1
      cases h1
    rw [Below.heap_setCell _ _ _ _ hne, Below.heap_setCell _ _ _ _ hne]
theorem only_two (w : World) (g : Nat) (u v : Value) : w.grownBy ((w.setCell ⟨g, 0, none⟩ u).setCell ⟨g, 1, none⟩ v) (some g) := only_set (only_set (World.grownBy.refl _ _) _ _) _ _

set_option maxHeartbeats 400000 in
theorem fcut_any (F : Nat → Prop) (x : Fl) (q : Pl) (n : Nat) (w : World) (h : FileAt w F x q) (hn : n ≤ x.b.length) :
    Calls Tryz.prog 81 #[.pointer (some ⟨q.p, 0, none⟩), .int .i64 n] w fun e w' => e = .returned (.tuple #[]) ∧ FileAt w' F (trim n x) q ∧ w.grownBy w' (some q.p) := by
  have hle := h.bytes.le
  have c0 : w.cell? ⟨q.p, 0, none⟩ = some (.slice q.A x.b.length q.c) := Blk.cell h.1 0
  have c1 : w.cell? ⟨q.p, 1, none⟩ = some (.int .i64 x.safe) := Blk.cell h.1 1
  have z0 := Blk.frozen h.1 0
  have z1 := Blk.frozen h.1 1
  obtain ⟨p, A, c⟩ := q
  have HF : Hid (∀ s : Nat, FileAt ((w.setCell ⟨p, 0, none⟩ (.slice A n c)).setCell ⟨p, 1, none⟩ (.int .i64 s)) F ⟨x.id, x.b.take n, s⟩ ⟨p, A, c⟩) := h.wrote hn
  clear h
  dsimp only at hle c0 c1 z0 z1
  generalize x.b.length = k at hle c0 hn
  generalize hj : x.safe = j at c1
  have HJ := Lib.hid hj
  clear hj
  by_cases hlt : n < j
  · have HM := Lib.hid (show min x.safe n = n by rw [HJ.out]; omega)
    go_enter Tryz.func81, Tryz.ntmps81
    go_wp2
    go_end0
    refine ⟨rfl, ?_, only_two _ _ _ _⟩
    unfold trim
    rw [HM.out]
    exact HF.out n
  · have HM := Lib.hid (show min x.safe n = j by rw [HJ.out]; omega)
    go_enter Tryz.func81, Tryz.ntmps81
    go_wp2
    go_end0
    refine ⟨rfl, ?_, only_two _ _ _ _⟩
    unfold trim
    rw [HM.out]
    exact HF.out j

/-! ### what is refused -/
theorem Done.no {F : Nat → Prop} {w : World} {g : Nat} {d : Dk} (h : DiskAt F w g d) {k : Int} : Done F w g (k, d) (.returned (.int .i64 k)) w :=
  ⟨rfl, h.mono fun _ hi => .inl hi, Turn.refl _ _⟩
theorem sync_no {d : Dk} {f k : Int} (h : refuse d f true = k) (hk : k ≠ 0) : sync d f = (k, d) := by rw [sync, h, if_neg hk]
theorem cut_no {d : Dk} {f n k : Int} (h : refuse d f true = k) (hk : k ≠ 0) : cut d f n = (k, d) := by rw [cut, h, if_neg hk]
theorem remove_no {d : Dk} {f k : Int} (h : refuse d f true = k) (hk : k ≠ 0) : remove d f = (k, d) := by rw [remove, h, if_neg hk]
theorem refuse_zero {d : Dk} {f : Int} (h : refuse d f true = 0) : d.off = false ∧ 0 ≤ f ∧ f < 16384 ∧ ∃ x, seek d.files f = some x := by
  unfold refuse at h
  split at h
  · omega
  · rename_i h1
    split at h
    · omega
    · rename_i h2
      split at h
      · omega
      · rename_i h3
        refine ⟨by simpa using h1, by omega, by omega, ?_⟩
        cases hx : seek d.files f with
        | none => exact absurd ⟨rfl, hx⟩ h3
        | some x => exact ⟨x, rfl⟩
/-- the disk's block, over what a file's change turns -/
theorem Head.keep {w w' : World} {g m : Nat} {d : Dk} (h : Head w g d m) (hk : ∀ i o, i < w.heap.size → w.heap[i]? = some o → (∀ cs, o ≠ .cells cs 73 (0, 0)) → (∀ cs, o ≠ .cells cs 5 (0, 0)) → w'.heap[i]? = some o) : Head w' g d m :=
  hk g _ (Blk.lt h) h (fun cs e => by cases e) (fun cs e => by cases e)

/-- an operation was counted: nothing else has turned -/
theorem ticked {F : Nat → Prop} {w w1 : World} {g m : Nat} {pl : Int → Pl} {d : Dk} (hh : Head w1 g (tick d) m) (hg : F g) (hb : Body w1 F d.files m pl) (hw : w.grownBy w1 (some g)) : DiskAt (Out F w w1) w1 g (tick d) ∧ Turn F w w1 :=
  ⟨⟨m, pl, hh, .inl hg, hb.mono fun _ hi => .inl hi⟩, Turn.grown hw fun k e => by injection e with e; rw [← e]; exact hg⟩
theorem told_one {d : Dk} (h : d.left = 1) (l : List Fl) : told d = 8 ∧ oper d l = (8, tick d) := by rw [told, oper, if_pos h, if_pos h]; exact ⟨rfl, rfl⟩
theorem told_more {d : Dk} (h : ¬ d.left = 1) (l : List Fl) : told d = 0 ∧ oper d l = (0, { tick d with files := l }) := by rw [told, oper, if_neg h, if_neg h]; exact ⟨rfl, rfl⟩
/-- .. and then one file's block was written -/
theorem turned {F : Nat → Prop} {w w1 w2 : World} {g m : Nat} {pl : Int → Pl} {d : Dk} {f : Int} {x : Fl} {t : Fl → Fl} (hh : Head w1 g (tick d) m) (hg : F g) (hb : Body w1 F d.files m pl) (hw : w.grownBy w1 (some g)) (hx : seek d.files f = some x)
    (ht : ∀ x, (t x).id = x.id) (hs : ∀ x, x.safe ≤ x.b.length → (t x).safe ≤ (t x).b.length) (hq : FileAt w2 F (t x) (pl f)) (h2 : w1.grownBy w2 (some (pl f).p)) : DiskAt (Out F w w2) w2 g { tick d with files := put d.files f t } ∧ Turn F w w2 := by
  have hX := hb.2.2.1.1 x (seek_mem hx).1
  rw [(seek_mem hx).2] at hX
  have hgp : g ≠ (pl f).p := fun e => by
    have a := hX.1
    unfold Blk at a
    unfold Head Blk at hh
    rw [← e, hh] at a
    cases a
  refine ⟨⟨m, upd pl f (pl f), (h2.block g (Blk.lt hh) fun e => hgp (by injection e)).trans hh, .inl hg, ?_⟩, ?_⟩
  · exact hb.turn hx ht hs (fun i hi hp _ => h2.block i hi fun e => hp (by injection e)) (hq.mono fun _ hi => .inl hi) rfl (.inl rfl) fun _ hi => .inl hi
  · refine (Turn.grown hw fun k e => by injection e with e; rw [← e]; exact hg).trans (Turn.grown (F := F) h2 fun k e => by injection e with e; rw [← e]; exact hX.2.1) fun _ hi => .inl hi

set_option maxHeartbeats 400000 in
theorem sync_any (F : Nat → Prop) (g : Nat) (d : Dk) (f : Int) (w : World) (h : DiskAt F w g d) (hf : Fits d) :
    Calls Tryz.prog 49 #[.pointer (some ⟨g, 0, none⟩), .int .i64 f] w (Done F w g (sync d f)) := by
  obtain ⟨m, pl, hh, hg, hb⟩ := h
  by_cases hr : refuse d f true = 0
  · obtain ⟨hoff, h0, h1, x, hx⟩ := refuse_zero hr
    have HX := Lib.hid hx
    have HH := Lib.hid hh
    have HB := Lib.hid hb
    have HO := Lib.hid hoff
    clear hh hb hx hoff
    by_cases hl : d.left = 1
    · have HT := Lib.hid (told_one hl (put d.files f sure)).1
      have HS := Lib.hid (show sync d f = (8, tick d) by rw [sync, if_pos hr, (told_one hl _).2])
      clear hl hr
      go_enter Tryz.func49, Tryz.ntmps49
      go_wp2_with fail
      refine (find_yes F g m pl d f x w HH.out HB.out HO.out HX.out).mono ?_
      rintro e w' ⟨rfl, rfl⟩
      go_wp2_with fail
      refine (spend_any g m d w HH.out HO.out hf).mono ?_
      rintro e w1 ⟨rfl, hh1, hw1⟩
      have HD := Lib.hid (ticked hh1 hg (HB.out.head HH.out hw1) hw1)
      clear hh1 hw1
      rw [HT.out]
      go_wp2
      go_ret
      rw [HS.out]
      exact ⟨rfl, HD.out⟩
    · have HT := Lib.hid (told_more hl (put d.files f sure)).1
      have HS := Lib.hid (show sync d f = (0, { tick d with files := put d.files f sure }) by rw [sync, if_pos hr, (told_more hl _).2])
      clear hl hr
      go_enter Tryz.func49, Tryz.ntmps49
      go_wp2_with fail
      refine (find_yes F g m pl d f x w HH.out HB.out HO.out HX.out).mono ?_
      rintro e w' ⟨rfl, rfl⟩
      go_wp2_with fail
      refine (spend_any g m d w HH.out HO.out hf).mono ?_
      rintro e w1 ⟨rfl, hh1, hw1⟩
      have hb1 := HB.out.head HH.out hw1
      have hX := hb1.2.2.1.1 x (seek_mem HX.out).1
      rw [(seek_mem HX.out).2] at hX
      have c0 : w1.cell? ⟨(pl f).p, 0, none⟩ = some (.slice (pl f).A x.b.length (pl f).c) := Blk.cell hX.1 0
      have c1 : w1.cell? ⟨(pl f).p, 1, none⟩ = some (.int .i64 x.safe) := Blk.cell hX.1 1
      have z1 := Blk.frozen hX.1 1
      have HD : Hid (DiskAt (Out F w (w1.setCell ⟨(pl f).p, 1, none⟩ (.int .i64 x.b.length))) (w1.setCell ⟨(pl f).p, 1, none⟩ (.int .i64 x.b.length)) g { tick d with files := put d.files f sure } ∧ Turn F w (w1.setCell ⟨(pl f).p, 1, none⟩ (.int .i64 x.b.length))) := by
        refine turned hh1 hg hb1 hw1 HX.out (fun _ => rfl) sure_ok ?_ (only_set (World.grownBy.refl _ _) _ _)
        refine ⟨Blk.set_ hX.1 1 _, hX.2.1, own_same hX.2.2.1 fun k hk => ?_, hX.2.2.2⟩
        obtain ⟨cur, hcur⟩ := own_type hX.2.2.1 hk
        refine Below.heap_setCell _ _ _ _ fun e => ?_
        have a := hX.1
        unfold Blk at a
        dsimp only at e
        rw [← e, hcur] at a
        cases a
      clear hh1 hw1 hb1 hX
      rw [HT.out]
      generalize (pl f).p = p at c0 c1 z1 HD ⊢
      generalize (pl f).A = A at c0
      generalize (pl f).c = c at c0
      go_wp2
      go_ret
      rw [HS.out]
      exact ⟨rfl, HD.out⟩
  · have HS := Lib.hid (sync_no rfl hr)
    generalize hk : refuse d f true = k at hr HS
    have HK := Lib.hid hk
    have HH := Lib.hid hh
    have HB := Lib.hid hb
    have hne : (k == 0) = false := by simpa using hr
    clear hh hb hk
    go_enter Tryz.func49, Tryz.ntmps49
    go_wp2_with fail
    refine (find_no F g m pl d f k w HH.out HB.out HK.out hr).mono ?_
    rintro e w' ⟨rfl, rfl⟩
    go_wp2
    go_ret
    rw [HS.out]
    exact Done.no ⟨m, pl, HH.out, hg, HB.out⟩

theorem size_seen {d : Dk} {f : Int} {x : Fl} (h : seek d.files f = some x) : size d f = x.b.length := by rw [size, h]
set_option maxHeartbeats 800000 in
theorem cut_any (F : Nat → Prop) (g : Nat) (d : Dk) (f n : Int) (w : World) (h : DiskAt F w g d) (hf : Fits d) :
    Calls Tryz.prog 64 #[.pointer (some ⟨g, 0, none⟩), .int .i64 f, .int .i64 n] w (Done F w g (cut d f n)) := by
  obtain ⟨m, pl, hh, hg, hb⟩ := h
  by_cases hr : refuse d f true = 0
  · obtain ⟨hoff, h0, h1, x, hx⟩ := refuse_zero hr
    have hsz := size_seen hx
    have HX := Lib.hid hx
    have HH := Lib.hid hh
    have HB := Lib.hid hb
    have HO := Lib.hid hoff
    have hX := hb.2.2.1.1 x (seek_mem hx).1
    rw [(seek_mem hx).2] at hX
    have c0 : w.cell? ⟨(pl f).p, 0, none⟩ = some (.slice (pl f).A x.b.length (pl f).c) := Blk.cell hX.1 0
    clear hh hb hx hoff hX h0 h1
    by_cases hn : n < 0 ∨ size d f < n
    · have HS := Lib.hid (show cut d f n = (1, d) by rw [cut, if_pos hr, if_pos hn])
      rw [hsz] at hn
      clear hr hsz
      rcases hn with hn | hn
      · have hb1 : decide (n < 0) = true := by simpa using hn
        go_enter Tryz.func64, Tryz.ntmps64
        go_wp2_with fail
        refine (find_yes F g m pl d f x w HH.out HB.out HO.out HX.out).mono ?_
        rintro e w' ⟨rfl, rfl⟩
        go_wp2
        go_ret
        rw [HS.out]
        exact Done.no ⟨m, pl, HH.out, hg, HB.out⟩
      · have hb1 : decide (n < 0) = false := by simp; omega
        have hb2 : decide ((x.b.length : Int) < n) = true := by simpa using hn
        generalize x.b.length = k at *
        go_enter Tryz.func64, Tryz.ntmps64
        go_wp2_with fail
        refine (find_yes F g m pl d f x w HH.out HB.out HO.out HX.out).mono ?_
        rintro e w' ⟨rfl, rfl⟩
        go_wp2
        go_ret
        rw [HS.out]
        exact Done.no ⟨m, pl, HH.out, hg, HB.out⟩
    · have hb1 : decide (n < 0) = false := by simp; omega
      rw [hsz] at hn
      obtain ⟨k, rfl⟩ := Int.eq_ofNat_of_zero_le (show 0 ≤ n by omega)
      have hk : k ≤ x.b.length := by omega
      have hb2 : decide ((x.b.length : Int) < (k : Int)) = false := by simp; omega
      have hb3 : decide (x.b.length < k) = false := by simp; omega
      clear hn
      by_cases hl : d.left = 1
      · have HT := Lib.hid (told_one hl d.files).1
        have HS := Lib.hid (show cut d f k = (8, tick d) by rw [cut, if_pos hr, hsz, if_neg (by omega), (told_one hl _).2])
        clear hl hr hsz
        generalize x.b.length = j at *
        go_enter Tryz.func64, Tryz.ntmps64
        go_wp2_with fail
        refine (find_yes F g m pl d f x w HH.out HB.out HO.out HX.out).mono ?_
        rintro e w' ⟨rfl, rfl⟩
        go_wp2_with fail
        refine (spend_any g m d w HH.out HO.out hf).mono ?_
        rintro e w1 ⟨rfl, hh1, hw1⟩
        have HD := Lib.hid (ticked hh1 hg (HB.out.head HH.out hw1) hw1)
        clear hh1 hw1
        rw [HT.out]
        go_wp2
        go_ret
        rw [HS.out]
        exact ⟨rfl, HD.out⟩
      · have HT := Lib.hid (told_more hl d.files).1
        have HS := Lib.hid (show cut d f k = (0, { tick d with files := put d.files f (trim k) }) by rw [cut, if_pos hr, hsz, if_neg (by omega), (told_more hl _).2, Int.toNat_natCast])
        have HK := Lib.hid hk
        clear hl hr hsz hk
        generalize x.b.length = j at c0 hb2 hb3
        go_enter Tryz.func64, Tryz.ntmps64
        go_wp2_with fail
        refine (find_yes F g m pl d f x w HH.out HB.out HO.out HX.out).mono ?_
        rintro e w' ⟨rfl, rfl⟩
        go_wp2_with fail
        refine (spend_any g m d w HH.out HO.out hf).mono ?_
        rintro e w1 ⟨rfl, hh1, hw1⟩
        have HB1 := Lib.hid (HB.out.head HH.out hw1)
        have HW1 := Lib.hid hw1
        have HH1 := Lib.hid hh1
        have HF1 : Hid (FileAt w1 F x (pl f)) := by
          have hX := HB1.out.2.2.1.1 x (seek_mem HX.out).1
          rwa [(seek_mem HX.out).2] at hX
        clear hh1 hw1
        rw [HT.out]
        go_wp2_with fail
        refine (fcut_any F x (pl f) k w1 HF1.out HK.out).mono ?_
        rintro e w2 ⟨rfl, hf2, hw2⟩
        have HD := Lib.hid (turned HH1.out hg HB1.out HW1.out HX.out (t := trim k) (fun _ => rfl) (trim_ok k) hf2 hw2)
        clear hf2 hw2
        go_wp2
        go_ret
        rw [HS.out]
        exact ⟨rfl, HD.out⟩
  · have HS := Lib.hid (cut_no (n := n) rfl hr)
    generalize hk : refuse d f true = k at hr HS
    have HK := Lib.hid hk
    have HH := Lib.hid hh
    have HB := Lib.hid hb
    have hne : (k == 0) = false := by simpa using hr
    clear hh hb hk
    go_enter Tryz.func64, Tryz.ntmps64
    go_wp2_with fail
    refine (find_no F g m pl d f k w HH.out HB.out HK.out hr).mono ?_
    rintro e w' ⟨rfl, rfl⟩
    go_wp2
    go_ret
    rw [HS.out]
    exact Done.no ⟨m, pl, HH.out, hg, HB.out⟩

theorem key_of {f : Int} (h : I64 f) : keyOf Tryz.prog 3 (.int .i64 f) = some (.int .i64 f) := Maps.keyOf_int_mk Tryz.underlying3 h.wf
set_option maxHeartbeats 800000 in
theorem remove_any (F : Nat → Prop) (g : Nat) (d : Dk) (f : Int) (w : World) (h : DiskAt F w g d) (hf : Fits d) :
    Calls Tryz.prog 62 #[.pointer (some ⟨g, 0, none⟩), .int .i64 f] w (Done F w g (remove d f)) := by
  obtain ⟨m, pl, hh, hg, hb⟩ := h
  by_cases hr : refuse d f true = 0
  · obtain ⟨hoff, h0, h1, x, hx⟩ := refuse_zero hr
    have HI : Hid (I64 f) := ⟨by omega, by omega⟩
    have HX := Lib.hid hx
    have HH := Lib.hid hh
    have HB := Lib.hid hb
    have HO := Lib.hid hoff
    clear hh hb hx hoff h0 h1
    by_cases hl : d.left = 1
    · have HT := Lib.hid (told_one hl d.files).1
      have HS := Lib.hid (show remove d f = (8, tick d) by rw [remove, if_pos hr, (told_one hl _).2])
      clear hl hr
      go_enter Tryz.func62, Tryz.ntmps62
      go_wp2_with fail
      refine (find_yes F g m pl d f x w HH.out HB.out HO.out HX.out).mono ?_
      rintro e w' ⟨rfl, rfl⟩
      go_wp2_with fail
      refine (spend_any g m d w HH.out HO.out hf).mono ?_
      rintro e w1 ⟨rfl, hh1, hw1⟩
      have HD := Lib.hid (ticked hh1 hg (HB.out.head HH.out hw1) hw1)
      clear hh1 hw1
      rw [HT.out]
      go_wp2
      go_ret
      rw [HS.out]
      exact ⟨rfl, HD.out⟩
    · have HT := Lib.hid (told_more hl d.files).1
      have HS := Lib.hid (show remove d f = (0, { tick d with files := del d.files f }) by rw [remove, if_pos hr, (told_more hl _).2])
      clear hl hr
      go_enter Tryz.func62, Tryz.ntmps62
      go_wp2_with fail
      refine (find_yes F g m pl d f x w HH.out HB.out HO.out HX.out).mono ?_
      rintro e w' ⟨rfl, rfl⟩
      go_wp2_with fail
      refine (spend_any g m d w HH.out HO.out hf).mono ?_
      rintro e w1 ⟨rfl, hh1, hw1⟩
      have HB1 := Lib.hid (HB.out.head HH.out hw1)
      have HW1 := Lib.hid hw1
      have HH1 := Lib.hid hh1
      have c3 := hh1.cells.2.2.2
      clear hh1 hw1
      rw [HT.out]
      go_wp2_with (first
        | (at_delete
           refine wpList_delete_own _ rfl _ _ 49 3 rfl 69 (Maps.int_keyed Tryz.underlying3) Tryz.underlying49 rd m _ _ rfl HB1.out.2.1 (.int .i64 f) _ rfl (key_of HI.out) ?_
           intro w2 hown2 hturn2
           have HO2 := Lib.hid hown2
           have HG2 := Lib.hid hturn2.grown
           clear hown2 hturn2)
        | fail)
      go_ret
      rw [HS.out]
      refine ⟨rfl, ⟨m, pl, (HG2.out.block g (Blk.lt HH1.out) fun e => ?_).trans HH1.out, .inl hg, (HB1.out.gone HO2.out HG2.out).mono fun _ hi => .inl hi⟩, ?_⟩
      · injection e with e
        obtain ⟨es, cl, hm⟩ := map_obj HB1.out
        have a := HH1.out
        unfold Head Blk at a
        rw [e, hm] at a
        cases a
      · exact (Turn.grown HW1.out fun k e => by injection e with e; rw [← e]; exact hg).trans (Turn.grown (F := F) HG2.out fun k e => by injection e with e; rw [← e]; exact HB1.out.1) fun _ hi => .inl hi
  · have HS := Lib.hid (remove_no rfl hr)
    generalize hk : refuse d f true = k at hr HS
    have HK := Lib.hid hk
    have HH := Lib.hid hh
    have HB := Lib.hid hb
    have hne : (k == 0) = false := by simpa using hr
    clear hh hb hk
    go_enter Tryz.func62, Tryz.ntmps62
    go_wp2_with fail
    refine (find_no F g m pl d f k w HH.out HB.out HK.out hr).mono ?_
    rintro e w' ⟨rfl, rfl⟩
    go_wp2
    go_ret
    rw [HS.out]
    exact Done.no ⟨m, pl, HH.out, hg, HB.out⟩
end Go.Proofs.YtedfddnbgljcjaaGreat.Disk
