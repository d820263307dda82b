/-
  What SetFault and Restart of package simfs return and change, for every file system.
-/
import Derived.Test.YthpkfgjjaieikaaGreatDoorFsOps
namespace Go.Proofs.YthpkfgjjaieikaaGreatDoor
open Go.RowKit Go.Shelf Go.Lib Go.Maps

theorem build_fault (k i j : Int) (w : World) : (Instr.build 70 #[(0, .int .i64 k), (1, .int .i64 i), (2, .int .i64 j)]).run Tryz.prog w = .ok (.agg #[.int .i64 k, .int .i64 i, .int .i64 j]) w := run_build w _ _ _ (by kernel_rfl)

theorem set_bad (w : World) (FP : Nat → Prop) (b bm : Nat) (es : List Ent) (s : St) (k i j : Int) (h : FsAt w FP b bm es s) (hb : k < 0 ∨ i < 0 ∨ 3 < i ∨ j < 0) :
    Calls Tryz.prog 43 #[.pointer (some ⟨b, 0, none⟩), .int .i64 k, .int .i64 i, .int .i64 j] w (OpPost w FP b bm (1, es, s)) := by
  have CU := Lib.hid (usable_some w b bm h.cell0)
  have HF := Lib.hid h
  clear h
  have hcases : k < 0 ∨ (0 ≤ k ∧ i < 0) ∨ (0 ≤ k ∧ 0 ≤ i ∧ 3 < i) ∨ (0 ≤ k ∧ 0 ≤ i ∧ i ≤ 3 ∧ j < 0) := by omega
  clear hb
  rcases hcases with h1 | ⟨h1, h2⟩ | ⟨h1, h2, h3⟩ | ⟨h1, h2, h3, h4⟩
  all_goals
    go_enter Tryz.func43, Tryz.ntmps43
    go_wp2_with (go_at_call 50; refine (CU.out).mono ?_; rintro e w1 ⟨rfl, rfl⟩)
    go_ret
    exact ⟨rfl, HF.out, Touch.refl _ _⟩

theorem set_good (w : World) (FP : Nat → Prop) (b bm : Nat) (es : List Ent) (s : St) (k i j : Int) (h : FsAt w FP b bm es s) (h1 : 0 ≤ k) (h2 : 0 ≤ i) (h3 : i ≤ 3) (h4 : 0 ≤ j) :
    Calls Tryz.prog 43 #[.pointer (some ⟨b, 0, none⟩), .int .i64 k, .int .i64 i, .int .i64 j] w (OpPost w FP b bm (if s.down then 22 else 0, es, if s.down then s else { s with left := k, kind := i, keep := j })) := by
  have CU := Lib.hid (usable_some w b bm h.cell0)
  have hbd := build_fault k i j
  have c5 := h.cell5
  have c1 := h.cell1
  have c2 := h.cell2
  have c3 := h.cell3
  have f1 := h.frozen 1
  have f2 := h.frozen 2
  have f3 := h.frozen 3
  have HF := Lib.hid h
  clear h
  cases hd : s.down with
  | true =>
    rw [hd] at c5
    have HD := Lib.hid hd
    clear hd
    go_enter Tryz.func43, Tryz.ntmps43
    go_wp2_with (go_at_call 50; refine (CU.out).mono ?_; rintro e w1 ⟨rfl, rfl⟩)
    go_ret
    exact ⟨rfl, HF.out, Touch.refl _ _⟩
  | false =>
    rw [hd] at c5
    have HD := Lib.hid hd
    clear hd
    go_enter Tryz.func43, Tryz.ntmps43
    go_wp2_with (go_at_call 50; refine (CU.out).mono ?_; rintro e w1 ⟨rfl, rfl⟩)
    go_ret
    have hf := ((HF.out.set1 k).set2 i).set3 j
    simp only [HD.out] at hf
    exact ⟨rfl, hf, (((touch_at _ _ _ _).trans (touch_at _ _ _ _)).trans (touch_at _ _ _ _)).mono fun _ _ e => e ▸ HF.out.own⟩

theorem setFault_any (w : World) (FP : Nat → Prop) (b bm : Nat) (es : List Ent) (s : St) (k i j : Int) (h : FsAt w FP b bm es s) :
    Calls Tryz.prog 43 #[.pointer (some ⟨b, 0, none⟩), .int .i64 k, .int .i64 i, .int .i64 j] w (OpPost w FP b bm ((setP s k i j).1, es, (setP s k i j).2)) := by
  unfold setP
  by_cases hb : k < 0 ∨ i < 0 ∨ 3 < i ∨ j < 0
  · rw [if_pos hb]
    exact set_bad w FP b bm es s k i j h hb
  · rw [if_neg hb]
    have := set_good w FP b bm es s k i j h (by omega) (by omega) (by omega) (by omega)
    cases hd : s.down with
    | true => rw [hd] at this; exact this
    | false => rw [hd] at this; exact this

def restartP (s : St) : Int × St := if s.down then (0, { s with down := false }) else (1, s)
theorem restart_any (w : World) (FP : Nat → Prop) (b bm : Nat) (es : List Ent) (s : St) (h : FsAt w FP b bm es s) :
    Calls Tryz.prog 45 #[.pointer (some ⟨b, 0, none⟩)] w (OpPost w FP b bm ((restartP s).1, es, (restartP s).2)) := by
  have CU := Lib.hid (usable_some w b bm h.cell0)
  have c5 := h.cell5
  have f5 := h.frozen 5
  have HF := Lib.hid h
  clear h
  unfold restartP
  cases hd : s.down with
  | true =>
    rw [hd] at c5
    clear hd
    go_enter Tryz.func45, Tryz.ntmps45
    go_wp2_with (go_at_call 50; refine (CU.out).mono ?_; rintro e w1 ⟨rfl, rfl⟩)
    go_ret
    exact ⟨rfl, HF.out.set5 false, (touch_at _ _ _ _).mono fun _ _ e => e ▸ HF.out.own⟩
  | false =>
    rw [hd] at c5
    have HD := Lib.hid hd
    clear hd
    go_enter Tryz.func45, Tryz.ntmps45
    go_wp2_with (go_at_call 50; refine (CU.out).mono ?_; rintro e w1 ⟨rfl, rfl⟩)
    go_ret
    exact ⟨rfl, HF.out, Touch.refl _ _⟩

end Go.Proofs.YthpkfgjjaieikaaGreatDoor
