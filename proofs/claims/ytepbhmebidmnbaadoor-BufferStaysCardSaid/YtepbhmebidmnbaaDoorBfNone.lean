/-
  What a buffer that no call made answers.
-/
import Derived.Test.YtepbhmebidmnbaaDoorBfLive
namespace Go.Proofs.YtepbhmebidmnbaaDoor
open Go.RowKit Go.Shelf Go.Lib
attribute [local go_sem] Oper.semAt_some

/-- no buffer, or one that no call made -/
def Unus (W : World) (q : Option Addr) : Prop := q = none ∨ ∃ z, q = some ⟨z, 0, none⟩ ∧ W.cell? ⟨z, 1026, none⟩ = some (.bool false) ∧ z < W.heap.size
theorem Unus.below {w w' : World} {q : Option Addr} (h : Unus w q) (hb : Below w.heap.size w w') : Unus w' q := by
  rcases h with h | ⟨z, h1, h2, h3⟩
  · exact .inl h
  · exact .inr ⟨z, h1, (hb.cell (p := ⟨z, 1026, none⟩) h3).trans h2, Nat.lt_of_lt_of_le h3 hb.size⟩
set_option maxRecDepth 1000000 in
theorem usableN_any (w : World) (q : Option Addr) (h : Unus w q) : Calls Tryd.prog 50 #[.pointer q] w fun e w' => e = .returned (.bool false) ∧ w = w' := by
  rcases h with rfl | ⟨z, rfl, h2, h3⟩
  · go_enter Tryd.func50, Tryd.ntmps50
    go_wp2
    go_ret
    exact ⟨rfl, rfl⟩
  · go_enter Tryd.func50, Tryd.ntmps50
    go_wp2
    go_ret
    exact ⟨rfl, rfl⟩
set_option maxRecDepth 1000000 in
theorem pointN_any (w : World) (q : Option Addr) (h : Unus w q) : Calls Tryd.prog 35 #[.pointer q] w fun e w' => e = .returned (.int .i64 0) ∧ w = w' := by
  have CU := Lib.hid (usableN_any w q h)
  clear h
  go_enter Tryd.func35, Tryd.ntmps35
  go_wp2_with (go_at_call 50; refine (CU.out).mono ?_; rintro e w1 ⟨rfl, rfl⟩)
  go_ret
  exact ⟨rfl, rfl⟩
set_option maxRecDepth 1000000 in
theorem markN_any (w : World) (q : Option Addr) (h : Unus w q) : Calls Tryd.prog 46 #[.pointer q] w fun e w' => e = .returned (.int .i64 0) ∧ w = w' := by
  have CU := Lib.hid (usableN_any w q h)
  clear h
  go_enter Tryd.func46, Tryd.ntmps46
  go_wp2_with (go_at_call 50; refine (CU.out).mono ?_; rintro e w1 ⟨rfl, rfl⟩)
  go_ret
  exact ⟨rfl, rfl⟩
set_option maxRecDepth 1000000 in
theorem lenN_any (w : World) (q : Option Addr) (h : Unus w q) : Calls Tryd.prog 45 #[.pointer q] w fun e w' => e = .returned (.int .i64 0) ∧ w = w' := by
  have CU := Lib.hid (usableN_any w q h)
  clear h
  go_enter Tryd.func45, Tryd.ntmps45
  go_wp2_with (go_at_call 50; refine (CU.out).mono ?_; rintro e w1 ⟨rfl, rfl⟩)
  go_ret
  exact ⟨rfl, rfl⟩
set_option maxRecDepth 1000000 in
theorem textN_any (w : World) (q : Option Addr) (h : Unus w q) : Calls Tryd.prog 34 #[.pointer q] w fun e w' => e = .returned (.slice none 0 0) ∧ w = w' := by
  have CU := Lib.hid (usableN_any w q h)
  clear h
  go_enter Tryd.func34, Tryd.ntmps34
  go_wp2_with (go_at_call 50; refine (CU.out).mono ?_; rintro e w1 ⟨rfl, rfl⟩)
  go_ret
  exact ⟨rfl, rfl⟩
set_option maxRecDepth 1000000 in
theorem cloneN_any (w : World) (q : Option Addr) (h : Unus w q) : Calls Tryd.prog 14 #[.pointer q] w fun e w' => e = .returned (.pointer none) ∧ w = w' := by
  have CU := Lib.hid (usableN_any w q h)
  clear h
  go_enter Tryd.func14, Tryd.ntmps14
  go_wp2_with (go_at_call 50; refine (CU.out).mono ?_; rintro e w1 ⟨rfl, rfl⟩)
  go_ret
  exact ⟨rfl, rfl⟩
set_option maxRecDepth 1000000 in
theorem moveN_any (w : World) (q : Option Addr) (k : Int) (h : Unus w q) : Calls Tryd.prog 16 #[.pointer q, .int .i64 k] w fun e w' => e = .returned (.int .i64 2) ∧ w = w' := by
  have CU := Lib.hid (usableN_any w q h)
  clear h
  go_enter Tryd.func16, Tryd.ntmps16
  go_wp2_with (go_at_call 50; refine (CU.out).mono ?_; rintro e w1 ⟨rfl, rfl⟩)
  go_ret
  exact ⟨rfl, rfl⟩
set_option maxRecDepth 1000000 in
theorem setMarkN_any (w : World) (q : Option Addr) (k : Int) (h : Unus w q) : Calls Tryd.prog 42 #[.pointer q, .int .i64 k] w fun e w' => e = .returned (.int .i64 2) ∧ w = w' := by
  have CU := Lib.hid (usableN_any w q h)
  clear h
  go_enter Tryd.func42, Tryd.ntmps42
  go_wp2_with (go_at_call 50; refine (CU.out).mono ?_; rintro e w1 ⟨rfl, rfl⟩)
  go_ret
  exact ⟨rfl, rfl⟩
set_option maxRecDepth 1000000 in
theorem swapN_any (w : World) (q : Option Addr) (h : Unus w q) : Calls Tryd.prog 43 #[.pointer q] w fun e w' => e = .returned (.int .i64 2) ∧ w = w' := by
  have CU := Lib.hid (usableN_any w q h)
  clear h
  go_enter Tryd.func43, Tryd.ntmps43
  go_wp2_with (go_at_call 50; refine (CU.out).mono ?_; rintro e w1 ⟨rfl, rfl⟩)
  go_ret
  exact ⟨rfl, rfl⟩
set_option maxRecDepth 1000000 in
theorem applyN_any (w : World) (q : Option Addr) (p : Int) (Ad : Option Addr) (nd cd : Nat) (Ai : Option Addr) (ni ci : Nat) (h : Unus w q) : Calls Tryd.prog 36 #[.pointer q, editV p (.slice Ad nd cd) (.slice Ai ni ci)] w fun e w' => e = .returned (.int .i64 2) ∧ Below w.heap.size w w' := by
  have hb : Below w.heap.size w (w.alloc (.cells #[.int .i64 p, .slice Ad nd cd, .slice Ai ni ci] 33)) := (Below.refl _ _).alloc (Nat.le_refl _) _
  have CU := Lib.hid (usableN_any _ q (h.below hb))
  have HB := Lib.hid hb
  clear h hb
  go_enter Tryd.func36, Tryd.ntmps36
  go_wp2_with (go_at_call 50; refine (CU.out).mono ?_; rintro e w1 ⟨rfl, rfl⟩)
  go_ret
  exact ⟨rfl, HB.out⟩
set_option maxRecDepth 1000000 in
theorem replaceN_any (w : World) (q : Option Addr) (a b : Int) (A : Option Addr) (n c : Nat) (h : Unus w q) : Calls Tryd.prog 15 #[.pointer q, .int .i64 a, .int .i64 b, .slice A n c] w (RefPost w 2) := by
  have hb : Below w.heap.size w (w.alloc (.cells edit0 33)) := (Below.refl _ _).alloc (Nat.le_refl _) _
  have CU := Lib.hid (usableN_any _ q (h.below hb))
  have X := Lib.hid (EBox.zero w)
  have HB := Lib.hid hb
  generalize hw1 : w.alloc (.cells edit0 33) = w1 at *
  have HW1 := Lib.hid hw1
  have x0 := X.out.cell 0
  have x1 := X.out.cell 1
  have x2 := X.out.cell 2
  have y0 := X.out.frozen 0
  have y1 := X.out.frozen 1
  have y2 := X.out.frozen 2
  clear h hb hw1
  go_enter Tryd.func15, Tryd.ntmps15
  go_wp2_with fail
  rw [HW1.out]
  go_wp2_with (go_at_call 50; refine (CU.out).mono ?_; rintro e w2 ⟨rfl, rfl⟩)
  refine ret_edit rfl rfl rfl X.out.set rfl (.int .i64 2) rfl ?_
  exact ⟨rfl, below_three w _ w.heap.size (Nat.le_refl _) _ _ _ HB.out⟩
set_option maxRecDepth 1000000 in
theorem insertN_any (w : World) (q : Option Addr) (A : Option Addr) (n c : Nat) (h : Unus w q) : Calls Tryd.prog 40 #[.pointer q, .slice A n c] w (RefPost w 2) := by
  have hb : Below w.heap.size w (w.alloc (.cells edit0 33)) := (Below.refl _ _).alloc (Nat.le_refl _) _
  have CP := Lib.hid (pointN_any _ q (h.below hb))
  have CR := Lib.hid (replaceN_any _ q 0 0 A n c (h.below hb))
  have X := Lib.hid (EBox.zero w)
  have HB := Lib.hid hb
  generalize hw1 : w.alloc (.cells edit0 33) = w1 at *
  have HW1 := Lib.hid hw1
  clear h hb hw1
  go_enter Tryd.func40, Tryd.ntmps40
  go_wp2_with fail
  rw [HW1.out]
  go_wp2_with (first
    | (go_at_call 35; refine (CP.out).mono ?_; rintro e w2 ⟨rfl, rfl⟩)
    | (go_at_call 15; refine (CR.out).mono ?_; rintro e w2 ⟨rfl, hb⟩; have X := Lib.hid (X.out.below hb); have HB := Lib.hid (HB.out.trans (hb.mono HB.out.size)); have x0 := X.out.cell 0; have x1 := X.out.cell 1; have x2 := X.out.cell 2; have y0 := X.out.frozen 0; have y1 := X.out.frozen 1; have y2 := X.out.frozen 2; clear hb))
  refine ret_edit rfl rfl rfl X.out.set rfl (.int .i64 2) rfl ?_
  exact ⟨rfl, below_three w _ w.heap.size (Nat.le_refl _) _ _ _ HB.out⟩
set_option maxRecDepth 1000000 in
theorem deleteN_any (w : World) (q : Option Addr) (a b : Int) (h : Unus w q) : Calls Tryd.prog 41 #[.pointer q, .int .i64 a, .int .i64 b] w (RefPost w 2) := by
  have hb : Below w.heap.size w (w.alloc (.cells edit0 33)) := (Below.refl _ _).alloc (Nat.le_refl _) _
  have CR := Lib.hid (replaceN_any _ q a b none 0 0 (h.below hb))
  have X := Lib.hid (EBox.zero w)
  have HB := Lib.hid hb
  generalize hw1 : w.alloc (.cells edit0 33) = w1 at *
  have HW1 := Lib.hid hw1
  clear h hb hw1
  go_enter Tryd.func41, Tryd.ntmps41
  go_wp2_with fail
  rw [HW1.out]
  go_wp2_with (first
    | (go_at_call 15; refine (CR.out).mono ?_; rintro e w2 ⟨rfl, hb⟩; have X := Lib.hid (X.out.below hb); have HB := Lib.hid (HB.out.trans (hb.mono HB.out.size)); have x0 := X.out.cell 0; have x1 := X.out.cell 1; have x2 := X.out.cell 2; have y0 := X.out.frozen 0; have y1 := X.out.frozen 1; have y2 := X.out.frozen 2; clear hb))
  refine ret_edit rfl rfl rfl X.out.set rfl (.int .i64 2) rfl ?_
  exact ⟨rfl, below_three w _ w.heap.size (Nat.le_refl _) _ _ _ HB.out⟩
set_option maxRecDepth 1000000 in
theorem lineN_any (w : World) (q : Option Addr) (h : Unus w q) : Calls Tryd.prog 39 #[.pointer q] w fun e w' => e = .returned (lineV (.slice none 0 0) 0 0) ∧ Below w.heap.size w w' := by
  have hb : Below w.heap.size w (w.alloc (.cells #[.slice none 0 0, .int .i64 0, .int .i64 0] 55)) := (Below.refl _ _).alloc (Nat.le_refl _) _
  have CT := Lib.hid (textN_any _ q (h.below hb))
  have CP := Lib.hid (pointN_any _ q (h.below hb))
  have CM := Lib.hid (markN_any _ q (h.below hb))
  have hX : (w.alloc (.cells #[.slice none 0 0, .int .i64 0, .int .i64 0] 55)).heap[w.heap.size]? = some (.cells #[.slice none 0 0, .int .i64 0, .int .i64 0] 55 (0, 0)) := alloc_new _ _
  have X := Lib.hid hX
  have HB := Lib.hid hb
  generalize hw1 : w.alloc (.cells #[.slice none 0 0, .int .i64 0, .int .i64 0] 55) = w1 at *
  have HW1 := Lib.hid hw1
  have x0 := cell_of_row w1 w.heap.size 0 _ _ _ X.out
  have x1 := cell_of_row w1 w.heap.size 1 _ _ _ X.out
  have x2 := cell_of_row w1 w.heap.size 2 _ _ _ X.out
  have y0 := frozen_of_row w1 w.heap.size 0 _ _ X.out
  have y1 := frozen_of_row w1 w.heap.size 1 _ _ X.out
  have y2 := frozen_of_row w1 w.heap.size 2 _ _ X.out
  clear h hb hw1 hX
  go_enter Tryd.func39, Tryd.ntmps39
  go_wp2_with fail
  rw [HW1.out]
  go_wp2_with (first
    | (go_at_call 34; refine (CT.out).mono ?_; rintro e w2 ⟨rfl, rfl⟩)
    | (go_at_call 35; refine (CP.out).mono ?_; rintro e w2 ⟨rfl, rfl⟩)
    | (go_at_call 46; refine (CM.out).mono ?_; rintro e w2 ⟨rfl, rfl⟩))
  refine bodyPost_ret (results_cell_row rfl _ _ w.heap.size 55 #[.slice none 0 0, .int .i64 0, .int .i64 0] (0, 0) _ rfl (heap_setCell_same _ w.heap.size 2 _ _ _ (heap_setCell_same _ w.heap.size 1 _ _ _ (heap_setCell_same _ w.heap.size 0 _ _ _ X.out))) Tryd.underlying55 rfl (by kernel_rfl)) rfl ?_
  exact ⟨rfl, below_three w _ w.heap.size (Nat.le_refl _) _ _ _ HB.out⟩
end Go.Proofs.YtepbhmebidmnbaaDoor
