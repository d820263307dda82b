/-
  What the functions on single edits answer: Inverse, same, the document's Inverse and Clone, and its comparison of two edits.
-/
import Derived.Test.YtjgjbdpknfplkaaUdRunes
namespace Go.Proofs.Ytjgjbdpknfplkaa
open Go.RowKit Go.Shelf Go.Lib
attribute [local go_sem] Oper.semAt_some

/-- an edit -/
structure Ed where
  p : Int
  d : List Int
  i : List Int
deriving DecidableEq
def Ed.inv (e : Ed) : Ed := ⟨e.p, e.i, e.d⟩
theorem three_other (W : World) (r : Nat) (x y z : Value) {k : Nat} (hk : k ≠ r) : ((((W.setCell ⟨r, 0, none⟩ x).setCell ⟨r, 1, none⟩ y).setCell ⟨r, 2, none⟩ z)).heap[k]? = W.heap[k]? := by
  have hne : ∀ o, k ≠ (⟨r, o, none⟩ : Addr).block := fun o e => hk e
  rw [Below.heap_setCell _ _ _ k (hne 2), Below.heap_setCell _ _ _ k (hne 1), Below.heap_setCell _ _ _ k (hne 0)]
theorem RRow.three {W : World} {B r : Nat} {v : Value} {l : List Int} {cs : Array Value} {x y z : Value} (h : RRow W B v l) (hX : EBox W r cs) : RRow (((W.setCell ⟨r, 0, none⟩ x).setCell ⟨r, 1, none⟩ y).setCell ⟨r, 2, none⟩ z) B v l :=
  own_same h fun k hk => three_other _ _ _ _ _ fun e => by
    subst e
    obtain ⟨cur, hh⟩ := own_kind h hk
    unfold EBox at hX
    rw [hh] at hX
    injection hX with hX
    injection hX with _ ht
    cases ht
theorem below_three (w W : World) (r : Nat) (hr : w.heap.size ≤ r) (x y z : Value) (h : Below w.heap.size w W) : Below w.heap.size w (((W.setCell ⟨r, 0, none⟩ x).setCell ⟨r, 1, none⟩ y).setCell ⟨r, 2, none⟩ z) := by
  refine ⟨h.os, h.tape, h.output, ?_, fun k hk => ?_⟩
  · have := h.size; simp [World.setCell]; exact this
  · have hne : ∀ o, k ≠ (⟨r, o, none⟩ : Addr).block := fun o e => by simp at e; omega
    rw [Below.heap_setCell _ _ _ k (hne 2), Below.heap_setCell _ _ _ k (hne 1), Below.heap_setCell _ _ _ k (hne 0)]
    exact h.block k hk
theorem EBox.zero (w : World) : EBox (w.alloc (.cells edit0 24)) w.heap.size edit0 := alloc_new _ _

/-- the answer's edit, alone, lies in a box of its own -/
theorem ret_edit1 {fn : Func} {Q : Ending → World → Prop} {a : Act} {W : World} {p : Tmp} {cs : Array Value} {g : Nat} {t : TypeId} {fr : Nat × Nat} (h : fn.results = #[.cell p 24]) (hd : a.defers = []) (hp : a.tmps.getD p undef = .pointer (some ⟨g, 0, none⟩))
    (hg : W.heap[g]? = some (.cells cs t fr)) (h3 : cs.size = 3) (hR : Q (.returned (.agg cs)) W) : bodyPost Try.prog fn Q .ret a W :=
  bodyPost_ret (results_cell_row h _ _ g t cs fr _ hp hg Try.underlying24 rfl (by rw [h3]; kernel_rfl)) hd hR
set_option maxRecDepth 1000000 in
set_option maxHeartbeats 4000000 in
theorem inverse_any (w : World) (p : Int) (x y : List Int) (v1 v2 : Value) (h1 : Holds1 w v1 (runeVals x)) (h2 : Holds1 w v2 (runeVals y)) (hx : x.length ≤ 35184372088832) (hy : y.length ≤ 35184372088832) :
    Calls Try.prog 16 #[editV p v1 v2] w fun e w' => ∃ u1 u2, e = .returned (editV p u1 u2) ∧ RRow w' w.heap.size u1 y ∧ RRow w' w.heap.size u2 x ∧ Below w.heap.size w w' := by
  obtain ⟨A1, c1, e1, _⟩ := id h1
  obtain ⟨A2, c2, e2, _⟩ := id h2
  obtain ⟨w1, hw1⟩ : ∃ w1, w1 = (w.alloc (.cells #[.int .i64 p, v1, v2] 24)).alloc (.cells edit0 24) := ⟨_, rfl⟩
  have b1 : Below w.heap.size w (w.alloc (.cells #[.int .i64 p, v1, v2] 24)) := (Below.refl _ _).alloc (Nat.le_refl _) _
  have b2 : Below (w.alloc (.cells #[.int .i64 p, v1, v2] 24)).heap.size (w.alloc (.cells #[.int .i64 p, v1, v2] 24)) w1 := by rw [hw1]; exact (Below.refl _ _).alloc (Nat.le_refl _) _
  have b3 : Below w1.heap.size w1 w1.drew := (Below.refl _ _).drew
  have B := Lib.hid ((b1.trans (b2.mono b1.size)).trans (b3.mono (b1.trans (b2.mono b1.size)).size))
  have X : Hid (EBox w1.drew w.heap.size #[.int .i64 p, v1, v2]) := Lib.hid (show EBox w1 w.heap.size #[.int .i64 p, v1, v2] from EBox.below (alloc_new _ _) b2)
  have Y : Hid (EBox w1.drew (w.heap.size + 1) edit0) := Lib.hid (by
    have := alloc_new (w.alloc (.cells #[.int .i64 p, v1, v2] 24)) (.cells edit0 24)
    rw [← hw1] at this
    rw [show (w.alloc (.cells #[.int .i64 p, v1, v2] 24)).heap.size = w.heap.size + 1 by simp] at this
    exact this)
  have C1 : Hid (∀ W, Below w.heap.size w W → Calls Try.prog 49 #[v2] W fun e w' => ∃ v', e = .returned v' ∧ RRow w' W.heap.size v' y ∧ Below W.heap.size W w') := Lib.hid fun W hb => cloneR_any W v2 y (h2.below hb) hy
  have C2 : Hid (∀ W, Below w.heap.size w W → Calls Try.prog 49 #[v1] W fun e w' => ∃ v', e = .returned v' ∧ RRow w' W.heap.size v' x ∧ Below W.heap.size W w') := Lib.hid fun W hb => cloneR_any W v1 x (h1.below hb) hx
  have hT0 : w1.drew.cell? ⟨w.heap.size, 0, none⟩ = some (.int .i64 p) ∧ w1.drew.cell? ⟨w.heap.size, 1, none⟩ = some v1 ∧ w1.drew.cell? ⟨w.heap.size, 2, none⟩ = some v2 := ⟨X.out.cell 0, X.out.cell 1, X.out.cell 2⟩
  have HW1 := Lib.hid hw1
  have tok1 : True := trivial
  clear h1 h2 b1 b2 b3 hw1 hx hy
  subst e1 e2
  generalize (runeVals x).length = n1 at *
  generalize (runeVals y).length = n2 at *
  go_enter Try.func16, Try.ntmps16
  go_wp2_with fail
  rw [← HW1.out]
  go_region_held3 (fun W => W.cell? ⟨w.heap.size, 0, none⟩ = some (.int .i64 p) ∧ W.cell? ⟨w.heap.size, 1, none⟩ = some (.slice A1 n1 c1) ∧ W.cell? ⟨w.heap.size, 2, none⟩ = some (.slice A2 n2 c2)) (first | with_reducible exact hT2 | with_reducible exact hT1 | with_reducible exact hT0 | go_keep | fail) (first
    | (go_at_call 49; have tk := tok1; refine (C1.out _ B.out).mono ?_; rintro e w2 ⟨u1, rfl, hr, hb⟩; obtain ⟨Au, nu, cu, rfl⟩ := hr.form3; have R1 := Lib.hid (hr.less B.out.size); have B := Lib.hid (B.out.trans (hb.mono B.out.size)); have X := Lib.hid (X.out.below hb); have Y := Lib.hid (Y.out.below hb); have hT1 : w2.cell? ⟨w.heap.size, 0, none⟩ = some (.int .i64 p) ∧ w2.cell? ⟨w.heap.size, 1, none⟩ = some (.slice A1 n1 c1) ∧ w2.cell? ⟨w.heap.size, 2, none⟩ = some (.slice A2 n2 c2) := ⟨X.out.cell 0, X.out.cell 1, X.out.cell 2⟩; have tok2 : True := trivial; clear hr hb tk tok1)
    | (go_at_call 49; have tk := tok2; refine (C2.out _ B.out).mono ?_; rintro e w3 ⟨u2, rfl, hr, hb⟩; obtain ⟨Av, nv, cv, rfl⟩ := hr.form3; have R2 := Lib.hid (hr.less B.out.size); have R1 := Lib.hid (R1.out.below hb); have B := Lib.hid (B.out.trans (hb.mono B.out.size)); have X := Lib.hid (X.out.below hb); have Y := Lib.hid (Y.out.below hb); have hT2 : w3.cell? ⟨w.heap.size, 0, none⟩ = some (.int .i64 p) ∧ w3.cell? ⟨w.heap.size, 1, none⟩ = some (.slice A1 n1 c1) ∧ w3.cell? ⟨w.heap.size, 2, none⟩ = some (.slice A2 n2 c2) := ⟨X.out.cell 0, X.out.cell 1, X.out.cell 2⟩; have y0 := Y.out.cell 0; have y1 := Y.out.cell 1; have y2 := Y.out.cell 2; have z0 := Y.out.frozen 0; have z1 := Y.out.frozen 1; have z2 := Y.out.frozen 2; clear hr hb tk tok2))
  all_goals
    go_wp2
    refine ret_edit1 rfl rfl rfl Y.out.set rfl ?_
    exact ⟨_, _, rfl, R1.out.three Y.out, R2.out.three Y.out, below_three w _ (w.heap.size + 1) (Nat.le_succ _) _ _ _ B.out⟩
set_option maxRecDepth 1000000 in
set_option maxHeartbeats 4000000 in
theorem same_edit (w : World) (p : Int) (x y : List Int) (v1 v2 : Value) (h1 : Holds1 w v1 (runeVals x)) (h2 : Holds1 w v2 (runeVals y)) (hx : x.length ≤ 35184372088832) (hy : y.length ≤ 35184372088832) :
    Calls Try.prog 59 #[editV p v1 v2] w fun e w' => ∃ u1 u2, e = .returned (editV p u1 u2) ∧ RRow w' w.heap.size u1 x ∧ RRow w' w.heap.size u2 y ∧ Below w.heap.size w w' := by
  obtain ⟨A1, c1, e1, _⟩ := id h1
  obtain ⟨A2, c2, e2, _⟩ := id h2
  obtain ⟨w1, hw1⟩ : ∃ w1, w1 = (w.alloc (.cells #[.int .i64 p, v1, v2] 24)).alloc (.cells edit0 24) := ⟨_, rfl⟩
  have b1 : Below w.heap.size w (w.alloc (.cells #[.int .i64 p, v1, v2] 24)) := (Below.refl _ _).alloc (Nat.le_refl _) _
  have b2 : Below (w.alloc (.cells #[.int .i64 p, v1, v2] 24)).heap.size (w.alloc (.cells #[.int .i64 p, v1, v2] 24)) w1 := by rw [hw1]; exact (Below.refl _ _).alloc (Nat.le_refl _) _
  have b3 : Below w1.heap.size w1 w1.drew := (Below.refl _ _).drew
  have B := Lib.hid ((b1.trans (b2.mono b1.size)).trans (b3.mono (b1.trans (b2.mono b1.size)).size))
  have X : Hid (EBox w1.drew w.heap.size #[.int .i64 p, v1, v2]) := Lib.hid (show EBox w1 w.heap.size #[.int .i64 p, v1, v2] from EBox.below (alloc_new _ _) b2)
  have Y : Hid (EBox w1.drew (w.heap.size + 1) edit0) := Lib.hid (by
    have := alloc_new (w.alloc (.cells #[.int .i64 p, v1, v2] 24)) (.cells edit0 24)
    rw [← hw1] at this
    rw [show (w.alloc (.cells #[.int .i64 p, v1, v2] 24)).heap.size = w.heap.size + 1 by simp] at this
    exact this)
  have C1 : Hid (∀ W, Below w.heap.size w W → Calls Try.prog 49 #[v1] W fun e w' => ∃ v', e = .returned v' ∧ RRow w' W.heap.size v' x ∧ Below W.heap.size W w') := Lib.hid fun W hb => cloneR_any W v1 x (h1.below hb) hx
  have C2 : Hid (∀ W, Below w.heap.size w W → Calls Try.prog 49 #[v2] W fun e w' => ∃ v', e = .returned v' ∧ RRow w' W.heap.size v' y ∧ Below W.heap.size W w') := Lib.hid fun W hb => cloneR_any W v2 y (h2.below hb) hy
  have hT0 : w1.drew.cell? ⟨w.heap.size, 0, none⟩ = some (.int .i64 p) ∧ w1.drew.cell? ⟨w.heap.size, 1, none⟩ = some v1 ∧ w1.drew.cell? ⟨w.heap.size, 2, none⟩ = some v2 := ⟨X.out.cell 0, X.out.cell 1, X.out.cell 2⟩
  have HW1 := Lib.hid hw1
  have tok1 : True := trivial
  clear h1 h2 b1 b2 b3 hw1 hx hy
  subst e1 e2
  generalize (runeVals x).length = n1 at *
  generalize (runeVals y).length = n2 at *
  go_enter Try.func59, Try.ntmps59
  go_wp2_with fail
  rw [← HW1.out]
  go_region_held3 (fun W => W.cell? ⟨w.heap.size, 0, none⟩ = some (.int .i64 p) ∧ W.cell? ⟨w.heap.size, 1, none⟩ = some (.slice A1 n1 c1) ∧ W.cell? ⟨w.heap.size, 2, none⟩ = some (.slice A2 n2 c2)) (first | with_reducible exact hT2 | with_reducible exact hT1 | with_reducible exact hT0 | go_keep | fail) (first
    | (go_at_call 49; have tk := tok1; refine (C1.out _ B.out).mono ?_; rintro e w2 ⟨u1, rfl, hr, hb⟩; obtain ⟨Au, nu, cu, rfl⟩ := hr.form3; have R1 := Lib.hid (hr.less B.out.size); have B := Lib.hid (B.out.trans (hb.mono B.out.size)); have X := Lib.hid (X.out.below hb); have Y := Lib.hid (Y.out.below hb); have hT1 : w2.cell? ⟨w.heap.size, 0, none⟩ = some (.int .i64 p) ∧ w2.cell? ⟨w.heap.size, 1, none⟩ = some (.slice A1 n1 c1) ∧ w2.cell? ⟨w.heap.size, 2, none⟩ = some (.slice A2 n2 c2) := ⟨X.out.cell 0, X.out.cell 1, X.out.cell 2⟩; have tok2 : True := trivial; clear hr hb tk tok1)
    | (go_at_call 49; have tk := tok2; refine (C2.out _ B.out).mono ?_; rintro e w3 ⟨u2, rfl, hr, hb⟩; obtain ⟨Av, nv, cv, rfl⟩ := hr.form3; have R2 := Lib.hid (hr.less B.out.size); have R1 := Lib.hid (R1.out.below hb); have B := Lib.hid (B.out.trans (hb.mono B.out.size)); have X := Lib.hid (X.out.below hb); have Y := Lib.hid (Y.out.below hb); have hT2 : w3.cell? ⟨w.heap.size, 0, none⟩ = some (.int .i64 p) ∧ w3.cell? ⟨w.heap.size, 1, none⟩ = some (.slice A1 n1 c1) ∧ w3.cell? ⟨w.heap.size, 2, none⟩ = some (.slice A2 n2 c2) := ⟨X.out.cell 0, X.out.cell 1, X.out.cell 2⟩; have y0 := Y.out.cell 0; have y1 := Y.out.cell 1; have y2 := Y.out.cell 2; have z0 := Y.out.frozen 0; have z1 := Y.out.frozen 1; have z2 := Y.out.frozen 2; clear hr hb tk tok2))
  all_goals
    go_wp2
    refine ret_edit1 rfl rfl rfl Y.out.set rfl ?_
    exact ⟨_, _, rfl, R1.out.three Y.out, R2.out.three Y.out, below_three w _ (w.heap.size + 1) (Nat.le_succ _) _ _ _ B.out⟩
set_option maxRecDepth 1000000 in
set_option maxHeartbeats 4000000 in
theorem refInverse_any (w : World) (p : Int) (x y : List Int) (v1 v2 : Value) (h1 : Holds1 w v1 (runeVals x)) (h2 : Holds1 w v2 (runeVals y)) (hx : x.length ≤ 35184372088832) (hy : y.length ≤ 35184372088832) :
    Calls Try.prog 17 #[editV p v1 v2] w fun e w' => ∃ u1 u2, e = .returned (editV p u1 u2) ∧ RRow w' w.heap.size u1 y ∧ RRow w' w.heap.size u2 x ∧ Below w.heap.size w w' := by
  obtain ⟨A1, c1, e1, _⟩ := id h1
  obtain ⟨A2, c2, e2, _⟩ := id h2
  obtain ⟨w1, hw1⟩ : ∃ w1, w1 = (w.alloc (.cells #[.int .i64 p, v1, v2] 24)).alloc (.cells edit0 24) := ⟨_, rfl⟩
  have b1 : Below w.heap.size w (w.alloc (.cells #[.int .i64 p, v1, v2] 24)) := (Below.refl _ _).alloc (Nat.le_refl _) _
  have b2 : Below (w.alloc (.cells #[.int .i64 p, v1, v2] 24)).heap.size (w.alloc (.cells #[.int .i64 p, v1, v2] 24)) w1 := by rw [hw1]; exact (Below.refl _ _).alloc (Nat.le_refl _) _
  have b3 : Below w1.heap.size w1 w1.drew := (Below.refl _ _).drew
  have B := Lib.hid ((b1.trans (b2.mono b1.size)).trans (b3.mono (b1.trans (b2.mono b1.size)).size))
  have X : Hid (EBox w1.drew w.heap.size #[.int .i64 p, v1, v2]) := Lib.hid (show EBox w1 w.heap.size #[.int .i64 p, v1, v2] from EBox.below (alloc_new _ _) b2)
  have Y : Hid (EBox w1.drew (w.heap.size + 1) edit0) := Lib.hid (by
    have := alloc_new (w.alloc (.cells #[.int .i64 p, v1, v2] 24)) (.cells edit0 24)
    rw [← hw1] at this
    rw [show (w.alloc (.cells #[.int .i64 p, v1, v2] 24)).heap.size = w.heap.size + 1 by simp] at this
    exact this)
  have C1 : Hid (∀ W, Below w.heap.size w W → Calls Try.prog 47 #[v2] W fun e w' => ∃ v', e = .returned v' ∧ RRow w' W.heap.size v' y ∧ Below W.heap.size W w') := Lib.hid fun W hb => clone_any W v2 y (h2.below hb) hy
  have C2 : Hid (∀ W, Below w.heap.size w W → Calls Try.prog 47 #[v1] W fun e w' => ∃ v', e = .returned v' ∧ RRow w' W.heap.size v' x ∧ Below W.heap.size W w') := Lib.hid fun W hb => clone_any W v1 x (h1.below hb) hx
  have hT0 : w1.drew.cell? ⟨w.heap.size, 0, none⟩ = some (.int .i64 p) ∧ w1.drew.cell? ⟨w.heap.size, 1, none⟩ = some v1 ∧ w1.drew.cell? ⟨w.heap.size, 2, none⟩ = some v2 := ⟨X.out.cell 0, X.out.cell 1, X.out.cell 2⟩
  have HW1 := Lib.hid hw1
  have tok1 : True := trivial
  clear h1 h2 b1 b2 b3 hw1 hx hy
  subst e1 e2
  generalize (runeVals x).length = n1 at *
  generalize (runeVals y).length = n2 at *
  go_enter Try.func17, Try.ntmps17
  go_wp2_with fail
  rw [← HW1.out]
  go_region_held3 (fun W => W.cell? ⟨w.heap.size, 0, none⟩ = some (.int .i64 p) ∧ W.cell? ⟨w.heap.size, 1, none⟩ = some (.slice A1 n1 c1) ∧ W.cell? ⟨w.heap.size, 2, none⟩ = some (.slice A2 n2 c2)) (first | with_reducible exact hT2 | with_reducible exact hT1 | with_reducible exact hT0 | go_keep | fail) (first
    | (go_at_call 47; have tk := tok1; refine (C1.out _ B.out).mono ?_; rintro e w2 ⟨u1, rfl, hr, hb⟩; obtain ⟨Au, nu, cu, rfl⟩ := hr.form3; have R1 := Lib.hid (hr.less B.out.size); have B := Lib.hid (B.out.trans (hb.mono B.out.size)); have X := Lib.hid (X.out.below hb); have Y := Lib.hid (Y.out.below hb); have hT1 : w2.cell? ⟨w.heap.size, 0, none⟩ = some (.int .i64 p) ∧ w2.cell? ⟨w.heap.size, 1, none⟩ = some (.slice A1 n1 c1) ∧ w2.cell? ⟨w.heap.size, 2, none⟩ = some (.slice A2 n2 c2) := ⟨X.out.cell 0, X.out.cell 1, X.out.cell 2⟩; have tok2 : True := trivial; clear hr hb tk tok1)
    | (go_at_call 47; have tk := tok2; refine (C2.out _ B.out).mono ?_; rintro e w3 ⟨u2, rfl, hr, hb⟩; obtain ⟨Av, nv, cv, rfl⟩ := hr.form3; have R2 := Lib.hid (hr.less B.out.size); have R1 := Lib.hid (R1.out.below hb); have B := Lib.hid (B.out.trans (hb.mono B.out.size)); have X := Lib.hid (X.out.below hb); have Y := Lib.hid (Y.out.below hb); have hT2 : w3.cell? ⟨w.heap.size, 0, none⟩ = some (.int .i64 p) ∧ w3.cell? ⟨w.heap.size, 1, none⟩ = some (.slice A1 n1 c1) ∧ w3.cell? ⟨w.heap.size, 2, none⟩ = some (.slice A2 n2 c2) := ⟨X.out.cell 0, X.out.cell 1, X.out.cell 2⟩; have y0 := Y.out.cell 0; have y1 := Y.out.cell 1; have y2 := Y.out.cell 2; have z0 := Y.out.frozen 0; have z1 := Y.out.frozen 1; have z2 := Y.out.frozen 2; clear hr hb tk tok2))
  all_goals
    go_wp2
    refine ret_edit1 rfl rfl rfl Y.out.set rfl ?_
    exact ⟨_, _, rfl, R1.out.three Y.out, R2.out.three Y.out, below_three w _ (w.heap.size + 1) (Nat.le_succ _) _ _ _ B.out⟩
set_option maxRecDepth 1000000 in
set_option maxHeartbeats 4000000 in
theorem refClone_any (w : World) (p : Int) (x y : List Int) (v1 v2 : Value) (h1 : Holds1 w v1 (runeVals x)) (h2 : Holds1 w v2 (runeVals y)) (hx : x.length ≤ 35184372088832) (hy : y.length ≤ 35184372088832) :
    Calls Try.prog 43 #[editV p v1 v2] w fun e w' => ∃ u1 u2, e = .returned (editV p u1 u2) ∧ RRow w' w.heap.size u1 x ∧ RRow w' w.heap.size u2 y ∧ Below w.heap.size w w' := by
  obtain ⟨A1, c1, e1, _⟩ := id h1
  obtain ⟨A2, c2, e2, _⟩ := id h2
  obtain ⟨w1, hw1⟩ : ∃ w1, w1 = (w.alloc (.cells #[.int .i64 p, v1, v2] 24)).alloc (.cells edit0 24) := ⟨_, rfl⟩
  have b1 : Below w.heap.size w (w.alloc (.cells #[.int .i64 p, v1, v2] 24)) := (Below.refl _ _).alloc (Nat.le_refl _) _
  have b2 : Below (w.alloc (.cells #[.int .i64 p, v1, v2] 24)).heap.size (w.alloc (.cells #[.int .i64 p, v1, v2] 24)) w1 := by rw [hw1]; exact (Below.refl _ _).alloc (Nat.le_refl _) _
  have b3 : Below w1.heap.size w1 w1.drew := (Below.refl _ _).drew
  have B := Lib.hid ((b1.trans (b2.mono b1.size)).trans (b3.mono (b1.trans (b2.mono b1.size)).size))
  have X : Hid (EBox w1.drew w.heap.size #[.int .i64 p, v1, v2]) := Lib.hid (show EBox w1 w.heap.size #[.int .i64 p, v1, v2] from EBox.below (alloc_new _ _) b2)
  have Y : Hid (EBox w1.drew (w.heap.size + 1) edit0) := Lib.hid (by
    have := alloc_new (w.alloc (.cells #[.int .i64 p, v1, v2] 24)) (.cells edit0 24)
    rw [← hw1] at this
    rw [show (w.alloc (.cells #[.int .i64 p, v1, v2] 24)).heap.size = w.heap.size + 1 by simp] at this
    exact this)
  have C1 : Hid (∀ W, Below w.heap.size w W → Calls Try.prog 47 #[v1] W fun e w' => ∃ v', e = .returned v' ∧ RRow w' W.heap.size v' x ∧ Below W.heap.size W w') := Lib.hid fun W hb => clone_any W v1 x (h1.below hb) hx
  have C2 : Hid (∀ W, Below w.heap.size w W → Calls Try.prog 47 #[v2] W fun e w' => ∃ v', e = .returned v' ∧ RRow w' W.heap.size v' y ∧ Below W.heap.size W w') := Lib.hid fun W hb => clone_any W v2 y (h2.below hb) hy
  have hT0 : w1.drew.cell? ⟨w.heap.size, 0, none⟩ = some (.int .i64 p) ∧ w1.drew.cell? ⟨w.heap.size, 1, none⟩ = some v1 ∧ w1.drew.cell? ⟨w.heap.size, 2, none⟩ = some v2 := ⟨X.out.cell 0, X.out.cell 1, X.out.cell 2⟩
  have HW1 := Lib.hid hw1
  have tok1 : True := trivial
  clear h1 h2 b1 b2 b3 hw1 hx hy
  subst e1 e2
  generalize (runeVals x).length = n1 at *
  generalize (runeVals y).length = n2 at *
  go_enter Try.func43, Try.ntmps43
  go_wp2_with fail
  rw [← HW1.out]
  go_region_held3 (fun W => W.cell? ⟨w.heap.size, 0, none⟩ = some (.int .i64 p) ∧ W.cell? ⟨w.heap.size, 1, none⟩ = some (.slice A1 n1 c1) ∧ W.cell? ⟨w.heap.size, 2, none⟩ = some (.slice A2 n2 c2)) (first | with_reducible exact hT2 | with_reducible exact hT1 | with_reducible exact hT0 | go_keep | fail) (first
    | (go_at_call 47; have tk := tok1; refine (C1.out _ B.out).mono ?_; rintro e w2 ⟨u1, rfl, hr, hb⟩; obtain ⟨Au, nu, cu, rfl⟩ := hr.form3; have R1 := Lib.hid (hr.less B.out.size); have B := Lib.hid (B.out.trans (hb.mono B.out.size)); have X := Lib.hid (X.out.below hb); have Y := Lib.hid (Y.out.below hb); have hT1 : w2.cell? ⟨w.heap.size, 0, none⟩ = some (.int .i64 p) ∧ w2.cell? ⟨w.heap.size, 1, none⟩ = some (.slice A1 n1 c1) ∧ w2.cell? ⟨w.heap.size, 2, none⟩ = some (.slice A2 n2 c2) := ⟨X.out.cell 0, X.out.cell 1, X.out.cell 2⟩; have tok2 : True := trivial; clear hr hb tk tok1)
    | (go_at_call 47; have tk := tok2; refine (C2.out _ B.out).mono ?_; rintro e w3 ⟨u2, rfl, hr, hb⟩; obtain ⟨Av, nv, cv, rfl⟩ := hr.form3; have R2 := Lib.hid (hr.less B.out.size); have R1 := Lib.hid (R1.out.below hb); have B := Lib.hid (B.out.trans (hb.mono B.out.size)); have X := Lib.hid (X.out.below hb); have Y := Lib.hid (Y.out.below hb); have hT2 : w3.cell? ⟨w.heap.size, 0, none⟩ = some (.int .i64 p) ∧ w3.cell? ⟨w.heap.size, 1, none⟩ = some (.slice A1 n1 c1) ∧ w3.cell? ⟨w.heap.size, 2, none⟩ = some (.slice A2 n2 c2) := ⟨X.out.cell 0, X.out.cell 1, X.out.cell 2⟩; have y0 := Y.out.cell 0; have y1 := Y.out.cell 1; have y2 := Y.out.cell 2; have z0 := Y.out.frozen 0; have z1 := Y.out.frozen 1; have z2 := Y.out.frozen 2; clear hr hb tk tok2))
  all_goals
    go_wp2
    refine ret_edit1 rfl rfl rfl Y.out.set rfl ?_
    exact ⟨_, _, rfl, R1.out.three Y.out, R2.out.three Y.out, below_three w _ (w.heap.size + 1) (Nat.le_succ _) _ _ _ B.out⟩
set_option maxRecDepth 1000000 in
set_option maxHeartbeats 4000000 in
theorem refSame_any (w : World) (a b : Ed) (v1 v2 u1 u2 : Value) (h1 : Holds1 w v1 (runeVals a.d)) (h2 : Holds1 w v2 (runeVals a.i)) (k1 : Holds1 w u1 (runeVals b.d)) (k2 : Holds1 w u2 (runeVals b.i)) (hx : a.d.length ≤ 140737488355328) (hy : a.i.length ≤ 140737488355328) :
    Calls Try.prog 15 #[editV a.p v1 v2, editV b.p u1 u2] w fun e w' => e = .returned (.bool (decide (a = b))) ∧ Below w.heap.size w w' := by
  obtain ⟨p, x, y⟩ := a
  obtain ⟨q, z, t⟩ := b
  obtain ⟨A1, c1, e1, _⟩ := id h1
  obtain ⟨A2, c2, e2, _⟩ := id h2
  obtain ⟨A3, c3, e3, _⟩ := id k1
  obtain ⟨A4, c4, e4, _⟩ := id k2
  dsimp only at *
  obtain ⟨w1, hw1⟩ : ∃ w1, w1 = (w.alloc (.cells #[.int .i64 p, v1, v2] 24)).alloc (.cells #[.int .i64 q, u1, u2] 24) := ⟨_, rfl⟩
  have b1 : Below w.heap.size w (w.alloc (.cells #[.int .i64 p, v1, v2] 24)) := (Below.refl _ _).alloc (Nat.le_refl _) _
  have b2 : Below (w.alloc (.cells #[.int .i64 p, v1, v2] 24)).heap.size (w.alloc (.cells #[.int .i64 p, v1, v2] 24)) w1 := by rw [hw1]; exact (Below.refl _ _).alloc (Nat.le_refl _) _
  have B := Lib.hid (b1.trans (b2.mono b1.size))
  have X : Hid (EBox w1 w.heap.size #[.int .i64 p, v1, v2]) := Lib.hid (EBox.below (alloc_new _ _) b2)
  have Y : Hid (EBox w1 (w.heap.size + 1) #[.int .i64 q, u1, u2]) := Lib.hid (by
    have := alloc_new (w.alloc (.cells #[.int .i64 p, v1, v2] 24)) (.cells #[.int .i64 q, u1, u2] 24)
    rw [← hw1] at this
    rw [show (w.alloc (.cells #[.int .i64 p, v1, v2] 24)).heap.size = w.heap.size + 1 by simp] at this
    exact this)
  have C1 := Lib.hid fun W (hb : Below w.heap.size w W) => same_any W x z v1 u1 (h1.below hb) (k1.below hb) hx
  have C2 := Lib.hid fun W (hb : Below w.heap.size w W) => same_any W y t v2 u2 (h2.below hb) (k2.below hb) hy
  have x0 := X.out.cell 0
  have x1 := X.out.cell 1
  have y0 := Y.out.cell 0
  have y1 := Y.out.cell 1
  have HW1 := Lib.hid hw1
  have tok1 : True := trivial
  clear h1 h2 k1 k2 b1 b2 hw1 hx hy
  subst e1 e2 e3 e4
  generalize (runeVals x).length = n1 at *
  generalize (runeVals y).length = n2 at *
  generalize (runeVals z).length = n3 at *
  generalize (runeVals t).length = n4 at *
  by_cases hp : p = q
  · subst hp
    by_cases hd : x = z
    · subst hd
      have HD : Hid (decide (Ed.mk p x y = Ed.mk p x t) = decide (y = t)) := Lib.hid (by simp)
      simp only [decide_true] at C1
      go_enter Try.func15, Try.ntmps15
      go_wp2_with fail
      rw [← HW1.out]
      go_wp2_with (first
        | (go_at_call 14; have tk := tok1; refine (C1.out _ B.out).mono ?_; rintro e w2 ⟨rfl, hb⟩; have B := Lib.hid (B.out.trans (hb.mono B.out.size)); have X := Lib.hid (X.out.below hb); have Y := Lib.hid (Y.out.below hb); have x2 := X.out.cell 2; have y2 := Y.out.cell 2; have tok2 : True := trivial; clear hb tk tok1)
        | (go_at_call 14; have tk := tok2; refine (C2.out _ B.out).mono ?_; rintro e w3 ⟨rfl, hb⟩; have B := Lib.hid (B.out.trans (hb.mono B.out.size)); clear hb tk tok2))
      go_ret
      exact ⟨by rw [HD.out]; rfl, B.out⟩
    · have HD : Hid (decide (Ed.mk p x y = Ed.mk p z t) = false) := Lib.hid (by simp [hd])
      rw [decide_eq_false hd] at C1
      clear hd
      go_enter Try.func15, Try.ntmps15
      go_wp2_with fail
      rw [← HW1.out]
      go_wp2_with (first
        | (go_at_call 14; have tk := tok1; refine (C1.out _ B.out).mono ?_; rintro e w2 ⟨rfl, hb⟩; have B := Lib.hid (B.out.trans (hb.mono B.out.size)); clear hb tk tok1))
      go_ret
      exact ⟨by rw [HD.out]; rfl, B.out⟩
  · have HD : Hid (decide (Ed.mk p x y = Ed.mk q z t) = false) := Lib.hid (by simp [hp])
    have i1 : (p == q) = false := by simpa using hp
    have i2 : (p = q) = False := by simpa using hp
    clear hp
    go_enter Try.func15, Try.ntmps15
    go_wp2_with fail
    rw [← HW1.out]
    go_wp2_with fail
    go_ret
    exact ⟨by rw [HD.out]; rfl, B.out⟩
end Go.Proofs.Ytjgjbdpknfplkaa

