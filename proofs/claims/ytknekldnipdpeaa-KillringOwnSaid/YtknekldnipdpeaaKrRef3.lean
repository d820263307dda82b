/-
  What the document's Rotate answers.
-/
import Derived.Test.YtknekldnipdpeaaKrRef2
namespace Go.Proofs.Ytknekldnipdpeaa
open Go.RowKit Go.Shelf Go.Lib
attribute [local go_sem] Oper.semAt_some

section
variable {K : Nat → Prop}
set_option maxRecDepth 1000000 in
set_option maxHeartbeats 8000000 in
theorem wrotate_at (w : World) (r : Nat) (es : List (List Int)) (pl q : Nat) (by' : Int) (x : List Int) (h : WAt K w r ⟨es, pl⟩) (hp : pl < es.length) (hq : q = rotP es.length pl by') (hx : es[q]? = some x) :
    Calls Try.prog 16 #[.pointer (some ⟨r, 0, none⟩), .int .i64 by'] w fun e w' => ∃ A c, e = .returned (.tuple #[.slice A x.length c, .int .i64 0]) ∧ RRow w' w.heap.size (.slice A x.length c) x ∧ WAt K w' r ⟨es, q⟩ ∧ Touch (Only r) w w' := by
  have hql := (List.getElem?_eq_some_iff.1 hx).1
  obtain ⟨A, c, h1, h2, h3⟩ := h.cells
  obtain ⟨b, off, A2, c2, hA, hb, hcell, hh, hx1⟩ := h3.at hx
  subst hA
  have c0 := cell_of_row w r 0 _ _ _ h1
  have c1 := cell_of_row w r 1 _ _ _ h1
  have f1 := frozen_of_row w r 1 _ _ h1
  simp at c0 c1
  have n1 : ((es.length : Int) = 0) = False := eq_false (by omega)
  have n2 : (es.length = 0) = False := eq_false (by omega)
  have n3 : ((es.length : Int) == 0) = false := by simp; intro h0; rw [h0] at hp; simp at hp
  have q1 : (0 : Int) ≤ (q : Int) := by omega
  have q2 : ((q : Int) < (es.length : Int)) = True := eq_true (by omega)
  have q3 : (q < es.length) = True := eq_true hql
  have hm := h.many
  have hbd := tmod_bounds by' (n := es.length) (by omega)
  have hbd2 := tmod_bounds ((pl : Int) + by'.tmod (es.length : Int)) (n := es.length) (by omega)
  have hrot := rot_eq2 hp by'
  rw [← hq] at hrot
  have w1 : wrap64 ((pl : Int) + by'.tmod (es.length : Int)) = (pl : Int) + by'.tmod (es.length : Int) := wrap_in (by dsimp only at hm; omega)
  have w2 : wrap64 (((pl : Int) + by'.tmod (es.length : Int)).tmod (es.length : Int) + (es.length : Int)) = ((pl : Int) + by'.tmod (es.length : Int)).tmod (es.length : Int) + (es.length : Int) := wrap_in (by dsimp only at hm; omega)
  have HV : Hid ((wrap64 ((wrap64 ((pl : Int) + by'.tmod (es.length : Int))).tmod (es.length : Int) + (es.length : Int))).tmod (es.length : Int) = (q : Int)) := Lib.hid (by rw [w1, w2]; exact hrot)
  clear w1 w2
  obtain ⟨W, hW⟩ : ∃ W, W = (w.setCell ⟨r, 1, none⟩ (.int .i64 (q : Int))).drew := ⟨_, rfl⟩
  have htW : Touch (Only r) w W := by rw [hW]; exact (only_set _ _ _ _).drew
  have hrW : W.heap[r]? = some (.cells #[.slice (some ⟨b, off, none⟩) es.length c, .int .i64 (q : Int)] 28 (0, 0)) := by
    rw [hW]
    exact heap_setCell_same w r 1 _ _ _ h1
  have hWW : WAt K W r ⟨es, q⟩ := h.place hql h1 hrW htW
  have hbr : b ≠ r := by
    rintro rfl
    obtain ⟨xs, g1, _⟩ := h2
    rcases g1.2 with ⟨e, _⟩ | ⟨g, cap, cur, e, _, hg, _⟩
    · injection e with e; cases e
    · injection e with e
      injection e with e
      injection e with e
      subst e
      rw [h1] at hg
      injection hg with hg
      injection hg with _ hg
      exact absurd hg (by decide)
  have hhW : Holds1 W (.slice A2 x.length c2) (runeVals x) := by
    obtain ⟨_, _, _, _, h3W⟩ := hWW.cells
    obtain ⟨v', g1, g2⟩ := h.ex
    obtain ⟨xs, g3, g4, g5⟩ := g2
    have e1 : v' = .slice (some ⟨b, off, none⟩) es.length c := by
      rw [h1] at g1
      injection g1 with e
      injection e with e
      have := congrArg (fun a => a[0]?) e
      simpa using this.symm
    subst e1
    obtain ⟨y, g6, g7, _⟩ := g5 q x hx
    have e2 : y = .slice A2 x.length c2 := by
      rcases g3.2 with ⟨e, _⟩ | ⟨g, cap, cur, e, _, hg, _, _, _, ht⟩
      · injection e with e; cases e
      · injection e with e
        injection e with e
        injection e with e e'
        subst e e'
        rw [Nat.zero_add, cell_of_row w b q cur _ (0, 0) hg] at hcell
        rw [← ht, List.getElem?_take] at g6
        split at g6
        · rw [Array.getElem?_toList, hcell] at g6
          injection g6 with g6
          exact g6.symm
        · cases g6
    subst e2
    exact (g7.to (Agree.of_touch htW fun k hk e => by simp only [Only] at e; subst e; exact h.off hk)).now
  have CB := Lib.hid (copy_any W.drew x (.slice A2 x.length c2) (hhW.below (Below.refl _ _).drew) hx1)
  have d0 := cell_of_row W r 0 _ _ _ hrW
  have d1 := cell_of_row W r 1 _ _ _ hrW
  simp at d0 d1
  have hT0 : W.drew.cell? ⟨r, 0, none⟩ = some (.slice (some ⟨b, off, none⟩) es.length c) ∧ W.drew.cell? ⟨r, 1, none⟩ = some (.int .i64 (q : Int)) ∧ W.drew.cell? ⟨b, off + q, none⟩ = some (.slice A2 x.length c2) := ⟨d0, d1, (World.cell?_of_block (w := w) (w' := W) (htW.block b hb hbr)).trans hcell⟩
  have HL := Lib.hid (And.intro hWW.lt (Nat.lt_of_lt_of_le hb htW.size))
  have HW := Lib.hid hW
  have HWW := Lib.hid hWW
  have HTW := Lib.hid htW
  clear h h1 h2 h3 hb hcell hh hx1 hx hp hm hbd hbd2 hrot hW htW hrW hWW hbr hhW d0 d1 hq hql
  generalize es.length = n at *
  generalize x.length = xl at *
  go_enter Try.func16, Try.ntmps16
  go_wp2_with fail
  go_region
  all_goals
    rw [HV.out, ← HW.out]
    go_wp2_with fail
    go_region_held3 (fun W => W.cell? ⟨r, 0, none⟩ = some (.slice (some ⟨b, off, none⟩) n c) ∧ W.cell? ⟨r, 1, none⟩ = some (.int .i64 (q : Int)) ∧ W.cell? ⟨b, off + q, none⟩ = some (.slice A2 xl c2)) (first | with_reducible exact hT1 | with_reducible exact hT0 | fail) (first
      | (go_at_call 31; refine (CB.out).mono ?_; rintro e w2 ⟨A3, c3, rfl, hr, hb⟩; have hT1 : w2.cell? ⟨r, 0, none⟩ = some (.slice (some ⟨b, off, none⟩) n c) ∧ w2.cell? ⟨r, 1, none⟩ = some (.int .i64 (q : Int)) ∧ w2.cell? ⟨b, off + q, none⟩ = some (.slice A2 xl c2) := ⟨(hb.cell (p := ⟨r, 0, none⟩) HL.out.1).trans hT0.1, (hb.cell (p := ⟨r, 1, none⟩) HL.out.1).trans hT0.2.1, (hb.cell (p := ⟨b, off + q, none⟩) HL.out.2).trans hT0.2.2⟩; have R := Lib.hid hr; have B : Hid (Below W.heap.size W w2) := Lib.hid ⟨hb.os, hb.tape, hb.output, hb.size, hb.block⟩; clear hr hb))
    all_goals
      go_wp2
      go_ret2
      exact ⟨A3, c3, rfl, own_less R.out HTW.out.size, HWW.out.below B.out, HTW.out.trans (Touch.of_below B.out)⟩
end
end Go.Proofs.Ytknekldnipdpeaa
