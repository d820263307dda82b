/-
  What Rotate answers.
-/
import Derived.Test.YtknekldnipdpeaaKrOps
namespace Go.Proofs.Ytknekldnipdpeaa
open Go.RowKit Go.Shelf Go.Lib
attribute [local go_sem] Oper.semAt_some

section
variable {K : Nat → Prop}
/-- a ring whose place was moved -/
theorem RAt.place {w W : World} {g : Nat} {S : KS} (h : RAt K w g S) {pl : Nat} (hp : pl < S.es.length) (hW : ∀ vs nw, Row w g vs nw S.es.length S.pl → Row W g vs nw S.es.length pl) (ht : Touch (Only g) w W) : RAt K W g ⟨S.es, pl⟩ := by
  obtain ⟨vs, nw, hr, he⟩ := h.row
  have hr2 := hW vs nw hr
  exact ⟨⟨vs, nw, hr2, he.to (Agree.of_touch ht fun k hk e => by simp only [Only] at e; subst e; exact h.off hk)⟩, .inl hp, hr2.lt', h.off, fun k hk => Nat.lt_of_lt_of_le (h.inw k hk) ht.size⟩
theorem wrap_in {x : Int} (h : -1000 < x ∧ x < 1000) : wrap64 x = x := by unfold wrap64; omega
theorem wrap_in' {x : Int} (h : -1000 < x ∧ x < 1000) : IntKind.i64.wrap x = x := by rw [IntWalk.i64_in _ (by omega)]
theorem big_in' {x : Int} (h : -9223372036854775808 ≤ x ∧ x ≤ 9223372036854775807) : IntKind.i64.wrap x = x := by rw [IntWalk.i64_in _ (by omega)]
set_option maxRecDepth 1000000 in
set_option maxHeartbeats 4000000 in
theorem rotate_some (w : World) (g : Nat) (S : KS) (h : RAt K w g S) (hp : S.pl < S.es.length) (by' : Int) (q : Nat) (hq : q = rotP S.es.length S.pl by') (hql : q < S.es.length) :
    Calls Try.prog 15 #[.pointer (some ⟨g, 0, none⟩), .int .i64 by'] w fun e w' => ∃ A c, e = .returned (.tuple #[.slice A S.es[q].length c, .int .i64 0]) ∧ RRow w' w.heap.size (.slice A S.es[q].length c) S.es[q] ∧ RAt K w' g ⟨S.es, q⟩ ∧ Touch (Only g) w w' := by
  obtain ⟨vs, nw, hr, he⟩ := h.row
  have c63 := hr.cells.c63
  have f63 := hr.cells.f 63
  have CL := Lib.hid (len_any w g S h)
  have hm := h.many
  have hb := tmod_bounds by' (n := S.es.length) (by omega)
  have hrot := rot_eq hp by'
  rw [← hq] at hrot
  have w1 : wrap64 ((S.pl : Int) + by'.tmod (S.es.length : Int)) = (S.pl : Int) + by'.tmod (S.es.length : Int) := wrap_in (by omega)
  have w2 : wrap64 ((S.pl : Int) + by'.tmod (S.es.length : Int) + (S.es.length : Int)) = (S.pl : Int) + by'.tmod (S.es.length : Int) + (S.es.length : Int) := wrap_in (by omega)
  have HV : Hid ((wrap64 (wrap64 ((S.pl : Int) + by'.tmod (S.es.length : Int)) + (S.es.length : Int))).tmod (S.es.length : Int) = (q : Int)) := Lib.hid (by rw [w1, w2]; exact hrot)
  clear w1 w2
  have CY : Hid (∀ W z, z = (q : Int) → W = (w.setCell ⟨g, 63, none⟩ (.int .i64 z)).drew → Calls Try.prog 13 #[.pointer (some ⟨g, 0, none⟩)] W fun e w' => ∃ A c, e = .returned (.tuple #[.slice A S.es[q].length c, .int .i64 0]) ∧ RRow w' w.heap.size (.slice A S.es[q].length c) S.es[q] ∧ RAt K w' g ⟨S.es, q⟩ ∧ Touch (Only g) w w') := Lib.hid fun W z hz hW => by
    subst hz
    have ht : Touch (Only g) w W := by rw [hW]; exact (only_set _ _ _ _).drew
    have h2 : RAt K W g ⟨S.es, q⟩ := h.place hql (fun vs nw hr => by rw [hW]; exact (hr.place q).drewN 1) ht
    refine (yank_some W g ⟨S.es, q⟩ h2 hql).mono ?_
    rintro e w' ⟨A, c, he, h3, h4⟩
    exact ⟨A, c, he, own_less h3 ht.size, h2.below h4, ht.trans (Touch.of_below h4)⟩
  have hn1 : ((S.es.length : Int) > 0) = True := eq_true (by omega)
  have hn2 : ((0 : Int) < (S.es.length : Int)) = True := eq_true (by omega)
  have hn3 : (0 < S.es.length) = True := eq_true (by omega)
  have hn4 : ((S.es.length : Int) = 0) = False := eq_false (by omega)
  have hn5 : (S.es.length = 0) = False := eq_false (by omega)
  have hn6 : (S.es = []) = False := eq_false (by intro h0; rw [h0] at hp; simp at hp)
  generalize hee : S.es[q] = x at *
  clear hee hn6
  generalize S.es.length = n at *
  generalize S.pl = pl at *
  generalize x.length = xl at *
  clear hr he h hm hb hq hp hql hrot
  go_enter Try.func15, Try.ntmps15
  go_wp2_with (first
    | (go_at_call 22; refine (CL.out).mono ?_; rintro e w1 ⟨rfl, rfl⟩))
  go_region
  all_goals
    go_wp2_with (first
      | (go_at_call 13; refine (CY.out _ _ HV.out rfl).mono ?_; rintro e w1 ⟨A, c, rfl, h1, h2, h3⟩; have H1 := Lib.hid h1; have H2 := Lib.hid h2; have H3 := Lib.hid h3; clear h1 h2 h3))
    go_ret2
    exact ⟨A, c, rfl, H1.out, H2.out, H3.out⟩
end
end Go.Proofs.Ytknekldnipdpeaa
