/-
  What the document's Yank and Rotate answer.
-/
import Derived.Test.YtknekldnipdpeaaKrRef
namespace Go.Proofs.Ytknekldnipdpeaa
open Go.RowKit Go.Shelf Go.Lib
attribute [local go_sem] Oper.semAt_some

theorem copy_any (w : World) (x : List Int) (v : Value) (hx : Holds1 w v (runeVals x)) (hl : x.length ≤ 35184372087808) :
    Calls Try.prog 31 #[v, .slice none 0 0] w fun e w' => ∃ A c, e = .returned (.slice A x.length c) ∧ RRow w' w.heap.size (.slice A x.length c) x ∧ Below w.heap.size w w' := by
  have := both_any w x [] v _ hx (holds_nil w) (by simp; omega)
  rwa [List.append_nil] at this
section
variable {K : Nat → Prop}
set_option maxRecDepth 1000000 in
theorem wyank_none (w : World) (r : Nat) (S : KS) (h : WAt K w r S) (hn : S.es = []) : Calls Try.prog 14 #[.pointer (some ⟨r, 0, none⟩)] w fun e w' => e = .returned (.tuple #[.slice none 0 0, .int .i64 6]) ∧ w = w' := by
  obtain ⟨A, c, h1, _⟩ := h.cells
  rw [hn] at h1
  have c0 := cell_of_row w r 0 _ _ _ h1
  simp at c0
  clear h h1 hn
  go_enter Try.func14, Try.ntmps14
  go_wp2
  go_ret2
  exact ⟨rfl, rfl⟩
set_option maxRecDepth 1000000 in
theorem wrotate_none (w : World) (r : Nat) (S : KS) (h : WAt K w r S) (hn : S.es = []) (by' : Int) : Calls Try.prog 16 #[.pointer (some ⟨r, 0, none⟩), .int .i64 by'] w fun e w' => e = .returned (.tuple #[.slice none 0 0, .int .i64 6]) ∧ w = w' := by
  obtain ⟨A, c, h1, _⟩ := h.cells
  rw [hn] at h1
  have c0 := cell_of_row w r 0 _ _ _ h1
  simp at c0
  clear h h1 hn
  go_enter Try.func16, Try.ntmps16
  go_wp2
  go_ret2
  exact ⟨rfl, rfl⟩
set_option maxRecDepth 1000000 in
set_option maxHeartbeats 4000000 in
theorem wyank_at (w : World) (r : Nat) (es : List (List Int)) (pl : Nat) (h : WAt K w r ⟨es, pl⟩) (x : List Int) (hx : es[pl]? = some x) : Calls Try.prog 14 #[.pointer (some ⟨r, 0, none⟩)] w fun e w' => ∃ A c, e = .returned (.tuple #[.slice A x.length c, .int .i64 0]) ∧ RRow w' w.heap.size (.slice A x.length c) x ∧ Below w.heap.size w w' := by
  obtain ⟨A, c, h1, h2, h3⟩ := h.cells
  obtain ⟨b, off, A2, c2, rfl, hb, hcell, hh, hx1⟩ := h3.at hx
  have c0 := cell_of_row w r 0 _ _ _ h1
  have c1 := cell_of_row w r 1 _ _ _ h1
  simp at c0 c1
  have hpl := (List.getElem?_eq_some_iff.1 hx).1
  have n1 : ((es.length : Int) = 0) = False := eq_false (by omega)
  have n2 : (es.length = 0) = False := eq_false (by omega)
  have n3 : ((es.length : Int) == 0) = false := by simp; intro h0; rw [h0] at hpl; simp at hpl
  have q1 : (0 : Int) ≤ (pl : Int) := by omega
  have q2 : ((pl : Int) < (es.length : Int)) = True := eq_true (by omega)
  have q3 : (pl < es.length) = True := eq_true hpl
  have CB := Lib.hid (copy_any w.drew x (.slice A2 x.length c2) (hh.below (Below.refl _ _).drew) hx1)
  have hT0 : w.drew.cell? ⟨r, 0, none⟩ = some (.slice (some ⟨b, off, none⟩) es.length c) ∧ w.drew.cell? ⟨r, 1, none⟩ = some (.int .i64 (pl : Int)) ∧ w.drew.cell? ⟨b, off + pl, none⟩ = some (.slice A2 x.length c2) := ⟨c0, c1, hcell⟩
  have HL := Lib.hid (And.intro h.lt hb)
  clear h h1 h2 h3 hb hcell hh hx1 hx hpl c1
  generalize es.length = n at *
  generalize x.length = xl at *
  go_enter Try.func14, Try.ntmps14
  go_wp2_with fail
  go_region_held3 (fun W => W.cell? ⟨r, 0, none⟩ = some (.slice (some ⟨b, off, none⟩) n c) ∧ W.cell? ⟨r, 1, none⟩ = some (.int .i64 (pl : Int)) ∧ W.cell? ⟨b, off + pl, none⟩ = some (.slice A2 xl c2)) (first | with_reducible exact hT1 | with_reducible exact hT0 | fail) (first
    | (go_at_call 31; refine (CB.out).mono ?_; rintro e w2 ⟨A3, c3, rfl, hr, hb⟩; have hT1 : w2.cell? ⟨r, 0, none⟩ = some (.slice (some ⟨b, off, none⟩) n c) ∧ w2.cell? ⟨r, 1, none⟩ = some (.int .i64 (pl : Int)) ∧ w2.cell? ⟨b, off + pl, none⟩ = some (.slice A2 xl c2) := ⟨(hb.cell (p := ⟨r, 0, none⟩) HL.out.1).trans hT0.1, (hb.cell (p := ⟨r, 1, none⟩) HL.out.1).trans hT0.2.1, (hb.cell (p := ⟨b, off + pl, none⟩) HL.out.2).trans hT0.2.2⟩; have R := Lib.hid hr; have B : Hid (Below w.heap.size w w2) := Lib.hid ⟨hb.os, hb.tape, hb.output, hb.size, hb.block⟩; clear hr hb))
  all_goals
    go_wp2
    go_ret2
    exact ⟨A3, c3, rfl, R.out, B.out⟩
theorem rot_eq2 {n pl : Nat} (h : pl < n) (by' : Int) : (((pl : Int) + by'.tmod n).tmod n + n).tmod n = (rotP n pl by' : Int) := by
  have h3 := tmod_bounds ((pl : Int) + by'.tmod n) (n := n) (by omega)
  rw [Int.tmod_eq_emod_of_nonneg (by omega), Int.add_emod_right]
  have h4 := tmod_emod ((pl : Int) + by'.tmod n) n 0
  rw [Int.zero_add, Int.zero_add] at h4
  rw [h4, tmod_emod]
  unfold rotP
  have h3 := Int.emod_nonneg ((pl : Int) + by') (b := (n : Int)) (by omega)
  omega
theorem WAt.place {w W : World} {r : Nat} {es : List (List Int)} {pl q : Nat} (h : WAt K w r ⟨es, pl⟩) (hq : q < es.length) {v : Value} (h1 : w.heap[r]? = some (.cells #[v, .int .i64 (pl : Int)] 28 (0, 0))) (hW : W.heap[r]? = some (.cells #[v, .int .i64 (q : Int)] 28 (0, 0))) (ht : Touch (Only r) w W) : WAt K W r ⟨es, q⟩ := by
  obtain ⟨v', h1', h2⟩ := h.ex
  have hv : v' = v := by
    rw [h1] at h1'
    injection h1' with e
    injection e with e
    have := congrArg (fun a => a[0]?) e
    simpa using this.symm
  subst hv
  exact ⟨⟨v', hW, h2.to (Agree.of_touch ht fun k hk e => by simp only [Only] at e; subst e; exact h.off hk)⟩, h.many, .inl hq, Nat.lt_of_lt_of_le h.lt ht.size, h.off, fun k hk => Nat.lt_of_lt_of_le (h.inw k hk) ht.size⟩
end
end Go.Proofs.Ytknekldnipdpeaa
