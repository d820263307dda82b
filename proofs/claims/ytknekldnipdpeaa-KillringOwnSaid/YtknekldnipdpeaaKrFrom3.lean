/-
  What From answers.
-/
import Derived.Test.YtknekldnipdpeaaKrFrom2
namespace Go.Proofs.Ytknekldnipdpeaa
open Go.RowKit Go.Shelf Go.Lib
attribute [local go_sem] Oper.semAt_some

/-- may the entries be a ring's? -/
def fromOk (ls : List (List Int)) : Prop := ls.length ≤ 60 ∧ ls.any longB = false
set_option maxRecDepth 1000000 in
theorem from_long (w : World) (ls : List (List Int)) (A : Option Addr) (n c : Nat) (h : Mat w (.slice A n c) ls) (hno : ¬ fromOk ls) : Calls Try.prog 20 #[.slice A n c] w fun e w' => e = .returned (.tuple #[.pointer none, .int .i64 3]) ∧ w = w' := by
  have hn : n = ls.length := by
    obtain ⟨A', c', e⟩ := h.form
    injection e
  by_cases h60 : 60 < n
  · have i1 : ((n : Int) > 60) = True := eq_true (by omega)
    have i2 : ((60 : Int) < (n : Int)) = True := eq_true (by omega)
    have i3 : (60 < n) = True := eq_true h60
    clear h hno hn h60
    go_enter Try.func20, Try.ntmps20
    go_wp2
    go_ret2
    exact ⟨rfl, rfl⟩
  · have ha : ls.any longB = true := by
      cases hx : ls.any longB with
      | true => rfl
      | false => exact absurd ⟨by omega, hx⟩ hno
    have CC := containsFunc_any w ls A n c h
    rw [ha] at CC
    have CC := Lib.hid CC
    have i1 : ((n : Int) > 60) = False := eq_false (by omega)
    have i2 : ((60 : Int) < (n : Int)) = False := eq_false (by omega)
    have i3 : (60 < n) = False := eq_false h60
    clear h hno hn h60 ha
    go_enter Try.func20, Try.ntmps20
    go_wp2_with (go_at_call 32; refine (CC.out).mono ?_; rintro e w1 ⟨rfl, rfl⟩)
    go_ret2
    exact ⟨rfl, rfl⟩
/-- between two entries: the ring's box, the ring with the entries that were pushed; the blocks of the entries are later than B + 1 -/
structure FI (w : World) (g kb bb B : Nat) (sv : Value) (es : List (List Int)) (W : World) : Prop where
  box : Box W kb (.pointer (some ⟨g, 0, none⟩)) 23
  src : Box W bb sv 26
  b : Below w.heap.size w W
  ring : ∃ K, RAt K W g ⟨es, 0⟩ ∧ ∀ k, K k → B + 2 ≤ k
theorem FI.touch {w W W' : World} {g kb bb B : Nat} {sv : Value} {es : List (List Int)} (h : FI w g kb bb B sv es W) (hB : w.heap.size ≤ B ∧ g < B ∧ kb < B ∧ bb < B) (ht : Touch (fun j => j = B ∨ j = B + 1) W W') : FI w g kb bb B sv es W' := by
  obtain ⟨K, h1, h2⟩ := h.ring
  refine ⟨h.box.same (ht.block _ h.box.lt (by omega)), h.src.same (ht.block _ h.src.lt (by omega)), h.b.trans (ht.below h.b.size (by omega)), K, h1.to (Agree.of_touch ht fun k hk e => ?_), h2⟩
  rcases hk with hk | hk
  · have := h2 k hk
    omega
  · omega
end Go.Proofs.Ytknekldnipdpeaa
