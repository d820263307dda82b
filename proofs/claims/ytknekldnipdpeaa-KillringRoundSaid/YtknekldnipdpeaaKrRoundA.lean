/-
  Rotations one by one: the law at any arguments.
-/
import Derived.Test.YtknekldnipdpeaaKrRoundL
namespace Go.Proofs.Ytknekldnipdpeaa
open Go.RowKit Go.Shelf Go.Lib
theorem round_any (w : World) (ls : List (List Int)) (A : Option Addr) (n c : Nat) (h : Mat w (.slice A n c) ls) (back : Bool) : Calls Try.prog 5 #[.slice A n c, .bool back] w fun e w' => e = .returned (.bool true) ∧ Below w.heap.size w w' := by
  by_cases hok : fromOk ls
  · rcases Nat.eq_zero_or_pos n with h0 | h0
    · subst h0
      have hn : 0 = ls.length := by
        obtain ⟨A', c', e⟩ := h.form
        injection e
      obtain rfl : ls = [] := List.eq_nil_of_length_eq_zero hn.symm
      exact round_none w A c h back
    · cases back with
      | true => exact round_bwd w ls A n c h hok h0
      | false => exact round_fwd w ls A n c h hok h0
  · exact round_long w ls A n c h hok back
end Go.Proofs.Ytknekldnipdpeaa
