/-
  Kills that go on: the law at any arguments.
-/
import Derived.Test.YtknekldnipdpeaaKrJoinsW
namespace Go.Proofs.Ytknekldnipdpeaa
open Go.RowKit Go.Shelf Go.Lib
theorem joins_any (w : World) (f : List Int) (A0 : Option Addr) (n0 c0 : Nat) (hf : Holds1 w (.slice A0 n0 c0) (runeVals f)) (hfl : f.length ≤ 35184372087808) (ls : List (List Int)) (A : Option Addr) (n c : Nat) (h : Mat w (.slice A n c) ls) (back : Bool) : Calls Try.prog 6 #[.slice A0 n0 c0, .slice A n c, .bool back] w fun e w' => e = .returned (.bool true) ∧ Below w.heap.size w w' := by
  have hn0 : n0 = f.length := by
    obtain ⟨A', c', e, _⟩ := id hf
    rw [runeVals_length] at e
    injection e
  by_cases h1 : n0 = 0
  · exact joins_empty w f A0 n0 c0 hf hfl _ back h1
  · by_cases h2 : 1024 < n0
    · exact joins_long w f A0 n0 c0 hf hfl _ back h2
    · have h3 : f ≠ [] := by
        rintro rfl
        exact h1 hn0
      cases back with
      | true => exact joins_bwd w f A0 n0 c0 hf hn0 (by omega) h3 ls A n c h
      | false => exact joins_fwd w f A0 n0 c0 hf hn0 (by omega) h3 ls A n c h
end Go.Proofs.Ytknekldnipdpeaa
