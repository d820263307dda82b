/-
  A file system that is up and without a fault. No program is walked here, and nothing is assumed.
-/
import Derived.Test.YthpkfgjjaieikaaGreatDoorFsInv
import Derived.Test.YthpkfgjjaieikaaGreatDoorFsSet
import Derived.Sort.Walk0
namespace Go.Proofs.YthpkfgjjaieikaaGreatDoor
open Go.RowKit Go.Shelf Go.Lib Go.Maps Go.Sort

/-- up, and without a fault -/
def calm (s : St) : St := ⟨0, 0, 0, s.calls, false⟩
theorem clear_fault (s : St) : (setP (restartP s).2 0 0 0).2 = calm s := by
  unfold restartP
  cases hd : s.down with
  | true => rfl
  | false =>
    unfold setP calm
    simp [hd]
theorem calm_ok {s : St} (h : StOk s) : StOk (calm s) := by
  obtain ⟨_, _, _, _, _, _, h7, h8⟩ := h
  refine ⟨Int.le_refl 0, ?_, Int.le_refl 0, ?_, Int.le_refl 0, ?_, h7, h8⟩
  · show (0 : Int) ≤ 9223372036854775807; decide
  · show (0 : Int) ≤ 3; decide
  · show (0 : Int) ≤ 9223372036854775807; decide
theorem calm_start (s : St) : startP (calm s) true = (0, calm { s with calls := s.calls + 1 }) := rfl

theorem add_zero_addr (g i : Nat) : (⟨g, 0, none⟩ : Addr).add i = ⟨g, i, none⟩ := by
  rcases Nat.eq_zero_or_pos i with rfl | h
  · rfl
  · simp [Addr.add]; omega
end Go.Proofs.YthpkfgjjaieikaaGreatDoor
