/-
  Rotations one by one tell each entry once, and come back: the walk.
-/
import Derived.Test.YtknekldnipdpeaaKrFrom4
import Derived.Test.YtknekldnipdpeaaKrLive
namespace Go.Proofs.Ytknekldnipdpeaa
open Go.RowKit Go.Shelf Go.Lib
attribute [local go_sem] Oper.semAt_some

/-- where the place is behind k rotations -/
def plB (n k : Nat) : Nat := if k = 0 then 0 else n - k
theorem rot_fwd {n k : Nat} (_ : k < n) : rotP n k 1 = (k + 1) % n := by
  unfold rotP
  have : ((k : Int) + 1) % (n : Int) = (((k + 1) % n : Nat) : Int) := by rw [Int.natCast_emod]; rfl
  rw [this]
  rfl
theorem rot_back {n k : Nat} (h : k < n) : rotP n (plB n k) (-1) = n - 1 - k := by
  unfold rotP plB
  by_cases hk : k = 0
  · rw [if_pos hk]
    have : (((0 : Nat) : Int) + -1) % (n : Int) = (n : Int) - 1 := by
      rw [show (((0 : Nat) : Int) + -1) = ((n : Int) - 1) + (n : Int) * (-1) by omega, Int.add_mul_emod_self_left]
      exact Int.emod_eq_of_lt (by omega) (by omega)
    rw [this]
    omega
  · rw [if_neg hk]
    have : (((n - k : Nat) : Int) + -1) % (n : Int) = ((n - k : Nat) : Int) + -1 := Int.emod_eq_of_lt (by omega) (by omega)
    rw [this]
    omega
theorem plB_succ {n k : Nat} (_ : k < n) : plB n (k + 1) = n - 1 - k := by
  unfold plB
  rw [if_neg (by omega)]
  omega
theorem fromOk_nil {ls : List (List Int)} (h : ¬ fromOk ls) : 0 < ls.length := by
  rcases Nat.eq_zero_or_pos ls.length with h0 | h0
  · have : ls = [] := List.eq_nil_of_length_eq_zero h0
    subst this
    exact absurd ⟨Nat.zero_le _, rfl⟩ h
  · exact h0
set_option maxRecDepth 1000000 in
theorem round_long (w : World) (ls : List (List Int)) (A : Option Addr) (n c : Nat) (h : Mat w (.slice A n c) ls) (hno : ¬ fromOk ls) (back : Bool) : Calls Try.prog 5 #[.slice A n c, .bool back] w fun e w' => e = .returned (.bool true) ∧ Below w.heap.size w w' := by
  have hn : n = ls.length := by
    obtain ⟨A', c', e⟩ := h.form
    injection e
  have CF := Lib.hid (from_long w ls A n c h hno)
  have CL := Lib.hid (live_any w)
  have hp := fromOk_nil hno
  have i1 : ((n : Int) > 0) = True := eq_true (by omega)
  have i2 : ((0 : Int) < (n : Int)) = True := eq_true (by omega)
  have i3 : (0 < n) = True := eq_true (by omega)
  clear h hno hn hp
  go_enter Try.func5, Try.ntmps5
  go_wp2_with (first
    | (go_at_call 20; refine (CF.out).mono ?_; rintro e w1 ⟨rfl, rfl⟩)
    | (go_at_call 10; refine (CL.out).mono ?_; rintro e w1 ⟨rfl, hb⟩; have B := Lib.hid hb; clear hb))
  go_ret
  exact ⟨rfl, B.out⟩
set_option maxRecDepth 1000000 in
set_option maxHeartbeats 4000000 in
theorem round_none (w : World) (A : Option Addr) (c : Nat) (h : Mat w (.slice A 0 c) []) (back : Bool) : Calls Try.prog 5 #[.slice A 0 c, .bool back] w fun e w' => e = .returned (.bool true) ∧ Below w.heap.size w w' := by
  have CF := Lib.hid (from_ok w [] A 0 c h ⟨Nat.zero_le _, rfl⟩)
  have CL := Lib.hid fun W => live_any W
  have CN := Lib.hid fun W g K (hR : RAt K W g ⟨[], 0⟩) => len_any W g _ hR
  have CR := Lib.hid fun W g K (hR : RAt K W g ⟨[], 0⟩) => rotate_none W g _ hR rfl 1
  clear h
  go_enter Try.func5, Try.ntmps5
  go_wp2_with (first
    | (go_at_call 20; refine (CF.out).mono ?_; rintro e w1 ⟨g, K, rfl, hr, _, _, hb⟩; have R := Lib.hid hr; have B := Lib.hid hb; clear hr hb)
    | (go_at_call 10; refine (CL.out _).mono ?_; rintro e w2 ⟨rfl, hb⟩; have R := Lib.hid (R.out.below hb); have B := Lib.hid (B.out.trans (hb.mono B.out.size)); clear hb)
    | (go_at_call 22; refine (CN.out _ _ _ R.out).mono ?_; rintro e w3 ⟨rfl, rfl⟩)
    | (go_at_call 15; refine (CR.out _ _ _ R.out).mono ?_; rintro e w4 ⟨rfl, rfl⟩))
  go_ret
  exact ⟨rfl, B.out⟩
end Go.Proofs.Ytknekldnipdpeaa
