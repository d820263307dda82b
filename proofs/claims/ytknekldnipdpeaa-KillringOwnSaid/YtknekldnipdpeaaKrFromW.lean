/-
  Which entries a ring may have, and that it has them: the walk.
-/
import Derived.Test.YtknekldnipdpeaaKrRefF
import Derived.Test.YtknekldnipdpeaaKrTold
namespace Go.Proofs.Ytknekldnipdpeaa
open Go.RowKit Go.Shelf Go.Lib
attribute [local go_sem] Oper.semAt_some

set_option maxRecDepth 1000000 in
set_option maxHeartbeats 4000000 in
theorem from_law (w : World) (ls : List (List Int)) (A : Option Addr) (n c : Nat) (h : Mat w (.slice A n c) ls) : Calls Try.prog 4 #[.slice A n c] w fun e w' => e = .returned (.bool true) ∧ Below w.heap.size w w' := by
  have HM := Lib.hid h
  have CL := Lib.hid fun W => live_any W
  have CW := Lib.hid fun W (hb : Below w.heap.size w W) => wfrom_any W ls A n c (h.below hb)
  by_cases hok : fromOk ls
  · have CF := Lib.hid (from_ok w ls A n c h hok)
    have HOK := Lib.hid hok
    have CW' : Hid (∀ W, Below w.heap.size w W → Calls Try.prog 21 #[.slice A n c] W fun e w' => ∃ r K, e = .returned (.tuple #[.pointer (some ⟨r, 0, none⟩), .int .i64 0]) ∧ WAt K w' r ⟨ls, 0⟩ ∧ Below W.heap.size W w') := Lib.hid fun W hb => (CW.out W hb).mono (by
      rintro e w' (⟨h1, _⟩ | ⟨_, r, K, h1, h2, _, _, h3⟩)
      · exact absurd HOK.out h1
      · exact ⟨r, K, h1, h2, h3⟩)
    have CT := Lib.hid fun W g K (hR : RAt K W g ⟨ls, 0⟩) A2 n2 c2 (hm : Mat W (.slice A2 n2 c2) ls) (hn : n2 = ls.length) => told_is W g ⟨ls, 0⟩ hR A2 n2 c2 hm hn 0
    clear h hok CW
    go_enter Try.func4, Try.ntmps4
    go_wp2_with (first
      | (go_at_call 20; refine (CF.out).mono ?_; rintro e w1 ⟨g, K, rfl, hr, _, _, hb⟩; have R := Lib.hid hr; have B := Lib.hid hb; clear hr hb)
      | (go_at_call 21; refine (CW'.out _ B.out).mono ?_; rintro e w2 ⟨r, K2, rfl, hw, hb⟩; have R := Lib.hid (R.out.below hb); have V := Lib.hid hw; have B := Lib.hid (B.out.trans (hb.mono B.out.size)); clear hw hb)
      | (go_at_call 10; refine (CL.out _).mono ?_; rintro e w3 ⟨rfl, hb⟩; have R := Lib.hid (R.out.below hb); have hv := V.out.below hb; obtain ⟨A2, c2, hr2, _, hm2⟩ := hv.cells; have M2 := Lib.hid hm2; have q0 := (RC.of hr2).c0; have B := Lib.hid (B.out.trans (hb.mono B.out.size)); clear hb hv hr2 hm2)
      | (go_at_call 19; refine (CT.out _ _ _ R.out _ _ _ M2.out rfl).mono ?_; rintro e w4 ⟨rfl, hb⟩; have B := Lib.hid (B.out.trans (hb.mono B.out.size)); clear hb))
    go_ret
    exact ⟨rfl, B.out⟩
  · have CF := Lib.hid (from_long w ls A n c h hok)
    have HOK := Lib.hid hok
    have CW' : Hid (Calls Try.prog 21 #[.slice A n c] w fun e w' => e = .returned (.tuple #[.pointer none, .int .i64 3]) ∧ Below w.heap.size w w') := Lib.hid ((CW.out w (Below.refl _ _)).mono (by
      rintro e w' (⟨_, h1, h2⟩ | ⟨h1, _⟩)
      · exact ⟨h1, h2⟩
      · exact absurd h1 HOK.out))
    clear h hok CW
    go_enter Try.func4, Try.ntmps4
    go_wp2_with (first
      | (go_at_call 20; refine (CF.out).mono ?_; rintro e w1 ⟨rfl, rfl⟩)
      | (go_at_call 21; refine (CW'.out).mono ?_; rintro e w2 ⟨rfl, hb⟩; have B := Lib.hid hb; clear hb)
      | (go_at_call 10; refine (CL.out _).mono ?_; rintro e w3 ⟨rfl, hb⟩; have B := Lib.hid (B.out.trans (hb.mono B.out.size)); clear hb))
    go_ret
    exact ⟨rfl, B.out⟩
end Go.Proofs.Ytknekldnipdpeaa
