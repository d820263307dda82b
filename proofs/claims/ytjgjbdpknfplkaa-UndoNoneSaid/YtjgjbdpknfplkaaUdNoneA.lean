/-
  A list of edits that no call made: the law holds, whatever the edit.
-/
import Derived.Test.YtjgjbdpknfplkaaUdNoneW
import Derived.Test.YtjgjbdpknfplkaaUdArg
namespace Go.Proofs.Ytjgjbdpknfplkaa
open Go.RowKit Go.Shelf Go.Lib
theorem none_op (w : World) (o : EdB) (h : EdBOk w o) : Calls Try.prog 8 #[o.val] w fun e w' => e = .returned (.bool true) ∧ Below w.heap.size w w' := by
  obtain ⟨⟨A2, c2, e2⟩, ⟨A3, c3, e3⟩⟩ := h.forms
  show Calls Try.prog 8 #[.agg #[.int .i64 o.p, o.dv, o.iv]] w _
  rw [e2, e3]
  exact none_walk _ _ _ _ _ _ _ w
end Go.Proofs.Ytjgjbdpknfplkaa
