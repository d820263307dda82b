/-
  A ring that no call made: the law holds, whatever the operation.
-/
import Derived.Test.YtknekldnipdpeaaKrNoneW
import Derived.Test.YtknekldnipdpeaaKrArg
namespace Go.Proofs.Ytknekldnipdpeaa
open Go.RowKit Go.Shelf Go.Lib
theorem none_op (w : World) (o : OpB) (h : OpOk w o) : Calls Try.prog 8 #[o.val] w fun e w' => e = .returned (.bool true) ∧ Below w.heap.size w w' := by
  obtain ⟨A2, c2, e2, _⟩ := h.t
  show Calls Try.prog 8 #[.agg #[.int .i64 o.kind, .int .i64 o.way, o.tv, .int .i64 o.n, .int .i64 o.stop]] w _
  rw [e2]
  exact none_walk _ _ _ _ _ _ _ w
end Go.Proofs.Ytknekldnipdpeaa
