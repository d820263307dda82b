/-
  A history and a walk that no call made: the law holds, whatever the operation.
-/
import Derived.Test.YtojhppcnpjajaaaHlNoneW
import Derived.Test.YtojhppcnpjajaaaHlArg
namespace Go.Proofs.Ytojhppcnpjajaaa
open Go.RowKit Go.Shelf Go.Lib
theorem none_op (w : World) (o : OpB) (h : OpOk w o) : Calls Try.prog 8 #[.agg o.cells.toArray] w fun e w' => e = .returned (.bool true) ∧ Below w.heap.size w w' := by
  obtain ⟨A, c, e⟩ := h.l.form
  have hl := h.l
  rw [e] at hl
  show Calls Try.prog 8 #[.agg #[.int .i64 o.kind, o.lv, .int .i64 o.i, .int .i64 o.n, .string o.text, .bool o.back, .bool o.begins]] w _
  rw [e]
  exact none_walk _ _ _ _ _ _ _ _ _ o.ls w hl h.n0
end Go.Proofs.Ytojhppcnpjajaaa
