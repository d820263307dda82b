/-
  The law of searches holds, whatever the lines and the text are.
-/
import Derived.Test.YtojhppcnpjajaaaHlFindsW
import Derived.Test.YtojhppcnpjajaaaHlArg
import Derived.Shelf.Vars
namespace Go.Proofs.Ytojhppcnpjajaaa
open Go.RowKit Go.Shelf Go.Lib
theorem maxL_of {W : World} (h : W.ShapedOpen Try.prog) : MaxL W :=
  cell_of_shapedOpen_int (P := Try.prog) (g := 0) (t := 3) (zero := #[.int .i64 0]) h (of_decide_eq_true (by kernel_rfl)) (by kernel_rfl) rfl (by kernel_rfl) (by kernel_rfl) Try.underlying3
theorem finds_any (w : World) (A : Option Addr) (m c : Nat) (l : List HL) (hv : HH w (.slice A m c) l) (hl : l.length * 24 ≤ reachBytes) (hm : MaxL w) (frm : Int) (t : ByteArray) (back begins : Bool) :
    Calls Try.prog 6 #[.slice A m c, .int .i64 frm, .string t, .bool back, .bool begins] w fun e w' => e = .returned (.bool true) ∧ Below w.heap.size w w' := by
  have h24 : l.length ≤ 140737488355328 := by unfold reachBytes at hl; omega
  by_cases hc : checkP l = 0
  · exact finds_ok w A m c l hv h24 hc hm frm t back begins
  · exact finds_bad w A m c l hv h24 hc frm t back begins
end Go.Proofs.Ytojhppcnpjajaaa
