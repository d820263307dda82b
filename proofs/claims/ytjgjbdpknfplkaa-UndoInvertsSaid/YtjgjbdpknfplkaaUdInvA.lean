/-
  An edit and its inverse, two edits joined: the law holds, whatever comes in.
-/
import Derived.Test.YtjgjbdpknfplkaaUdInvW
import Derived.Test.YtjgjbdpknfplkaaUdArg2
namespace Go.Proofs.Ytjgjbdpknfplkaa
open Go.RowKit Go.Shelf Go.Lib
theorem inverts_any (w : World) (l : List Int) (lv : Value) (hl : Holds1 w lv (runeVals l)) (hll : l.length ≤ 35184372087808) (a b : StB) (ha : StOk w a) (hb : StOk w b) :
    Calls Try.prog 6 #[lv, a.val, b.val] w fun e w' => e = .returned (.bool true) ∧ Below w.heap.size w w' :=
  inv_any w l a.st b.st lv a.iv b.iv hl ha.i hb.i hll ha.il hb.il
end Go.Proofs.Ytjgjbdpknfplkaa
