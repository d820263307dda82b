/-
  UndoApplies, whatever small arguments come in.
-/
import Derived.Test.YtjgjbdpknfplkaaUdApplW
import Derived.Test.YtjgjbdpknfplkaaUdArgU
namespace Go.Proofs.Ytjgjbdpknfplkaa
open Go.RowKit Go.Shelf Go.Lib
theorem applies_upto (w : World) (l : List Int) (lv : Value) (hl : Holds1 w lv (runeVals l)) (a b : EdB) {n0 n1 n2 : Nat} (hll : l.length ≤ n0) (ha : EdU w a n1) (hb : EdU w b n2) (hn : n0 + (n1 + n2) ≤ 1048576) :
    Calls Try.prog 3 #[lv, a.val, b.val] w fun e w' => e = .returned (.bool true) ∧ Below w.heap.size w w' :=
  applies_any w l lv hl (by omega) a b (ha.ok (by omega)) (hb.ok (by omega)) (by have := ha.len; omega) (by have := hb.len; omega)
end Go.Proofs.Ytjgjbdpknfplkaa
