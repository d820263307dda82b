/-
  Whatever is done to a line is taken back: the law holds, whatever comes in.
-/
import Derived.Test.YtjgjbdpknfplkaaUdTBW
import Derived.Test.YtjgjbdpknfplkaaUdTBL
namespace Go.Proofs.Ytjgjbdpknfplkaa
open Go.RowKit Go.Shelf Go.Lib
theorem takes_any (w : World) (l : List Int) (lv : Value) (hl : Holds1 w lv (runeVals l)) (_hll : l.length ≤ 35184372087808) (os : List StB) (sv : Value) (hs : Steps w sv os) :
    Calls Try.prog 5 #[lv, sv] w fun e w' => e = .returned (.bool true) ∧ Below w.heap.size w w' := by
  obtain ⟨Al, cl, rfl, _⟩ := id hl
  obtain ⟨As, cs, rfl, _⟩ := hs.cells
  rw [runeVals_length] at hl ⊢
  by_cases h : l.length ≤ 1024
  · exact tb_main w l os Al As cl cs hl hs h
  · exact tb_long w As _ cs Al _ cl (by omega)
end Go.Proofs.Ytjgjbdpknfplkaa
