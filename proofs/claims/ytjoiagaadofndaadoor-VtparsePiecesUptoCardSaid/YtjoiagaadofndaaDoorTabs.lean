/-
  What the rows list of package-level variables gives the tables that the walks ask for.
-/
import Derived.Test.YtjoiagaadofndaaDoorRows
import Derived.Test.YtjoiagaadofndaaDoorMem
import Derived.Lib.LaidU8
namespace Go.Proofs.YtjoiagaadofndaaDoor
open Go.RowKit Go.Lib

theorem utf8_of_reads {w : World} (h3 : VarReads Tryd.prog w "unicode/utf8.first" firstData) (h4 : VarReads Tryd.prog w "unicode/utf8.acceptRanges" acceptData) : Lib.Utf8Tabs 0 1 w := by
  have c5 : Tryd.prog.cellsOf 5 = 1 := by kernel_rfl
  have c256 : Tryd.prog.cellsOf 104 = 256 := by kernel_rfl
  have c2 : Tryd.prog.cellsOf 106 = 2 := by kernel_rfl
  refine ⟨fun c hc => ?_, fun i hi => ?_⟩
  · obtain ⟨g, t, cs, fuel, p, hg, hty, hvar, hd⟩ := h3
    obtain rfl := Option.some.inj ((show Tryd.prog.globalNamed "unicode/utf8.first" = some 0 by kernel_rfl).symm.trans hg)
    obtain rfl := Option.some.inj ((show (Tryd.prog.globals[0]?).map (·.type) = some 104 by kernel_rfl).symm.trans hty)
    have hcs := cells_of_tab Tryd.underlying104 Tryd.underlying5 c5 c256 hd
    rw [World.var?_cell hg hvar c, ← Array.getElem?_toList, hcs]
    simp [firstTab, hc]
  · obtain ⟨g, t, cs, fuel, p, hg, hty, hvar, hd⟩ := h4
    obtain rfl := Option.some.inj ((show Tryd.prog.globalNamed "unicode/utf8.acceptRanges" = some 1 by kernel_rfl).symm.trans hg)
    obtain rfl := Option.some.inj ((show (Tryd.prog.globals[1]?).map (·.type) = some 107 by kernel_rfl).symm.trans hty)
    obtain ⟨fuel', d, q, hdi, he⟩ := array_elem Tryd.underlying107 hd i hi
    simp only [List.getElem?_map, List.getElem?_range hi, Option.map_some, Option.some.injEq] at hdi
    subst hdi
    rw [c2] at he
    have hcs := ints_of_struct Tryd.underlying106 (fun j f hj => by
      match j, hj with
      | 0, hj => simp at hj; subst hj; exact ⟨Tryd.underlying5, rfl, c5⟩
      | 1, hj => simp at hj; subst hj; exact ⟨Tryd.underlying5, rfl, c5⟩
      | j + 2, hj => simp at hj) (by rw [c2]; rfl) he
    have e0 := congrArg (·[0]?) hcs
    have e1 := congrArg (·[1]?) hcs
    simp only [List.getElem?_take, List.getElem?_drop] at e0 e1
    constructor
    · rw [World.var?_cell hg hvar (2 * i), ← Array.getElem?_toList]
      simpa [Nat.mul_comm] using e0
    · rw [World.var?_cell hg hvar (2 * i + 1), ← Array.getElem?_toList]
      simpa [Nat.mul_comm] using e1

/-- the rows' list -/
def laidList : List (String × DataW Unit) := [("unicode/utf8.acceptRanges", Rows.laid_unicode_utf8_acceptRanges), ("unicode/utf8.first", Rows.laid_unicode_utf8_first)]

set_option maxRecDepth 100000 in
theorem tabs_of {W : World} (h : laidMetH Tryd.prog laidList W) : Tabs W := by
  have hm : laidMet Tryd.prog laidList W := h
  have e1 : Rows.laid_unicode_utf8_acceptRanges = acceptData := by kernel_rfl
  have e3 : Rows.laid_unicode_utf8_first = firstData := by kernel_rfl
  have r1 := Lib.laidMet.reads hm (n := "unicode/utf8.acceptRanges") (d := acceptData) (by rw [← e1]; simp [laidList])
  have r3 := Lib.laidMet.reads hm (n := "unicode/utf8.first") (d := firstData) (by rw [← e3]; simp [laidList])
  exact ⟨utf8_of_reads r3 r1⟩

end Go.Proofs.YtjoiagaadofndaaDoor
