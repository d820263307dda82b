/-
  What the rows list of package-level variables gives the tables that the walks ask for.
-/
import Derived.Test.YtcfgppjhgobboaaGreatDoorTiTabL
import Derived.Test.YtcfgppjhgobboaaGreatDoorTiRefPlace
import Derived.MakeChecks
namespace Go.Proofs.YtcfgppjhgobboaaGreatDoor
open Go.RowKit Go.Lib

def spaceData : DataW Unit := .agg ((List.range 256).map fun c => .lit (.int .u8 (if isSp (UInt8.ofNat c) then 1 else 0)))
theorem space_of_reads {w : World} (h : VarReads Tryz.prog w "strings.asciiSpace" spaceData) : SpaceTab w := by
  have c5 : Tryz.prog.cellsOf 5 = 1 := by kernel_rfl
  have c256 : Tryz.prog.cellsOf 177 = 256 := by kernel_rfl
  intro c hc
  obtain ⟨g, t, cs, fuel, p, hg, hty, hvar, hd⟩ := h
  obtain rfl := Option.some.inj ((show Tryz.prog.globalNamed "strings.asciiSpace" = some 1 by kernel_rfl).symm.trans hg)
  obtain rfl := Option.some.inj ((show (Tryz.prog.globals[1]?).map (·.type) = some 177 by kernel_rfl).symm.trans hty)
  obtain ⟨fuel', d, q, hdi, he⟩ := array_elem Tryz.underlying177 hd c (by omega)
  simp only [List.getElem?_map, List.getElem?_range hc, Option.map_some, Option.some.injEq] at hdi
  subst hdi
  rw [c5] at he
  obtain ⟨z, e0, f0, _⟩ := DataW.trod_int Tryz.underlying5 he
  simp only [Prod.mk.injEq, DataW.lit.injEq, Lit.int.injEq, true_and] at f0
  rw [World.var?_cell hg hvar c, ← Array.getElem?_toList, f0.1]
  have := congrArg (·[0]?) e0
  simp only [List.getElem?_take, List.getElem?_drop] at this
  simpa using this

set_option maxRecDepth 1000000 in
theorem tabs_of {W : World} (h : laidMetH Tryz.prog Rows.tinfoSetsRow.laid W) : Tabs W := by
  rw [MakeChecks.laidMetH_plain _ _ _ (by kernel_rfl)] at h
  have e1 : Rows.laid_strings_asciiSpace = spaceData := by kernel_rfl
  have r1 := Lib.laidMet.reads h (n := "strings.asciiSpace") (d := spaceData) (by rw [← e1]; exact .tail _ (.tail _ (.tail _ (.tail _ (.tail _ (.tail _ (.tail _ (.head _))))))))
  have r2 := Lib.laidMet.reads h (n := "lanyard/tinfo.runs") (d := runData) (by rw [← runData_is]; exact .tail _ (.tail _ (.tail _ (.tail _ (.tail _ (.tail _ (.tail _ (.tail _ (.head _)))))))))
  exact ⟨runs_of_reads r2, space_of_reads r1⟩

end Go.Proofs.YtcfgppjhgobboaaGreatDoor
