/-
  The table of the capabilities' names, as the rows' list of package-level variables gives it.
  What the rows list of package-level variables gives the tables that the walks ask for.
-/
import Derived.Test.YtcfgppjhgobboaaGreatDoorRows
import Derived.Test.YtcfgppjhgobboaaGreatDoorTmBase
import Derived.Lib.LaidU8
import Derived.Test.YtcfgppjhgobboaaGreatDoorTiRefPlace
import Derived.MakeChecks
namespace Go.Proofs.YtcfgppjhgobboaaGreatDoor
section
open Go.RowKit Go.Lib

def runData : DataW Unit := .agg (runT.map fun s => .agg [.lit (.int .i64 s.1), .lit (.int .i64 s.2.1), .lit (.string s.2.2)])
theorem runData_is : Rows.laid_lanyard_tinfo_runs (H := Unit) = runData := rfl
theorem rows_of_runs (l : List (Int × Int × List UInt8)) : ∀ cs : List Value, cs.length = l.length * 3 → (∀ i s, l[i]? = some s → (cs.drop (i * 3)).take 3 = runRow s) → cs = l.flatMap runRow := by
  induction l with
  | nil => intro cs h _; simpa using h
  | cons x l ih =>
    intro cs hl h
    have h0 := h 0 x rfl
    match cs, hl with
    | a :: b :: c :: cs, hl =>
      simp [runRow] at h0
      obtain ⟨rfl, rfl, rfl⟩ := h0
      have := ih cs (by simp at hl; omega) (fun i s hs => by
        have := h (i + 1) s (by simpa using hs)
        rw [show (i + 1) * 3 = i * 3 + 1 + 1 + 1 by omega] at this
        simpa using this)
      simp [List.flatMap_cons, runRow, ← this]
    | [], hl => simp at hl
    | [_], hl => simp at hl; omega
    | [_, _], hl => simp at hl; omega

set_option maxRecDepth 100000 in
theorem runs_of_reads {w : World} (h : VarReads Tryz.prog w "lanyard/tinfo.runs" runData) : RunTab w := by
  obtain ⟨g, t, cs, fuel, p, hg, hty, hvar, hd⟩ := h
  obtain rfl := Option.some.inj ((show Tryz.prog.globalNamed "lanyard/tinfo.runs" = some 0 by kernel_rfl).symm.trans hg)
  obtain rfl := Option.some.inj ((show (Tryz.prog.globals[0]?).map (·.type) = some 122 by kernel_rfl).symm.trans hty)
  have hce : Tryz.prog.cellsOf 121 = 3 := by kernel_rfl
  have hct : Tryz.prog.cellsOf 122 = 48 := by kernel_rfl
  have hlen : cs.toList.length = 16 * 3 := by
    cases fuel with
    | zero => simp [DataW.trod] at hd
    | succ fuel =>
      simp only [DataW.trod, Tryz.underlying122, hct] at hd
      split at hd
      · next hl => simpa using hl
      · cases hd
  have hcs : cs.toList = runT.flatMap runRow := by
    refine rows_of_runs runT cs.toList (by rw [hlen, runT_len]) fun i s hs => ?_
    have hi : i < 16 := by have := (List.getElem?_eq_some_iff.1 hs).1; rwa [runT_len] at this
    obtain ⟨fuel', d, q, hdi, he⟩ := array_elem Tryz.underlying122 hd i hi
    simp only [List.getElem?_map, hs, Option.map_some, Option.some.injEq] at hdi
    subst hdi
    rw [hce] at he
    obtain ⟨xs, n, rfl, hx, hl, hxl, hall⟩ := DataW.trod_struct Tryz.underlying121 he
    have c1 : Tryz.prog.cellsOf 3 = 1 := by kernel_rfl
    have c2 : Tryz.prog.cellsOf 9 = 1 := by kernel_rfl
    rw [hce] at hl
    have a0 := hall 0 _ rfl
    have a1 := hall 1 _ rfl
    have a2 := hall 2 _ rfl
    simp only [List.getElem_toArray, List.getElem_cons_zero, List.getElem_cons_succ] at a0 a1 a2
    rw [c1] at a0 a1
    rw [c2] at a2
    match xs, hxl with
    | [y0, y1, y2], _ =>
      obtain ⟨z0, e0, f0, _⟩ := DataW.trod_int Tryz.underlying3 a0
      obtain ⟨z1, e1, f1, _⟩ := DataW.trod_int Tryz.underlying3 a1
      obtain ⟨z2, e2, f2, _⟩ := DataW.trod_string Tryz.underlying9 a2
      subst f0 f1 f2
      simp only [List.map_cons, List.map_nil, Prod.mk.injEq, DataW.agg.injEq, List.cons.injEq, DataW.lit.injEq, Lit.int.injEq, Lit.string.injEq, true_and, and_true] at hx
      obtain ⟨⟨g0, g1, g2⟩, _⟩ := hx
      generalize (cs.toList.drop (i * 3)).take 3 = ch at *
      match ch, hl with
      | [u0, u1, u2], _ =>
        simp at e0 e1 e2
        rw [e0, e1, e2, ← g0, ← g1]
        simp [runRow, g2]
  simp only [World.var?, hg, Option.bind_some] at hvar
  split at hvar
  · next cur t fr hh =>
    injection hvar with hvar
    subst hvar
    refine ⟨t, fr, ?_⟩
    rw [hh]
    unfold runCells
    rw [← hcs]
  · cases hvar
end

section
open Go.RowKit Go.Lib

def spaceData : DataW Unit := .agg ((List.range 256).map fun c => .lit (.int .u8 (if isSp (UInt8.ofNat c) then 1 else 0)))
theorem space_of_reads {w : World} (h : VarReads Tryz.prog w "strings.asciiSpace" spaceData) : SpaceTab w := by
  have c5 : Tryz.prog.cellsOf 5 = 1 := by kernel_rfl
  have c256 : Tryz.prog.cellsOf 177 = 256 := by kernel_rfl
  intro c hc
  obtain ⟨g, t, cs, fuel, p, hg, hty, hvar, hd⟩ := h
  obtain rfl := Option.some.inj ((show Tryz.prog.globalNamed "strings.asciiSpace" = some 1 by kernel_rfl).symm.trans hg)
  obtain rfl := Option.some.inj ((show (Tryz.prog.globals[1]?).map (·.type) = some 177 by kernel_rfl).symm.trans hty)
  obtain ⟨fuel', d, q, hdi, he⟩ := array_elem Tryz.underlying177 hd c (by omega)
  simp only [List.getElem?_map, List.getElem?_range hc, Option.map_some, Option.some.injEq] at hdi
  subst hdi
  rw [c5] at he
  obtain ⟨z, e0, f0, _⟩ := DataW.trod_int Tryz.underlying5 he
  simp only [Prod.mk.injEq, DataW.lit.injEq, Lit.int.injEq, true_and] at f0
  rw [World.var?_cell hg hvar c, ← Array.getElem?_toList, f0.1]
  have := congrArg (·[0]?) e0
  simp only [List.getElem?_take, List.getElem?_drop] at this
  simpa using this

set_option maxRecDepth 1000000 in
theorem tabs_of {W : World} (h : laidMetH Tryz.prog Rows.tinfoSetsRow.laid W) : Tabs W := by
  rw [MakeChecks.laidMetH_plain _ _ _ (by kernel_rfl)] at h
  have e1 : Rows.laid_strings_asciiSpace = spaceData := by kernel_rfl
  have r1 := Lib.laidMet.reads h (n := "strings.asciiSpace") (d := spaceData) (by rw [← e1]; exact .tail _ (.tail _ (.tail _ (.tail _ (.tail _ (.tail _ (.tail _ (.head _))))))))
  have r2 := Lib.laidMet.reads h (n := "lanyard/tinfo.runs") (d := runData) (by rw [← runData_is]; exact .tail _ (.tail _ (.tail _ (.tail _ (.tail _ (.tail _ (.tail _ (.tail _ (.head _)))))))))
  exact ⟨runs_of_reads r2, space_of_reads r1⟩
end
end Go.Proofs.YtcfgppjhgobboaaGreatDoor
