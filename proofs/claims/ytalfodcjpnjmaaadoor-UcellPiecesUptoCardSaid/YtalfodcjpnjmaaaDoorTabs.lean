/-
  What the rows list of package-level variables gives the tables that the walks ask for.
-/
import Derived.Test.YtalfodcjpnjmaaaDoorRows
import Derived.Test.YtalfodcjpnjmaaaDoorMem
import Derived.Lib.LaidU8
namespace Go.Proofs.YtalfodcjpnjmaaaDoor
open Go.RowKit Go.Lib

theorem rows_of_three (l : List (Int × Int × Int)) : ∀ cs : List Value, cs.length = l.length * 3 → (∀ i s, l[i]? = some s → (cs.drop (i * 3)).take 3 = widRow s) → cs = l.flatMap widRow := by
  induction l with
  | nil => intro cs h _; simpa using h
  | cons x l ih =>
    intro cs hl h
    have h0 := h 0 x rfl
    match cs, hl with
    | a :: b :: c :: cs, hl =>
      simp [widRow] at h0
      obtain ⟨rfl, rfl, rfl⟩ := h0
      have := ih cs (by simp at hl; omega) (fun i s hs => by
        have := h (i + 1) s (by simpa using hs)
        rw [show (i + 1) * 3 = i * 3 + 1 + 1 + 1 by omega] at this
        simpa using this)
      simp [List.flatMap_cons, widRow, ← this]
    | [], hl => simp at hl
    | [_], hl => simp at hl; omega
    | [_, _], hl => simp at hl; omega

def widData : DataW Unit := .agg (widT.map fun s => .agg [.lit (.int .i32 s.1), .lit (.int .i32 s.2.1), .lit (.int .i64 s.2.2)])

theorem wid_of_reads {w : World} (h : VarReads Tryd.prog w "lanyard/ucell.widths" widData) : WidTab w := by
  obtain ⟨g, t, cs, fuel, p, hg, hty, hvar, hd⟩ := h
  obtain rfl := Option.some.inj ((show Tryd.prog.globalNamed "lanyard/ucell.widths" = some 0 by kernel_rfl).symm.trans hg)
  obtain rfl := Option.some.inj ((show (Tryd.prog.globals[0]?).map (·.type) = some 63 by kernel_rfl).symm.trans hty)
  have hce : Tryd.prog.cellsOf 62 = 3 := by kernel_rfl
  have hct : Tryd.prog.cellsOf 63 = 87 := by kernel_rfl
  have hlen : cs.toList.length = 29 * 3 := by
    cases fuel with
    | zero => simp [DataW.trod] at hd
    | succ fuel =>
      simp only [DataW.trod, Tryd.underlying63, hct] at hd
      split at hd
      · next hl => simpa using hl
      · cases hd
  have hcs : cs.toList = widT.flatMap widRow := by
    refine rows_of_three widT cs.toList (by rw [hlen, widT_len]) fun i s hs => ?_
    have hi : i < 29 := by have := (List.getElem?_eq_some_iff.1 hs).1; rwa [widT_len] at this
    obtain ⟨fuel', d, q, hdi, he⟩ := array_elem Tryd.underlying63 hd i hi
    simp only [List.getElem?_map, hs, Option.map_some, Option.some.injEq] at hdi
    subst hdi
    rw [hce] at he
    obtain ⟨xs, n, rfl, hx, hl, hxl, hall⟩ := DataW.trod_struct Tryd.underlying62 he
    have c1 : Tryd.prog.cellsOf 21 = 1 := by kernel_rfl
    have c2 : Tryd.prog.cellsOf 3 = 1 := by kernel_rfl
    rw [hce] at hl
    have a0 := hall 0 _ rfl
    have a1 := hall 1 _ rfl
    have a2 := hall 2 _ rfl
    simp only [List.getElem_toArray, List.getElem_cons_zero, List.getElem_cons_succ] at a0 a1 a2
    rw [c1] at a0 a1
    rw [c2] at a2
    match xs, hxl with
    | [y0, y1, y2], _ =>
      obtain ⟨z0, e0, f0, _⟩ := DataW.trod_int Tryd.underlying21 a0
      obtain ⟨z1, e1, f1, _⟩ := DataW.trod_int Tryd.underlying21 a1
      obtain ⟨z2, e2, f2, _⟩ := DataW.trod_int Tryd.underlying3 a2
      subst f0 f1 f2
      simp only [List.map_cons, List.map_nil, Prod.mk.injEq, DataW.agg.injEq, List.cons.injEq, DataW.lit.injEq, Lit.int.injEq, true_and, and_true] at hx
      obtain ⟨⟨g0, g1, g2⟩, _⟩ := hx
      generalize (cs.toList.drop (i * 3)).take 3 = ch at *
      match ch, hl with
      | [u0, u1, u2], _ =>
        simp at e0 e1 e2
        rw [e0, e1, e2, ← g0, ← g1, ← g2]
        rfl
  simp only [World.var?, hg, Option.bind_some] at hvar
  split at hvar
  · next cur t fr hh =>
    injection hvar with hvar
    subst hvar
    refine ⟨t, fr, ?_⟩
    rw [hh]
    unfold widCells
    rw [← hcs]
  · cases hvar

theorem utf8_of_reads {w : World} (h3 : VarReads Tryd.prog w "unicode/utf8.first" firstData) (h4 : VarReads Tryd.prog w "unicode/utf8.acceptRanges" acceptData) : Lib.Utf8Tabs 1 2 w := by
  have c5 : Tryd.prog.cellsOf 5 = 1 := by kernel_rfl
  have c256 : Tryd.prog.cellsOf 80 = 256 := by kernel_rfl
  have c2 : Tryd.prog.cellsOf 82 = 2 := by kernel_rfl
  refine ⟨fun c hc => ?_, fun i hi => ?_⟩
  · obtain ⟨g, t, cs, fuel, p, hg, hty, hvar, hd⟩ := h3
    obtain rfl := Option.some.inj ((show Tryd.prog.globalNamed "unicode/utf8.first" = some 1 by kernel_rfl).symm.trans hg)
    obtain rfl := Option.some.inj ((show (Tryd.prog.globals[1]?).map (·.type) = some 80 by kernel_rfl).symm.trans hty)
    have hcs := cells_of_tab Tryd.underlying80 Tryd.underlying5 c5 c256 hd
    rw [World.var?_cell hg hvar c, ← Array.getElem?_toList, hcs]
    simp [firstTab, hc]
  · obtain ⟨g, t, cs, fuel, p, hg, hty, hvar, hd⟩ := h4
    obtain rfl := Option.some.inj ((show Tryd.prog.globalNamed "unicode/utf8.acceptRanges" = some 2 by kernel_rfl).symm.trans hg)
    obtain rfl := Option.some.inj ((show (Tryd.prog.globals[2]?).map (·.type) = some 83 by kernel_rfl).symm.trans hty)
    obtain ⟨fuel', d, q, hdi, he⟩ := array_elem Tryd.underlying83 hd i hi
    simp only [List.getElem?_map, List.getElem?_range hi, Option.map_some, Option.some.injEq] at hdi
    subst hdi
    rw [c2] at he
    have hcs := ints_of_struct Tryd.underlying82 (fun j f hj => by
      match j, hj with
      | 0, hj => simp at hj; subst hj; exact ⟨Tryd.underlying5, rfl, c5⟩
      | 1, hj => simp at hj; subst hj; exact ⟨Tryd.underlying5, rfl, c5⟩
      | j + 2, hj => simp at hj) (by rw [c2]; rfl) he
    have e0 := congrArg (·[0]?) hcs
    have e1 := congrArg (·[1]?) hcs
    simp only [List.getElem?_take, List.getElem?_drop] at e0 e1
    constructor
    · rw [World.var?_cell hg hvar (2 * i), ← Array.getElem?_toList]
      simpa [Nat.mul_comm] using e0
    · rw [World.var?_cell hg hvar (2 * i + 1), ← Array.getElem?_toList]
      simpa [Nat.mul_comm] using e1

/-- the rows' list -/
def laidList : List (String × DataW Unit) := [("unicode/utf8.acceptRanges", Rows.laid_unicode_utf8_acceptRanges), ("lanyard/ucell.widths", Rows.laid_lanyard_ucell_widths), ("unicode/utf8.first", Rows.laid_unicode_utf8_first)]

set_option maxRecDepth 100000 in
theorem tabs_of {W : World} (h : laidMetH Tryd.prog laidList W) : Tabs W := by
  have hm : laidMet Tryd.prog laidList W := h
  have e1 : Rows.laid_unicode_utf8_acceptRanges = acceptData := by kernel_rfl
  have e2 : Rows.laid_lanyard_ucell_widths = widData := by kernel_rfl
  have e3 : Rows.laid_unicode_utf8_first = firstData := by kernel_rfl
  have r1 := Lib.laidMet.reads hm (n := "unicode/utf8.acceptRanges") (d := acceptData) (by rw [← e1]; simp [laidList])
  have r2 := Lib.laidMet.reads hm (n := "lanyard/ucell.widths") (d := widData) (by rw [← e2]; simp [laidList])
  have r3 := Lib.laidMet.reads hm (n := "unicode/utf8.first") (d := firstData) (by rw [← e3]; simp [laidList])
  exact ⟨utf8_of_reads r3 r1, wid_of_reads r2⟩

end Go.Proofs.YtalfodcjpnjmaaaDoor
