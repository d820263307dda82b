/-
  What the rows list of package-level variables gives the table that the walks ask for.
-/
import Derived.Test.YtepbhmebidmnbaaDoorRows
import Derived.Test.YtepbhmebidmnbaaDoorBfBase
import Derived.Lib.LaidU8
namespace Go.Proofs.YtepbhmebidmnbaaDoor
open Go.RowKit Go.Lib

theorem rows_of_three (l : List (Int × Int × Int)) : ∀ cs : List Value, cs.length = l.length * 3 → (∀ i s, l[i]? = some s → (cs.drop (i * 3)).take 3 = widRow s) → cs = l.flatMap widRow := by
  induction l with
  | nil => intro cs h _; simpa using h
  | cons x l ih =>
    intro cs hl h
    have h0 := h 0 x rfl
    match cs, hl with
    | a :: b :: c :: cs, hl =>
      simp [widRow] at h0
      obtain ⟨rfl, rfl, rfl⟩ := h0
      have := ih cs (by simp at hl; omega) (fun i s hs => by
        have := h (i + 1) s (by simpa using hs)
        rw [show (i + 1) * 3 = i * 3 + 1 + 1 + 1 by omega] at this
        simpa using this)
      simp [List.flatMap_cons, widRow, ← this]
    | [], hl => simp at hl
    | [_], hl => simp at hl; omega
    | [_, _], hl => simp at hl; omega

def widData : DataW Unit := .agg (widT.map fun s => .agg [.lit (.int .i32 s.1), .lit (.int .i32 s.2.1), .lit (.int .i64 s.2.2)])

theorem wid_of_reads {w : World} (h : VarReads Tryd.prog w "lanyard/ucell.widths" widData) : WidTab w := by
  obtain ⟨g, t, cs, fuel, p, hg, hty, hvar, hd⟩ := h
  obtain rfl := Option.some.inj ((show Tryd.prog.globalNamed "lanyard/ucell.widths" = some 0 by kernel_rfl).symm.trans hg)
  obtain rfl := Option.some.inj ((show (Tryd.prog.globals[0]?).map (·.type) = some 90 by kernel_rfl).symm.trans hty)
  have hce : Tryd.prog.cellsOf 89 = 3 := by kernel_rfl
  have hct : Tryd.prog.cellsOf 90 = 87 := by kernel_rfl
  have hlen : cs.toList.length = 29 * 3 := by
    cases fuel with
    | zero => simp [DataW.trod] at hd
    | succ fuel =>
      simp only [DataW.trod, Tryd.underlying90, hct] at hd
      split at hd
      · next hl => simpa using hl
      · cases hd
  have hcs : cs.toList = widT.flatMap widRow := by
    refine rows_of_three widT cs.toList (by rw [hlen, widT_len]) fun i s hs => ?_
    have hi : i < 29 := by have := (List.getElem?_eq_some_iff.1 hs).1; rwa [widT_len] at this
    obtain ⟨fuel', d, q, hdi, he⟩ := array_elem Tryd.underlying90 hd i hi
    simp only [List.getElem?_map, hs, Option.map_some, Option.some.injEq] at hdi
    subst hdi
    rw [hce] at he
    obtain ⟨xs, n, rfl, hx, hl, hxl, hall⟩ := DataW.trod_struct Tryd.underlying89 he
    have c1 : Tryd.prog.cellsOf 21 = 1 := by kernel_rfl
    have c2 : Tryd.prog.cellsOf 3 = 1 := by kernel_rfl
    rw [hce] at hl
    have a0 := hall 0 _ rfl
    have a1 := hall 1 _ rfl
    have a2 := hall 2 _ rfl
    simp only [List.getElem_toArray, List.getElem_cons_zero, List.getElem_cons_succ] at a0 a1 a2
    rw [c1] at a0 a1
    rw [c2] at a2
    match xs, hxl with
    | [y0, y1, y2], _ =>
      obtain ⟨z0, e0, f0, _⟩ := DataW.trod_int Tryd.underlying21 a0
      obtain ⟨z1, e1, f1, _⟩ := DataW.trod_int Tryd.underlying21 a1
      obtain ⟨z2, e2, f2, _⟩ := DataW.trod_int Tryd.underlying3 a2
      subst f0 f1 f2
      simp only [List.map_cons, List.map_nil, Prod.mk.injEq, DataW.agg.injEq, List.cons.injEq, DataW.lit.injEq, Lit.int.injEq, true_and, and_true] at hx
      obtain ⟨⟨g0, g1, g2⟩, _⟩ := hx
      generalize (cs.toList.drop (i * 3)).take 3 = ch at *
      match ch, hl with
      | [u0, u1, u2], _ =>
        simp at e0 e1 e2
        rw [e0, e1, e2, ← g0, ← g1, ← g2]
        rfl
  simp only [World.var?, hg, Option.bind_some] at hvar
  split at hvar
  · next cur t fr hh =>
    injection hvar with hvar
    subst hvar
    refine ⟨t, fr, ?_⟩
    rw [hh]
    unfold widCells
    rw [← hcs]
  · cases hvar

/-- the rows' list -/
def laidList : List (String × DataW Unit) := [("lanyard/ucell.widths", Rows.laid_lanyard_ucell_widths)]

set_option maxRecDepth 100000 in
theorem tabs_of {W : World} (h : laidMetH Tryd.prog laidList W) : WidTab W := by
  have hm : laidMet Tryd.prog laidList W := h
  have e2 : Rows.laid_lanyard_ucell_widths = widData := by kernel_rfl
  have r2 := Lib.laidMet.reads hm (n := "lanyard/ucell.widths") (d := widData) (by rw [← e2]; simp [laidList])
  exact wid_of_reads r2

end Go.Proofs.YtepbhmebidmnbaaDoor
