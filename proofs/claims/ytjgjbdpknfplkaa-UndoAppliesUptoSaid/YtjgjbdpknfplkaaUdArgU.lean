/-
  How an argument that is a slice of runes, or an edit, is opened, with its bulk.
-/
import Derived.Test.YtjgjbdpknfplkaaUdArg
namespace Go.Proofs.Ytjgjbdpknfplkaa
open Go.ChangeShapes Go.WideShapes Go.ChangeAt Go.RowKit Go.ChangeMaps Go.Deep

theorem bulk_of {H : Type} {l : List (DataW H)} (h : Rows.uptoSmall H l = true) : Rows.uptoBulkAll l ≤ 1048576 := of_decide_eq_true h
theorem bulk_len {H : Type} (l : List (DataW H)) : l.length ≤ Rows.uptoBulkAll l := by
  induction l with
  | nil => exact Nat.zero_le _
  | cons d l ih =>
    have h1 : 1 ≤ Rows.uptoBulk d := by
      cases d with
      | lit x => cases x <;> simp [Rows.uptoBulk]
      | nil => simp [Rows.uptoBulk]
      | ptr d => simp [Rows.uptoBulk]
      | slice e s => simp [Rows.uptoBulk]
      | agg p => simp [Rows.uptoBulk]
      | iface t d => simp [Rows.uptoBulk]
      | map m => simp [Rows.uptoBulk]
      | held x => simp [Rows.uptoBulk]
    simp only [Rows.uptoBulkAll, List.length_cons]
    omega
theorem runesU_of_trod {H : Type} {enc : TypeId × Value → H} {W : World} {fuel : Nat} {v : Value} {x : DataW H × List MemPlace} (hf : DataW.trod enc Try.prog W 0 (fun _ => true) true fuel 22 [v] = some x) :
    ∃ c : List Int, Holds1 W v (runeVals c) ∧ c.length ≤ Rows.uptoBulk x.1 := by
  rcases open_ints Try.underlying22 Try.underlying21 (by kernel_rfl) hf with ⟨hcs, hx⟩ | ⟨a, l, c, zs, hcs, _, hl, hm, hz, hx, hcell, hwz⟩
  · injection hcs with hcs _
    subst hcs
    exact ⟨[], ⟨none, 0, rfl, ⟨Nat.le_refl _, fun _ => rfl⟩, fun h => by simp [runeVals] at h⟩, by simp⟩
  · injection hcs with hcs _
    subst hcs
    have hzl : zs.length = c := by simpa using hz
    have htl : (zs.take l).length = l := by rw [List.length_take]; omega
    refine ⟨zs.take l, ⟨some a, c, by rw [runeVals, List.length_map, htl], ⟨by rw [runeVals, List.length_map, htl]; exact hl, fun h => by cases h⟩, fun hp => ?_⟩, ?_⟩
    · rw [runeVals, List.length_map, htl] at hp
      obtain ⟨b, off, rfl, hat⟩ := ints_at hcell (by omega)
      refine ⟨b, off, rfl, block_lt_of_cell (hat 0 (by omega)), fun j u hu => ?_⟩
      have hj : j < l := by
        have := (List.getElem?_eq_some_iff.1 hu).1
        rwa [runeVals, List.length_map, htl] at this
      rw [hat j (by omega), ← hu]
      have hjz : j < zs.length := by omega
      simp [runeVals, hj, hjz]
    · rw [hx]
      have := bulk_len (lits IntKind.i32 (zs.take l) (H := H))
      simp only [lits, List.length_map] at this
      simp only [Rows.uptoBulk, lits]
      omega
theorem runesU_of_arg {H : Type} {enc : TypeId × Value → H} {W : World} {a : Option Addr} {len cap : Nat} {d : DataW H} {p : List MemPlace} (h : DataW.Trod enc Try.prog W 0 (fun _ => true) true 22 (.slice a len cap) d p) :
    ∃ c : List Int, Holds1 W (.slice a len cap) (runeVals c) ∧ c.length ≤ Rows.uptoBulk d := by
  obtain ⟨fuel, hf⟩ := h
  exact runesU_of_trod (x := (d, p)) hf
structure EdU (W : World) (o : EdB) (n : Nat) : Prop where
  d : Holds1 W o.dv (runeVals o.d)
  i : Holds1 W o.iv (runeVals o.i)
  p0 : -9223372036854775808 ≤ o.p ∧ o.p ≤ 9223372036854775807
  len : o.d.length + o.i.length ≤ n
theorem EdU.ok {W : World} {o : EdB} {n : Nat} (h : EdU W o n) (hn : n ≤ 1048576) : EdBOk W o := ⟨h.d, h.i, by have := h.len; omega, by have := h.len; omega, h.p0⟩
set_option maxRecDepth 1000000 in
theorem edU_cells {H : Type} {enc : TypeId × Value → H} {W : World} {fuel : Nat} {cs : List Value} {x : DataW H × List MemPlace} (h : DataW.trod enc Try.prog W 0 (fun _ => true) true fuel 24 cs = some x) :
    ∃ o : EdB, cs = o.cells ∧ EdU W o (Rows.uptoBulk x.1) := by
  obtain ⟨xs, n, _, hx, hl, hxl, hall⟩ := DataW.trod_struct Try.underlying24 h
  have c1 : Try.prog.cellsOf 3 = 1 := by kernel_rfl
  have c3 : Try.prog.cellsOf 22 = 1 := by kernel_rfl
  have c4 : Try.prog.cellsOf 24 = 3 := by kernel_rfl
  rw [c4] at hl
  have b0 := hall 0 _ rfl
  have b1 := hall 1 _ rfl
  have b2 := hall 2 _ rfl
  clear hall
  simp only [List.getElem_toArray, List.getElem_cons_zero, List.getElem_cons_succ] at b0 b1 b2
  rw [c1] at b0
  rw [c3] at b1 b2
  match cs, hl, xs, hxl with
  | [u0, u1, u2], _, [r0, r1, r2], _ =>
    simp at b0 b1 b2
    obtain ⟨z4, e4, f4, w4⟩ := DataW.trod_int Try.underlying3 b0
    simp at e4
    subst e4
    obtain ⟨cd, hd, hdl⟩ := runesU_of_trod b1
    obtain ⟨ci, hi, hil⟩ := runesU_of_trod b2
    refine ⟨⟨z4, u1, u2, cd, ci⟩, rfl, hd, hi, bounds_i64 w4, ?_⟩
    rw [hx]
    show cd.length + ci.length ≤ _
    simp [Rows.uptoBulk, Rows.uptoBulkAll]
    omega
set_option maxRecDepth 1000000 in
theorem edU_of_arg {H : Type} {enc : TypeId × Value → H} {W : World} {base : Nat} {v : Value} {d : DataW H} {p : List MemPlace} (hval : Value.okWide Try.prog W .any base 24 v) (h : DataW.Trod enc Try.prog W 0 (fun _ => true) true 24 v d p) : ∃ o : EdB, v = o.val ∧ EdU W o (Rows.uptoBulk d) := by
  obtain ⟨cs, rfl, hsz⟩ := okWide_struct Try.underlying24 hval
  obtain ⟨fuel, hf⟩ := h
  obtain ⟨o, hc, h1⟩ := edU_cells (x := (d, p)) hf
  refine ⟨o, ?_, h1⟩
  have : cs.toList = o.cells := by simpa [Value.cells] using hc
  show Value.agg cs = .agg o.cells.toArray
  rw [← this]
end Go.Proofs.Ytjgjbdpknfplkaa
