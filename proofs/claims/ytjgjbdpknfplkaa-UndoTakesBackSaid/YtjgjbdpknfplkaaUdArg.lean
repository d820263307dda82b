/-
  How an argument that is a slice of runes, or an edit, is opened.
-/
import Derived.Test.YtjgjbdpknfplkaaUdWit
import Derived.Test.YtjgjbdpknfplkaaUdRow
import Derived.ChangeMaps5
import Derived.Deep.Slices
namespace Go.Proofs.Ytjgjbdpknfplkaa
open Go.ChangeShapes Go.WideShapes Go.ChangeAt Go.RowKit Go.ChangeMaps Go.Deep

theorem runes_of_trod {H : Type} {enc : TypeId × Value → H} {W : World} {fuel : Nat} {v : Value} {x : DataW H × List MemPlace} (hf : DataW.trod enc Try.prog W 0 (fun _ => true) true fuel 22 [v] = some x) (hw : ∀ n ∈ x.1.weights Try.prog 22, n ≤ reachBytes) :
    ∃ c : List Int, Holds1 W v (runeVals c) ∧ c.length ≤ 35184372087808 := by
  have hby : Try.prog.bytesOf 21 = 4 := by kernel_rfl
  rcases open_ints Try.underlying22 Try.underlying21 (by kernel_rfl) hf with ⟨hcs, hx⟩ | ⟨a, l, c, zs, hcs, _, hl, hm, hz, hx, hcell, hwz⟩
  · injection hcs with hcs _
    subst hcs
    exact ⟨[], ⟨none, 0, rfl, ⟨Nat.le_refl _, fun _ => rfl⟩, fun h => by simp [runeVals] at h⟩, by simp⟩
  · injection hcs with hcs _
    subst hcs
    have hzl : zs.length = c := by simpa using hz
    have htl : (zs.take l).length = l := by rw [List.length_take]; omega
    refine ⟨zs.take l, ⟨some a, c, by rw [runeVals, List.length_map, htl], ⟨by rw [runeVals, List.length_map, htl]; exact hl, fun h => by cases h⟩, fun hp => ?_⟩, ?_⟩
    · rw [runeVals, List.length_map, htl] at hp
      obtain ⟨b, off, rfl, hat⟩ := ints_at hcell (by omega)
      refine ⟨b, off, rfl, block_lt_of_cell (hat 0 (by omega)), fun j u hu => ?_⟩
      have hj : j < l := by
        have := (List.getElem?_eq_some_iff.1 hu).1
        rwa [runeVals, List.length_map, htl] at this
      rw [hat j (by omega), ← hu]
      have hjz : j < zs.length := by omega
      simp [runeVals, hj, hjz]
    · rw [hx] at hw
      have := hw (4 * ((lits IntKind.i32 (zs.take l) (H := H)).length + (lits IntKind.i32 (zs.drop l) (H := H)).length)) (by simp [DataW.weights, Try.underlying22, hby]; first | done | (left; omega) | omega)
      simp only [lits, List.length_map, reachBytes] at this
      rw [htl] at this
      rw [htl]
      omega
theorem runes_of_arg {H : Type} {enc : TypeId × Value → H} {W : World} {a : Option Addr} {len cap : Nat} {d : DataW H} {p : List MemPlace} (h : DataW.Trod enc Try.prog W 0 (fun _ => true) true 22 (.slice a len cap) d p) (hw : ∀ n ∈ d.weights Try.prog 22, n ≤ reachBytes) :
    ∃ c : List Int, Holds1 W (.slice a len cap) (runeVals c) ∧ c.length ≤ 35184372087808 := by
  obtain ⟨fuel, hf⟩ := h
  exact runes_of_trod (x := (d, p)) hf hw
theorem weights_of {H : Type} {P : Program} {ts : List TypeId} {ds : List (DataW H)} (h : (DataW.weightsEach P ts ds).all (· ≤ reachBytes) = true) {j : Nat} {t : TypeId} {d : DataW H} (ht : ts[j]? = some t) (hd : ds[j]? = some d) : ∀ n ∈ d.weights P t, n ≤ reachBytes := fun n hn => by
  simpa using List.all_eq_true.1 h n (DataW.weights_mem_each ht hd n hn)
/-- an edit that came in -/
structure EdB where
  p : Int
  dv : Value
  iv : Value
  d : List Int
  i : List Int
def EdB.ed (o : EdB) : Ed := ⟨o.p, o.d, o.i⟩
def EdB.cells (o : EdB) : List Value := [.int .i64 o.p, o.dv, o.iv]
abbrev EdB.val (o : EdB) : Value := .agg o.cells.toArray
structure EdBOk (W : World) (o : EdB) : Prop where
  d : Holds1 W o.dv (runeVals o.d)
  i : Holds1 W o.iv (runeVals o.i)
  dl : o.d.length ≤ 35184372087808
  il : o.i.length ≤ 35184372087808
  p0 : -9223372036854775808 ≤ o.p ∧ o.p ≤ 9223372036854775807
theorem EdBOk.below {W W' : World} {o : EdB} (h : EdBOk W o) (hb : Below W.heap.size W W') : EdBOk W' o := ⟨h.d.below hb, h.i.below hb, h.dl, h.il, h.p0⟩
theorem EdBOk.forms {W : World} {o : EdB} (h : EdBOk W o) : (∃ A c, o.dv = .slice A o.d.length c) ∧ (∃ A c, o.iv = .slice A o.i.length c) := by
  obtain ⟨A2, c2, e2, _⟩ := h.d
  obtain ⟨A3, c3, e3, _⟩ := h.i
  rw [runeVals_length] at e2 e3
  exact ⟨⟨A2, c2, e2⟩, ⟨A3, c3, e3⟩⟩
set_option maxRecDepth 1000000 in
theorem ed_cells {H : Type} {enc : TypeId × Value → H} {W : World} {fuel : Nat} {cs : List Value} {x : DataW H × List MemPlace} (h : DataW.trod enc Try.prog W 0 (fun _ => true) true fuel 24 cs = some x) (hw : ∀ n ∈ x.1.weights Try.prog 24, n ≤ reachBytes) :
    ∃ o : EdB, cs = o.cells ∧ EdBOk W o := by
  obtain ⟨xs, n, _, hx, hl, hxl, hall⟩ := DataW.trod_struct Try.underlying24 h
  have c1 : Try.prog.cellsOf 3 = 1 := by kernel_rfl
  have c3 : Try.prog.cellsOf 22 = 1 := by kernel_rfl
  have c4 : Try.prog.cellsOf 24 = 3 := by kernel_rfl
  rw [c4] at hl
  have b0 := hall 0 _ rfl
  have b1 := hall 1 _ rfl
  have b2 := hall 2 _ rfl
  clear hall
  simp only [List.getElem_toArray, List.getElem_cons_zero, List.getElem_cons_succ] at b0 b1 b2
  rw [c1] at b0
  rw [c3] at b1 b2
  match cs, hl, xs, hxl with
  | [u0, u1, u2], _, [r0, r1, r2], _ =>
    simp at b0 b1 b2
    obtain ⟨z4, e4, f4, w4⟩ := DataW.trod_int Try.underlying3 b0
    simp at e4
    subst e4
    have hw5 : ∀ n ∈ r1.1.weights Try.prog 22, n ≤ reachBytes := fun m hm => hw m (by
      rw [hx]
      simp only [DataW.weights, Try.underlying24]
      exact DataW.weights_mem_each (j := 1) (t := 22) (d := r1.1) rfl rfl m hm)
    have hw6 : ∀ n ∈ r2.1.weights Try.prog 22, n ≤ reachBytes := fun m hm => hw m (by
      rw [hx]
      simp only [DataW.weights, Try.underlying24]
      exact DataW.weights_mem_each (j := 2) (t := 22) (d := r2.1) rfl rfl m hm)
    obtain ⟨cd, hd, hdl⟩ := runes_of_trod b1 hw5
    obtain ⟨ci, hi, hil⟩ := runes_of_trod b2 hw6
    exact ⟨⟨z4, u1, u2, cd, ci⟩, rfl, hd, hi, hdl, hil, bounds_i64 w4⟩
set_option maxRecDepth 1000000 in
theorem ed_of_arg {H : Type} {enc : TypeId × Value → H} {W : World} {base : Nat} {v : Value} {d : DataW H} {p : List MemPlace} (hval : Value.okWide Try.prog W .any base 24 v) (h : DataW.Trod enc Try.prog W 0 (fun _ => true) true 24 v d p)
    (hw : ∀ n ∈ d.weights Try.prog 24, n ≤ reachBytes) : ∃ o : EdB, v = o.val ∧ EdBOk W o := by
  obtain ⟨cs, rfl, hsz⟩ := okWide_struct Try.underlying24 hval
  obtain ⟨fuel, hf⟩ := h
  obtain ⟨o, hc, h1⟩ := ed_cells (x := (d, p)) hf hw
  refine ⟨o, ?_, h1⟩
  have : cs.toList = o.cells := by simpa [Value.cells] using hc
  show Value.agg cs = .agg o.cells.toArray
  rw [← this]
end Go.Proofs.Ytjgjbdpknfplkaa
