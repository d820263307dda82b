/-
  How an argument that is a slice of runes, or an operation of a buffer, is opened.
-/
import Derived.Test.YtepbhmebidmnbaaDoorBfWit
import Derived.ChangeMaps5
import Derived.Deep.Slices
namespace Go.Proofs.YtepbhmebidmnbaaDoor
open Go.ChangeShapes Go.WideShapes Go.ChangeAt Go.RowKit Go.ChangeMaps Go.Deep

theorem runes_of_trod {H : Type} {enc : TypeId × Value → H} {W : World} {fuel : Nat} {v : Value} {x : DataW H × List MemPlace} (hf : DataW.trod enc Tryd.prog W 0 (fun _ => true) true fuel 22 [v] = some x) (hw : ∀ n ∈ x.1.weights Tryd.prog 22, n ≤ reachBytes) :
    ∃ c : List Int, Holds1 W v (runeVals c) ∧ c.length ≤ 35184372088832 := by
  have hby : Tryd.prog.bytesOf 21 = 4 := by kernel_rfl
  rcases open_ints Tryd.underlying22 Tryd.underlying21 (by kernel_rfl) hf with ⟨hcs, hx⟩ | ⟨a, l, c, zs, hcs, _, hl, hm, hz, hx, hcell, hwz⟩
  · injection hcs with hcs _
    subst hcs
    exact ⟨[], ⟨none, 0, rfl, ⟨Nat.le_refl _, fun _ => rfl⟩, fun h => by simp [runeVals] at h⟩, by simp⟩
  · injection hcs with hcs _
    subst hcs
    have hzl : zs.length = c := by simpa using hz
    have htl : (zs.take l).length = l := by rw [List.length_take]; omega
    refine ⟨zs.take l, ⟨some a, c, by rw [runeVals, List.length_map, htl], ⟨by rw [runeVals, List.length_map, htl]; exact hl, fun h => by cases h⟩, fun hp => ?_⟩, ?_⟩
    · rw [runeVals, List.length_map, htl] at hp
      obtain ⟨b, off, rfl, hat⟩ := ints_at hcell (by omega)
      refine ⟨b, off, rfl, block_lt_of_cell (hat 0 (by omega)), fun j u hu => ?_⟩
      have hj : j < l := by
        have := (List.getElem?_eq_some_iff.1 hu).1
        rwa [runeVals, List.length_map, htl] at this
      rw [hat j (by omega), ← hu]
      have hjz : j < zs.length := by omega
      simp [runeVals, hj, hjz]
    · rw [hx] at hw
      have := hw (4 * ((lits IntKind.i32 (zs.take l) (H := H)).length + (lits IntKind.i32 (zs.drop l) (H := H)).length)) (by simp [DataW.weights, Tryd.underlying22, hby]; first | done | (left; omega) | omega)
      simp only [lits, List.length_map, reachBytes] at this
      rw [htl] at this
      rw [htl]
      omega
theorem runes_of_arg {H : Type} {enc : TypeId × Value → H} {W : World} {a : Option Addr} {len cap : Nat} {d : DataW H} {p : List MemPlace} (h : DataW.Trod enc Tryd.prog W 0 (fun _ => true) true 22 (.slice a len cap) d p) (hw : ∀ n ∈ d.weights Tryd.prog 22, n ≤ reachBytes) :
    ∃ c : List Int, Holds1 W (.slice a len cap) (runeVals c) ∧ c.length ≤ 35184372088832 := by
  obtain ⟨fuel, hf⟩ := h
  exact runes_of_trod (x := (d, p)) hf hw
theorem weights_of {H : Type} {P : Program} {ts : List TypeId} {ds : List (DataW H)} (h : (DataW.weightsEach P ts ds).all (· ≤ reachBytes) = true) {j : Nat} {t : TypeId} {d : DataW H} (ht : ts[j]? = some t) (hd : ds[j]? = some d) : ∀ n ∈ d.weights P t, n ≤ reachBytes := fun n hn => by
  simpa using List.all_eq_true.1 h n (DataW.weights_mem_each ht hd n hn)
/-- an operation of a buffer -/
structure OpB where
  k : Int
  a : Int
  b : Int
  tv : Value
  p : Int
  dv : Value
  iv : Value
  x : List Int
  del : List Int
  ins : List Int
def OpB.cells (o : OpB) : List Value := [.int .i64 o.k, .int .i64 o.a, .int .i64 o.b, o.tv, .int .i64 o.p, o.dv, o.iv]
abbrev OpB.val (o : OpB) : Value := .agg o.cells.toArray
structure OpOk (W : World) (o : OpB) : Prop where
  t : Holds1 W o.tv (runeVals o.x)
  d : Holds1 W o.dv (runeVals o.del)
  i : Holds1 W o.iv (runeVals o.ins)
  tl : o.x.length ≤ 35184372088832
  dl : o.del.length ≤ 35184372088832
  il : o.ins.length ≤ 35184372088832
  a0 : -9223372036854775808 ≤ o.a ∧ o.a ≤ 9223372036854775807
  b0 : -9223372036854775808 ≤ o.b ∧ o.b ≤ 9223372036854775807
  p0 : -9223372036854775808 ≤ o.p ∧ o.p ≤ 9223372036854775807
set_option maxRecDepth 1000000 in
theorem opB_cells {H : Type} {enc : TypeId × Value → H} {W : World} {fuel : Nat} {cs : List Value} {x : DataW H × List MemPlace} (h : DataW.trod enc Tryd.prog W 0 (fun _ => true) true fuel 35 cs = some x) (hw : ∀ n ∈ x.1.weights Tryd.prog 35, n ≤ reachBytes) :
    ∃ o : OpB, cs = o.cells ∧ OpOk W o := by
  obtain ⟨xs, n, _, hx, hl, hxl, hall⟩ := DataW.trod_struct Tryd.underlying35 h
  have c1 : Tryd.prog.cellsOf 3 = 1 := by kernel_rfl
  have c3 : Tryd.prog.cellsOf 22 = 1 := by kernel_rfl
  have c4 : Tryd.prog.cellsOf 33 = 3 := by kernel_rfl
  have c7 : Tryd.prog.cellsOf 35 = 7 := by kernel_rfl
  rw [c7] at hl
  have a0 := hall 0 _ rfl
  have a1 := hall 1 _ rfl
  have a2 := hall 2 _ rfl
  have a3 := hall 3 _ rfl
  have a4 := hall 4 _ rfl
  clear hall
  simp only [List.getElem_toArray, List.getElem_cons_zero, List.getElem_cons_succ] at a0 a1 a2 a3 a4
  rw [c1] at a0 a1 a2
  rw [c3] at a3
  rw [c4] at a4
  match cs, hl, xs, hxl with
  | [u0, u1, u2, u3, u4, u5, u6], _, [y0, y1, y2, y3, y4], _ =>
    simp at a0 a1 a2 a3 a4
    obtain ⟨z0, e0, f0, w0⟩ := DataW.trod_int Tryd.underlying3 a0
    obtain ⟨z1, e1, f1, w1⟩ := DataW.trod_int Tryd.underlying3 a1
    obtain ⟨z2, e2, f2, w2⟩ := DataW.trod_int Tryd.underlying3 a2
    simp at e0 e1 e2
    subst e0 e1 e2
    have hw3 : ∀ n ∈ y3.1.weights Tryd.prog 22, n ≤ reachBytes := fun m hm => hw m (by
      rw [hx]
      simp only [DataW.weights, Tryd.underlying35]
      exact DataW.weights_mem_each (j := 3) (t := 22) (d := y3.1) rfl rfl m hm)
    have hw4 : ∀ n ∈ y4.1.weights Tryd.prog 33, n ≤ reachBytes := fun m hm => hw m (by
      rw [hx]
      simp only [DataW.weights, Tryd.underlying35]
      exact DataW.weights_mem_each (j := 4) (t := 33) (d := y4.1) rfl rfl m hm)
    obtain ⟨ct, ht, htl⟩ := runes_of_trod a3 hw3
    obtain ⟨xs4, n4, _, hx4, hl4, hxl4, hall4⟩ := DataW.trod_struct Tryd.underlying33 a4
    have b0 := hall4 0 _ rfl
    have b1 := hall4 1 _ rfl
    have b2 := hall4 2 _ rfl
    clear hall4
    simp only [List.getElem_toArray, List.getElem_cons_zero, List.getElem_cons_succ] at b0 b1 b2
    rw [c1] at b0
    rw [c3] at b1 b2
    match xs4, hxl4 with
    | [r0, r1, r2], _ =>
      simp at b0 b1 b2
      obtain ⟨z4, e4, f4, w4⟩ := DataW.trod_int Tryd.underlying3 b0
      simp at e4
      subst e4
      have hw5 : ∀ n ∈ r1.1.weights Tryd.prog 22, n ≤ reachBytes := fun m hm => hw4 m (by
        rw [hx4]
        simp only [DataW.weights, Tryd.underlying33]
        exact DataW.weights_mem_each (j := 1) (t := 22) (d := r1.1) rfl rfl m hm)
      have hw6 : ∀ n ∈ r2.1.weights Tryd.prog 22, n ≤ reachBytes := fun m hm => hw4 m (by
        rw [hx4]
        simp only [DataW.weights, Tryd.underlying33]
        exact DataW.weights_mem_each (j := 2) (t := 22) (d := r2.1) rfl rfl m hm)
      obtain ⟨cd, hd, hdl⟩ := runes_of_trod b1 hw5
      obtain ⟨ci, hi, hil⟩ := runes_of_trod b2 hw6
      exact ⟨⟨z0, z1, z2, u3, z4, u5, u6, ct, cd, ci⟩, rfl, ht, hd, hi, htl, hdl, hil, bounds_i64 w1, bounds_i64 w2, bounds_i64 w4⟩
set_option maxRecDepth 1000000 in
theorem opB_of_arg {H : Type} {enc : TypeId × Value → H} {W : World} {base : Nat} {v : Value} {d : DataW H} {p : List MemPlace} (hval : Value.okWide Tryd.prog W .any base 35 v) (h : DataW.Trod enc Tryd.prog W 0 (fun _ => true) true 35 v d p)
    (hw : ∀ n ∈ d.weights Tryd.prog 35, n ≤ reachBytes) : ∃ o : OpB, v = o.val ∧ OpOk W o := by
  obtain ⟨cs, rfl, hsz⟩ := okWide_struct Tryd.underlying35 hval
  obtain ⟨fuel, hf⟩ := h
  obtain ⟨o, hc, h1⟩ := opB_cells (x := (d, p)) hf hw
  refine ⟨o, ?_, h1⟩
  have : cs.toList = o.cells := by simpa [Value.cells] using hc
  show Value.agg cs = .agg o.cells.toArray
  rw [← this]
end Go.Proofs.YtepbhmebidmnbaaDoor
