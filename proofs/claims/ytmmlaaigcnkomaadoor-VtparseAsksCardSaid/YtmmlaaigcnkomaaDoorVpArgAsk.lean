/-
  An argument that is what actions are asked: two slices of actions, two integers. No program is walked here.
-/
import Derived.Test.YtmmlaaigcnkomaaDoorVpArgRows
import Derived.Test.YtmmlaaigcnkomaaDoorVpSameG
import Derived.SizedLaws
import Derived.ChangeSlices
import Derived.Deep.Slices
import Derived.OpenShut
namespace Go.Proofs.YtmmlaaigcnkomaaDoor
open Go.ChangeShapes Go.WideShapes Go.ChangeAt Go.RowKit Go.Deep Go.Lib

section
variable {H : Type} {enc : TypeId × Value → H} {W : World}
theorem ints_of_trod {fuel : Nat} {v : Value} {x : DataW H × List MemPlace} (hf : DataW.trod enc Tryd.prog W 0 (fun _ => true) true fuel 37 [v] = some x) :
    ∃ l : List Int, Holds1 W v (intVals l) ∧ l.length ≤ 9223372036854775807 := by
  rcases open_ints Tryd.underlying37 Tryd.underlying3 (by kernel_rfl) hf with ⟨hcs, hx⟩ | ⟨a, l, c, zs, hcs, _, hl, hm, hz, hx, hcell, hwz⟩
  · injection hcs with hcs _
    subst hcs
    exact ⟨[], ⟨none, 0, rfl, ⟨Nat.le_refl _, fun _ => rfl⟩, fun h => absurd h (Nat.lt_irrefl _)⟩, by simp⟩
  · injection hcs with hcs _
    subst hcs
    have hzl : zs.length = c := by simpa using hz
    have htl : (zs.take l).length = l := by rw [List.length_take]; omega
    unfold maxLen at hm
    refine ⟨zs.take l, ⟨some a, c, by rw [intVals_length, htl], ⟨by rw [intVals_length, htl]; exact hl, fun h => by cases h⟩, fun hp => ?_⟩, by rw [htl]; omega⟩
    rw [intVals_length, htl] at hp
    obtain ⟨b, off, rfl, hat⟩ := ints_at hcell (by omega)
    refine ⟨b, off, rfl, block_lt_of_cell (hat 0 (by omega)), fun j u hu => ?_⟩
    have hj : j < l := by
      have := (List.getElem?_eq_some_iff.1 hu).1
      rw [intVals_length, htl] at this
      exact this
    rw [hat j (by omega), ← hu]
    have hjz : j < zs.length := by omega
    simp [intVals, hj, hjz]
def zCells (o : ActZ × Value) : List Value := [.int .i64 o.1.kind, .int .i32 o.1.rune, .int .u8 o.1.fin.toNat, .int .u8 o.1.priv.toNat, o.2, str o.1.inter, str o.1.text]
theorem u8_of {z : Int} (h : (Lit.int .u8 z).wf = true) : ∃ u : UInt8, z = (u.toNat : Int) := by
  have hz := bounds_u8 h
  exact ⟨UInt8.ofNat z.toNat, by rw [UInt8.toNat_ofNat']; omega⟩
set_option maxRecDepth 1000000 in
theorem act_cells {fuel : Nat} {cs : List Value} {x : DataW H × List MemPlace} (h : DataW.trod enc Tryd.prog W 0 (fun _ => true) true fuel 39 cs = some x) : ∃ o : ActZ × Value, cs = zCells o ∧ Holds1 W o.2 (intVals o.1.ps) ∧ o.1.ps.length ≤ 9223372036854775807 := by
  obtain ⟨xs, n, _, hx, hl, hxl, hall⟩ := DataW.trod_struct Tryd.underlying39 h
  have c1 : Tryd.prog.cellsOf 3 = 1 := by kernel_rfl
  have c2 : Tryd.prog.cellsOf 9 = 1 := by kernel_rfl
  have c3 : Tryd.prog.cellsOf 21 = 1 := by kernel_rfl
  have c4 : Tryd.prog.cellsOf 5 = 1 := by kernel_rfl
  have c5 : Tryd.prog.cellsOf 37 = 1 := by kernel_rfl
  have c7 : Tryd.prog.cellsOf 39 = 7 := by kernel_rfl
  rw [c7] at hl
  have a0 := hall 0 _ rfl
  have a1 := hall 1 _ rfl
  have a2 := hall 2 _ rfl
  have a3 := hall 3 _ rfl
  have a4 := hall 4 _ rfl
  have a5 := hall 5 _ rfl
  have a6 := hall 6 _ rfl
  clear hall
  simp only [List.getElem_toArray, List.getElem_cons_zero, List.getElem_cons_succ] at a0 a1 a2 a3 a4 a5 a6
  rw [c1] at a0
  rw [c3] at a1
  rw [c4] at a2 a3
  rw [c5] at a4
  rw [c2] at a5 a6
  match cs, hl, xs, hxl with
  | [u0, u1, u2, u3, u4, u5, u6], _, [y0, y1, y2, y3, y4, y5, y6], _ =>
    simp at a0 a1 a2 a3 a4 a5 a6
    obtain ⟨z0, e0, f0, w0⟩ := DataW.trod_int Tryd.underlying3 a0
    obtain ⟨z1, e1, f1, w1⟩ := DataW.trod_int Tryd.underlying21 a1
    obtain ⟨z2, e2, f2, w2⟩ := DataW.trod_int Tryd.underlying5 a2
    obtain ⟨z3, e3, f3, w3⟩ := DataW.trod_int Tryd.underlying5 a3
    obtain ⟨l4, h4, b4⟩ := ints_of_trod a4
    obtain ⟨z5, e5, f5, w5⟩ := DataW.trod_string Tryd.underlying9 a5
    obtain ⟨z6, e6, f6, w6⟩ := DataW.trod_string Tryd.underlying9 a6
    simp at e0 e1 e2 e3 e5 e6
    obtain ⟨p2, rfl⟩ := u8_of w2
    obtain ⟨p3, rfl⟩ := u8_of w3
    subst e0 e1 e2 e3 e5 e6
    exact ⟨(⟨z0, z1, p2, p3, l4, z5.data.toList, z6.data.toList⟩, u4), rfl, h4, b4⟩

set_option maxRecDepth 1000000 in
theorem acts_of_trod {fuel : Nat} {v : Value} {x : DataW H × List MemPlace} (hf : DataW.trod enc Tryd.prog W 0 (fun _ => true) true fuel 25 [v] = some x) : ∃ l, HoldsZ W v l := by
  have hc : Tryd.prog.cellsOf 39 = 7 := by kernel_rfl
  rcases open_slice Tryd.underlying25 hf with ⟨hcs, hx⟩ | ⟨x', l, c, m, n, D, Pl, hcs, _, hl, hm, _, hx, hall⟩
  · simp at hcs
    subst hcs
    exact ⟨[], none, 0, rfl, by simp, fun h => by simp at h⟩
  · simp at hcs
    subst hcs
    unfold maxLen at hm
    rw [hc] at hall
    have each' : ∀ i, ∃ o : ActZ × Value, i < l → ∃ cs', W.cells? 0 (x'.add (i * 7)) 7 = some cs' ∧ cs' = zCells o ∧ Holds1 W o.2 (intVals o.1.ps) ∧ o.1.ps.length ≤ 9223372036854775807 := fun i => by
      by_cases hi : i < l
      · obtain ⟨cs', h1, h2⟩ := hall i (by simp only [if_true] at *; omega)
        obtain ⟨o, ho, h3, h4⟩ := act_cells h2
        exact ⟨o, fun _ => ⟨cs', h1, ho, h3, h4⟩⟩
      · exact ⟨(⟨0, 0, 0, 0, [], [], []⟩, .bool false), fun h => absurd h hi⟩
    obtain ⟨f, hfun⟩ := Classical.axiomOfChoice each'
    have hln : ((List.range l).map fun i => (f i).1).length = l := by rw [List.length_map, List.length_range]
    refine ⟨(List.range l).map fun i => (f i).1, some x', c, by rw [hln], by rw [hln]; omega, fun hp => ?_⟩
    rw [hln] at hp
    obtain ⟨cs0, hc0, ho0, _⟩ := hfun 0 hp
    obtain ⟨_, _, hat0⟩ := World.cells?_some hc0
    have hfirst := hat0 0 (by omega)
    rw [ho0] at hfirst
    obtain ⟨b, off, spot⟩ := x'
    have hspot : spot = none := by simpa [Addr.add] using World.cell?_spot (hfirst.trans (show (zCells (f 0))[0]? = some (.int .i64 (f 0).1.kind) from rfl))
    subst hspot
    rw [Go.WideShapes.add_plain, Go.WideShapes.add_plain] at hfirst
    refine ⟨b, off, rfl, block_lt_of_cell (hfirst.trans (show (zCells (f 0))[0]? = some (.int .i64 (f 0).1.kind) from rfl)), fun i o ho => ?_⟩
    rw [List.getElem?_map] at ho
    obtain ⟨i', hi', rfl⟩ := Option.map_eq_some_iff.1 ho
    have hil : i < l := by have := (List.getElem?_eq_some_iff.1 hi').1; rwa [List.length_range] at this
    have hii : i' = i := by rw [List.getElem?_range hil] at hi'; exact (Option.some.inj hi').symm
    subst hii
    obtain ⟨cs', hc', ho', h3, h4⟩ := hfun i' hil
    obtain ⟨_, hcl, hat⟩ := World.cells?_some hc'
    have h7 : ∀ j, j < 7 → W.cell? ⟨b, off + i' * 7 + j, none⟩ = (zCells (f i'))[j]? := fun j hj => by
      have h7 := hat j hj
      rw [ho', Go.WideShapes.add_plain, Go.WideShapes.add_plain] at h7
      exact h7
    exact ⟨(f i').2, h3, h4, h7 0 (by omega), h7 1 (by omega), h7 2 (by omega), h7 3 (by omega), h7 4 (by omega), h7 5 (by omega), h7 6 (by omega)⟩
set_option maxRecDepth 1000000 in
/-- what actions are asked, that came in as an argument -/
theorem ask_of_arg {base : Nat} {v : Value} {d : DataW H} {p : List MemPlace} (hval : Value.okWide Tryd.prog W .any base 46 v) (h : DataW.Trod enc Tryd.prog W 0 (fun _ => true) true 46 v d p) :
    ∃ (al bl : List ActZ) (va vb : Value) (i o : Int), v = .agg #[va, vb, .int .i64 i, .int .i64 o] ∧ HoldsZ W va al ∧ HoldsZ W vb bl ∧ (-9223372036854775808 ≤ i ∧ i ≤ 9223372036854775807) := by
  obtain ⟨cs, rfl, hsz⟩ := okWide_struct Tryd.underlying46 hval
  obtain ⟨fuel, hf⟩ := h
  obtain ⟨xs, n, _, hx, hl, hxl, hall⟩ := DataW.trod_struct Tryd.underlying46 hf
  have c1 : Tryd.prog.cellsOf 3 = 1 := by kernel_rfl
  have c2 : Tryd.prog.cellsOf 25 = 1 := by kernel_rfl
  have c7 : Tryd.prog.cellsOf 46 = 4 := by kernel_rfl
  rw [c7] at hl
  have a0 := hall 0 _ rfl
  have a1 := hall 1 _ rfl
  have a2 := hall 2 _ rfl
  have a3 := hall 3 _ rfl
  clear hall
  simp only [List.getElem_toArray, List.getElem_cons_zero, List.getElem_cons_succ] at a0 a1 a2 a3
  rw [c2] at a0 a1
  rw [c1] at a2 a3
  obtain ⟨l⟩ := cs
  simp only [Value.cells] at hl a0 a1 a2 a3
  match l, hl, xs, hxl with
  | [u0, u1, u2, u3], _, [y0, y1, y2, y3], _ =>
    simp at a0 a1 a2 a3
    obtain ⟨l0, h0⟩ := acts_of_trod a0
    obtain ⟨l1, h1⟩ := acts_of_trod a1
    obtain ⟨z2, e2, f2, w2⟩ := DataW.trod_int Tryd.underlying3 a2
    obtain ⟨z3, e3, f3, w3⟩ := DataW.trod_int Tryd.underlying3 a3
    simp at e2 e3
    subst e2 e3
    exact ⟨l0, l1, u0, u1, z2, z3, rfl, h0, h1, bounds_i64 w2⟩
end
end Go.Proofs.YtmmlaaigcnkomaaDoor
