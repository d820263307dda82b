/-
  How an argument that is an operation of a script, or a list of them, is opened.
-/
import Derived.Test.YthpkfgjjaieikaaGreatDoorFsWit
import Derived.ChangeMaps5
import Derived.Deep.Slices
namespace Go.Proofs.YthpkfgjjaieikaaGreatDoor
open Go.ChangeShapes Go.WideShapes Go.ChangeAt Go.RowKit Go.ChangeMaps Go.Deep

/-- an operation's cells -/
def opCells (x0 : Int) (s1 s2 : ByteArray) (B : Value) (x4 x5 x6 : Int) : List Value := [.int .i64 x0, .string s1, .string s2, B, .int .i64 x4, .int .i64 x5, .int .i64 x6]
set_option maxRecDepth 1000000 in
theorem op_cells {H : Type} {enc : TypeId × Value → H} {W : World} {fuel : Nat} {cs : List Value} {x : DataW H × List MemPlace} (h : DataW.trod enc Tryz.prog W 0 (fun _ => true) true fuel 32 cs = some x) :
    ∃ (x0 x4 x5 x6 : Int) (s1 s2 : ByteArray) (B : Value) (n : Nat) (y : DataW H × List MemPlace), cs = opCells x0 s1 s2 B x4 x5 x6 ∧ s1.size ≤ maxLen ∧ s2.size ≤ maxLen ∧
      ((Lit.int .i64 x4).wf = true ∧ (Lit.int .i64 x5).wf = true ∧ (Lit.int .i64 x6).wf = true) ∧
      DataW.trod enc Tryz.prog W 0 (fun _ => true) true n 30 [B] = some y ∧
      x = (.agg [.lit (.int .i64 x0), .lit (.string s1.data.toList), .lit (.string s2.data.toList), y.1, .lit (.int .i64 x4), .lit (.int .i64 x5), .lit (.int .i64 x6)], y.2) := by
  obtain ⟨xs, n, _, hx, hl, hxl, hall⟩ := DataW.trod_struct Tryz.underlying32 h
  have c1 : Tryz.prog.cellsOf 3 = 1 := by kernel_rfl
  have c2 : Tryz.prog.cellsOf 9 = 1 := by kernel_rfl
  have c3 : Tryz.prog.cellsOf 30 = 1 := by kernel_rfl
  have c7 : Tryz.prog.cellsOf 32 = 7 := by kernel_rfl
  rw [c7] at hl
  have a0 := hall 0 _ rfl
  have a1 := hall 1 _ rfl
  have a2 := hall 2 _ rfl
  have a3 := hall 3 _ rfl
  have a4 := hall 4 _ rfl
  have a5 := hall 5 _ rfl
  have a6 := hall 6 _ rfl
  clear hall
  simp only [List.getElem_toArray, List.getElem_cons_zero, List.getElem_cons_succ] at a0 a1 a2 a3 a4 a5 a6
  rw [c1] at a0 a4 a5 a6
  rw [c2] at a1 a2
  rw [c3] at a3
  match cs, hl, xs, hxl with
  | [u0, u1, u2, u3, u4, u5, u6], _, [y0, y1, y2, y3, y4, y5, y6], _ =>
    simp at a0 a1 a2 a3 a4 a5 a6
    obtain ⟨z0, e0, f0, w0⟩ := DataW.trod_int Tryz.underlying3 a0
    obtain ⟨z1, e1, f1, w1⟩ := DataW.trod_string Tryz.underlying9 a1
    obtain ⟨z2, e2, f2, w2⟩ := DataW.trod_string Tryz.underlying9 a2
    obtain ⟨z4, e4, f4, w4⟩ := DataW.trod_int Tryz.underlying3 a4
    obtain ⟨z5, e5, f5, w5⟩ := DataW.trod_int Tryz.underlying3 a5
    obtain ⟨z6, e6, f6, w6⟩ := DataW.trod_int Tryz.underlying3 a6
    simp at e0 e1 e2 e4 e5 e6
    subst e0 e1 e2 e4 e5 e6 f0 f1 f2 f4 f5 f6
    refine ⟨z0, z4, z5, z6, z1, z2, u3, n, y3, rfl, w1, w2, ⟨w4, w5, w6⟩, a3, ?_⟩
    rw [hx]
    simp

set_option maxRecDepth 1000000 in
theorem open_op {H : Type} {enc : TypeId × Value → H} {W : World} {base : Nat} {v : Value} {d : DataW H} {p : List MemPlace} (hval : Value.okWide Tryz.prog W .any base 32 v) (h : DataW.Trod enc Tryz.prog W 0 (fun _ => true) true 32 v d p) :
    ∃ (x0 x4 x5 x6 : Int) (s1 s2 : ByteArray) (B : Value) (n : Nat) (y : DataW H × List MemPlace), v = .agg (opCells x0 s1 s2 B x4 x5 x6).toArray ∧ s1.size ≤ maxLen ∧ s2.size ≤ maxLen ∧
      ((Lit.int .i64 x4).wf = true ∧ (Lit.int .i64 x5).wf = true ∧ (Lit.int .i64 x6).wf = true) ∧
      DataW.trod enc Tryz.prog W 0 (fun _ => true) true n 30 [B] = some y ∧
      d = .agg [.lit (.int .i64 x0), .lit (.string s1.data.toList), .lit (.string s2.data.toList), y.1, .lit (.int .i64 x4), .lit (.int .i64 x5), .lit (.int .i64 x6)] ∧ p = y.2 := by
  obtain ⟨cs, rfl, hsz⟩ := okWide_struct Tryz.underlying32 hval
  obtain ⟨fuel, hf⟩ := h
  obtain ⟨x0, x4, x5, x6, s1, s2, B, n, y, hc, h1, h2, h3, h4, h5⟩ := op_cells hf
  injection h5 with h5 h6
  refine ⟨x0, x4, x5, x6, s1, s2, B, n, y, ?_, h1, h2, h3, h4, h5, h6⟩
  have : cs.toList = opCells x0 s1 s2 B x4 x5 x6 := by simpa [Value.cells] using hc
  rw [← this]

end Go.Proofs.YthpkfgjjaieikaaGreatDoor
