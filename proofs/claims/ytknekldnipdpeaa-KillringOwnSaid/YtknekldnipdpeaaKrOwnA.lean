/-
  What is handed in is left as it is and not kept: the law at any arguments.
-/
import Derived.Test.YtknekldnipdpeaaKrOwnW
namespace Go.Proofs.Ytknekldnipdpeaa
open Go.ChangeShapes Go.WideShapes Go.ChangeAt Go.RowKit Go.ChangeMaps Go.Deep

set_option maxRecDepth 1000000 in
theorem len24_of_arg {H : Type} {enc : TypeId × Value → H} {W : World} {a : Option Addr} {len cap : Nat} {d : DataW H} {p : List MemPlace} (h : DataW.Trod enc Try.prog W 0 (fun _ => true) true 26 (.slice a len cap) d p)
    (hw : ∀ n ∈ d.weights Try.prog 26, n ≤ reachBytes) : len * 24 ≤ 140737488355328 := by
  have c7 : Try.prog.cellsOf 30 = 1 := by kernel_rfl
  have hby : Try.prog.bytesOf 30 = 24 := by kernel_rfl
  obtain ⟨fuel, hf⟩ := h
  rcases open_slice Try.underlying26 hf with ⟨hcs, hx⟩ | ⟨x, l, c, m, n, D, Pl, hcs, _, hl, _, hm, hx, hall⟩
  · simp [Value.cells] at hcs
    obtain ⟨rfl, rfl, rfl⟩ := hcs
    simp
  · simp [Value.cells] at hcs
    obtain ⟨rfl, e2, e3⟩ := hcs
    subst e2 e3
    simp only [if_true] at hm
    subst hm
    injection hx with hx _
    rw [hx] at hw
    have hlen := hw ((((List.range len).map D).length + ((List.range (m - len)).map fun j => D (len + j)).length) * Try.prog.bytesOf 30) (by simp [DataW.weights, Try.underlying26])
    rw [hby] at hlen
    simp only [List.length_map, List.length_range, reachBytes] at hlen
    omega
theorem own_any (w : World) (ls : List (List Int)) (A : Option Addr) (n c : Nat) (h : Mat w (.slice A n c) ls) (h24 : n * 24 ≤ 140737488355328) (f : List Int) (A0 : Option Addr) (n0 c0 : Nat) (hf : Holds1 w (.slice A0 n0 c0) (runeVals f)) (hfl : f.length ≤ 35184372087808) : Calls Try.prog 7 #[.slice A n c, .slice A0 n0 c0] w fun e w' => e = .returned (.bool true) ∧ Below w.heap.size w w' := by
  by_cases hok : fromOk ls
  · exact own_main w ls A n c h h24 f A0 n0 c0 hf hfl hok
  · exact own_short w ls A n c h h24 f A0 n0 c0 hf hfl hok
theorem mat24_of_arg {H : Type} {enc : TypeId × Value → H} {W : World} {a : Option Addr} {len cap : Nat} {d : DataW H} {p : List MemPlace} (h : DataW.Trod enc Try.prog W 0 (fun _ => true) true 26 (.slice a len cap) d p)
    (hw : ∀ n ∈ d.weights Try.prog 26, n ≤ reachBytes) : ∃ ls : List (List Int), Mat W (.slice a len cap) ls ∧ len * 24 ≤ 140737488355328 := by
  obtain ⟨ls, hm⟩ := mat_of_arg h hw
  exact ⟨ls, hm, len24_of_arg h hw⟩
end Go.Proofs.Ytknekldnipdpeaa
