/-
  A world for the witnesses of the rows; and how an argument that is a slice of bytes or of runes is opened.
-/
import Derived.Test.YtojhppcnpjajaaaHlRep
import Derived.Test.YtojhppcnpjajaaaRows
import Derived.ProofKit
import Derived.OpenShut
import Derived.ShutString
import Derived.ChangeOld
import Derived.Deep.DeepHandedRow
namespace Go.Proofs.Ytojhppcnpjajaaa
open Go.ChangeShapes Go.WideShapes Go.ChangeAt Go.RowKit

theorem own : ownKnob Try.prog.godebug = none := by kernel_rfl
theorem laidOut : laidOutB Try.prog = true := by kernel_rfl

/-- the settled world -/
noncomputable def laidWorld (os : Os) : World := World.holding Try.prog os ⟨#[], #[], []⟩

/-- a slice of integers that came in: nil, or it leads to the cells of its numbers -/
theorem holds_of_slice {H : Type} {enc : TypeId × Value → H} {W : World} {t e : TypeId} {k : IntKind} {a : Option Addr} {len cap : Nat} {d : DataW H} {p : List MemPlace} (ht : Try.prog.underlying t = some (.slice e)) (he : Try.prog.underlying e = some (.int k)) (hc : Try.prog.cellsOf e = 1)
    (h : DataW.Trod enc Try.prog W 0 (fun _ => true) true t (.slice a len cap) d p) :
    ∃ zs sp : List Int, zs.length = len ∧ len ≤ maxLen ∧ (∀ z ∈ zs, (Lit.int k z).wf = true) ∧ Holds1 W (.slice a len cap) (zs.map (Value.int k)) ∧ (d = .nil ∧ zs = [] ∨ d = .slice (zs.map fun z => .lit (.int k z)) (sp.map fun z => .lit (.int k z))) := by
  obtain ⟨fuel, hf⟩ := h
  rcases open_ints ht he hc hf with ⟨hcs, hx⟩ | ⟨x, l, c, zs, hcs, _, hl, hm, hz, hx, hcell, hwz⟩
  · simp [Value.cells] at hcs
    obtain ⟨rfl, rfl, rfl⟩ := hcs
    injection hx with hx1 hx2
    exact ⟨[], [], rfl, Nat.zero_le _, by simp, ⟨none, 0, rfl, ⟨by simp, fun _ => rfl⟩, fun h => by simp at h⟩, .inl ⟨hx1, rfl⟩⟩
  · simp [Value.cells] at hcs
    obtain ⟨rfl, rfl, rfl⟩ := hcs
    have hzl : zs.length = cap := by simpa using hz
    have htl : (zs.take len).length = len := by rw [List.length_take]; omega
    injection hx with hx1 hx2
    refine ⟨zs.take len, zs.drop len, htl, Nat.le_trans hl hm, fun z hz => hwz z (List.mem_of_mem_take hz), ⟨some x, cap, by rw [List.length_map, htl], ⟨by rw [List.length_map, htl]; exact hl, fun h => by cases h⟩, fun hp => ?_⟩, .inr hx1⟩
    rw [List.length_map, htl] at hp
    obtain ⟨b, off, rfl, hat⟩ := ints_at hcell (by omega)
    refine ⟨b, off, rfl, block_lt_of_cell (hat 0 (by omega)), fun j u hu => ?_⟩
    have hj : j < len := by
      have := (List.getElem?_eq_some_iff.1 hu).1
      rwa [List.length_map, htl] at this
    rw [hat j (by omega), ← hu]
    have hjz : j < zs.length := by omega
    simp [hj, hjz]


end Go.Proofs.Ytojhppcnpjajaaa
