/-
  A world that holds the tables, for the witnesses of the rows; and how an argument that is a slice of bytes or of runes is opened.
-/
import Derived.Test.YtjoiagaadofndaaDoorTabs
import Derived.Test.YtjoiagaadofndaaDoorCards
import Derived.Test.YtjoiagaadofndaaDoorTie
import Derived.ProofKit
import Derived.OpenShut
import Derived.ShutString
import Derived.ChangeOld
import Derived.Deep.DeepHandedRow
namespace Go.Proofs.YtjoiagaadofndaaDoor
open Go.ChangeShapes Go.WideShapes Go.ChangeAt Go.RowKit

theorem own : ownKnob Tryd.prog.godebug = none := by kernel_rfl
theorem laidOut : laidOutB Tryd.prog = true := by kernel_rfl

/-- the same object with other cells -/
def withCells (cs : Array Value) : Obj → Obj
  | .cells _ t frozen => .cells cs t frozen
  | o => o
def firstCells : Array Value := (Lib.firstTab.map (Value.int .u8)).toArray
def acceptCells : Array Value := ((List.range 16).flatMap fun i => [Value.int .u8 (Lib.accLo i), Value.int .u8 (Lib.accHi i)]).toArray

/-- the settled world, the tables holding what their initialisers lay -/
noncomputable def laidWorld (os : Os) : World :=
  { World.holding Tryd.prog os ⟨#[], #[], []⟩ with
    heap := ((World.holding Tryd.prog os ⟨#[], #[], []⟩).heap.modify 0 (withCells firstCells)).modify 1 (withCells acceptCells) }

/-- a slice of integers that came in: nil, or it leads to the cells of its numbers -/
theorem holds_of_slice {H : Type} {enc : TypeId × Value → H} {W : World} {t e : TypeId} {k : IntKind} {a : Option Addr} {len cap : Nat} {d : DataW H} {p : List MemPlace} (ht : Tryd.prog.underlying t = some (.slice e)) (he : Tryd.prog.underlying e = some (.int k)) (hc : Tryd.prog.cellsOf e = 1)
    (h : DataW.Trod enc Tryd.prog W 0 (fun _ => true) true t (.slice a len cap) d p) :
    ∃ zs sp : List Int, zs.length = len ∧ len ≤ maxLen ∧ (∀ z ∈ zs, (Lit.int k z).wf = true) ∧ Holds1 W (.slice a len cap) (zs.map (Value.int k)) ∧ (d = .nil ∧ zs = [] ∨ d = .slice (zs.map fun z => .lit (.int k z)) (sp.map fun z => .lit (.int k z))) := by
  obtain ⟨fuel, hf⟩ := h
  rcases open_ints ht he hc hf with ⟨hcs, hx⟩ | ⟨x, l, c, zs, hcs, _, hl, hm, hz, hx, hcell, hwz⟩
  · simp [Value.cells] at hcs
    obtain ⟨rfl, rfl, rfl⟩ := hcs
    injection hx with hx1 hx2
    exact ⟨[], [], rfl, Nat.zero_le _, by simp, ⟨none, 0, rfl, ⟨by simp, fun _ => rfl⟩, fun h => by simp at h⟩, .inl ⟨hx1, rfl⟩⟩
  · simp [Value.cells] at hcs
    obtain ⟨rfl, rfl, rfl⟩ := hcs
    have hzl : zs.length = cap := by simpa using hz
    have htl : (zs.take len).length = len := by rw [List.length_take]; omega
    injection hx with hx1 hx2
    refine ⟨zs.take len, zs.drop len, htl, Nat.le_trans hl hm, fun z hz => hwz z (List.mem_of_mem_take hz), ⟨some x, cap, by rw [List.length_map, htl], ⟨by rw [List.length_map, htl]; exact hl, fun h => by cases h⟩, fun hp => ?_⟩, .inr hx1⟩
    rw [List.length_map, htl] at hp
    obtain ⟨b, off, rfl, hat⟩ := ints_at hcell (by omega)
    refine ⟨b, off, rfl, block_lt_of_cell (hat 0 (by omega)), fun j u hu => ?_⟩
    have hj : j < len := by
      have := (List.getElem?_eq_some_iff.1 hu).1
      rwa [List.length_map, htl] at this
    rw [hat j (by omega), ← hu]
    have hjz : j < zs.length := by omega
    simp [hj, hjz]

/-- numbers that fit a byte are bytes -/
theorem bytes_of_ints {zs : List Int} (h : ∀ z ∈ zs, (Lit.int .u8 z).wf = true) : ∃ s : List UInt8, s.length = zs.length ∧ zs.map (Value.int .u8) = byteVals s := by
  induction zs with
  | nil => exact ⟨[], rfl, rfl⟩
  | cons z zs ih =>
    obtain ⟨s, hl, hs⟩ := ih fun y hy => h y (List.mem_cons_of_mem _ hy)
    have hz := bounds_u8 (h z List.mem_cons_self)
    refine ⟨UInt8.ofNat z.toNat :: s, by simp [hl], ?_⟩
    have e : ((UInt8.ofNat z.toNat).toNat : Int) = z := by
      rw [UInt8.toNat_ofNat']
      omega
    simp only [List.map_cons, hs, byteVals, e]

/-- what the second form's condition gives -/
theorem bulk_of {H : Type} {l : List (DataW H)} (h : Rows.uptoSmall H l = true) : Rows.uptoBulkAll l ≤ 1048576 := of_decide_eq_true h
theorem bulk_len {H : Type} (l : List (DataW H)) : l.length ≤ Rows.uptoBulkAll l := by
  induction l with
  | nil => exact Nat.zero_le _
  | cons d l ih =>
    have h1 : 1 ≤ Rows.uptoBulk d := by
      cases d with
      | lit x => cases x <;> simp [Rows.uptoBulk]
      | nil => simp [Rows.uptoBulk]
      | ptr d => simp [Rows.uptoBulk]
      | slice e s => simp [Rows.uptoBulk]
      | agg p => simp [Rows.uptoBulk]
      | iface t d => simp [Rows.uptoBulk]
      | map m => simp [Rows.uptoBulk]
      | held x => simp [Rows.uptoBulk]
    simp only [Rows.uptoBulkAll, List.length_cons]
    omega
theorem bulk_slice {H : Type} {d : DataW H} {k : IntKind} {zs sp : List Int} (h : d = .nil ∧ zs = [] ∨ d = .slice (zs.map fun z => .lit (.int k z)) (sp.map fun z => .lit (.int k z))) : zs.length ≤ Rows.uptoBulk d := by
  rcases h with ⟨_, rfl⟩ | rfl
  · exact Nat.zero_le _
  · have := bulk_len (zs.map fun z => (DataW.lit (.int k z) : DataW H))
    rw [List.length_map] at this
    simp only [Rows.uptoBulk]
    omega

end Go.Proofs.YtjoiagaadofndaaDoor
