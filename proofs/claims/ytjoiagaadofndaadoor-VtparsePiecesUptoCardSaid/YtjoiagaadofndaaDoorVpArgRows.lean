/-
  An argument that is a slice of slices of bytes.
-/
import Derived.Test.YtjoiagaadofndaaDoorVpStr
import Derived.Test.YtjoiagaadofndaaDoorWit
import Derived.Deep.Matrix
namespace Go.Proofs.YtjoiagaadofndaaDoor
open Go.ChangeShapes Go.WideShapes Go.ChangeAt Go.RowKit

/-- numbers as bytes -/
def toB (zs : List Int) : List UInt8 := zs.map fun z => UInt8.ofNat z.toNat
theorem toB_vals {zs : List Int} (h : ∀ z ∈ zs, (Lit.int .u8 z).wf = true) : byteVals (toB zs) = zs.map (Value.int .u8) := by
  induction zs with
  | nil => rfl
  | cons z zs ih =>
    have hz := bounds_u8 (h z List.mem_cons_self)
    have e : ((UInt8.ofNat z.toNat).toNat : Int) = z := by
      rw [UInt8.toNat_ofNat']
      omega
    have := ih fun y hy => h y (List.mem_cons_of_mem _ hy)
    simp only [toB, byteVals, List.map_cons, List.map_map, e] at this ⊢
    rw [this]
theorem bulk_map {H : Type} (f : Nat → DataW H) (g : Nat → List UInt8) : ∀ l : List Nat, (∀ r ∈ l, (g r).length + 1 ≤ Rows.uptoBulk (f r)) → (l.map g).flatten.length + l.length ≤ Rows.uptoBulkAll (l.map f) := by
  intro l
  induction l with
  | nil => intro _; exact Nat.le_refl _
  | cons r l ih =>
    intro h
    have h1 := h r List.mem_cons_self
    have h2 := ih fun x hx => h x (List.mem_cons_of_mem _ hx)
    simp only [List.map_cons, List.flatten_cons, List.length_append, List.length_cons, Rows.uptoBulkAll] at h2 ⊢
    omega

/-- an argument that is a slice of slices of bytes -/
theorem rows_of_slice {H : Type} {enc : TypeId × Value → H} {W : World} {a : Option Addr} {len cap : Nat} {d : DataW H} {p : List MemPlace}
    (h : DataW.Trod enc Tryd.prog W 0 (fun _ => true) true 28 (.slice a len cap) d p) :
    ∃ ps : List (List UInt8), ps.length = len ∧ HoldsRows W (.slice a len cap) ps ∧ ps.flatten.length + ps.length ≤ Rows.uptoBulk d := by
  obtain ⟨fuel, hf⟩ := h
  rcases Go.Deep.open_int_rows Tryd.underlying28 Tryd.underlying22 Tryd.underlying5 (by kernel_rfl) (by kernel_rfl) hf with ⟨hcs, hx⟩ | ⟨x, l, c, A, L, C, Z, hcs, _, hl, hm, hx, hrow⟩
  · simp [Value.cells] at hcs
    obtain ⟨rfl, rfl, rfl⟩ := hcs
    exact ⟨[], rfl, ⟨none, 0, rfl, fun h => by simp at h⟩, by simp⟩
  · simp [Value.cells] at hcs
    obtain ⟨rfl, rfl, rfl⟩ := hcs
    injection hx with hx1 _
    have hL : ∀ r, r < len → (toB ((Z r).take (L r))).length = L r := fun r hr => by
      obtain ⟨_, h1, _, h2, _⟩ := hrow r (by omega)
      simp [toB]
      omega
    refine ⟨(List.range len).map fun r => toB ((Z r).take (L r)), by simp, ⟨some x, cap, by simp, fun hp => ?_⟩, ?_⟩
    · have hp' : 0 < len := by simpa using hp
      obtain ⟨hc0, _⟩ := hrow 0 (by omega)
      obtain ⟨b, off, spot⟩ := x
      have hspot : spot = none := by simpa [Addr.add] using World.cell?_spot hc0
      subst hspot
      have hadd : ∀ k, (⟨b, off, none⟩ : Addr).add k = ⟨b, off + k, none⟩ := fun k => by
        unfold Addr.add
        split
        · next e => subst e; rfl
        · rfl
      refine ⟨b, off, rfl, block_lt_of_cell (by rw [hadd] at hc0; exact hc0), fun k hk => ?_⟩
      have hk' : k < len := by simpa using hk
      obtain ⟨hc, h1, h2, h3, h4, h5, h6⟩ := hrow k (by omega)
      have hkk : ((List.range len).map fun r => toB ((Z r).take (L r)))[k] = toB ((Z k).take (L k)) := by simp
      rw [hkk, hL k hk']
      refine ⟨A k, C k, by rw [← hadd]; exact hc, ?_⟩
      have hvals : byteVals (toB ((Z k).take (L k))) = ((Z k).take (L k)).map (Value.int .u8) := toB_vals fun z hz => h4 z (List.mem_of_mem_take hz)
      have hlen : (byteVals (toB ((Z k).take (L k)))).length = L k := by rw [byteVals, List.length_map]; exact hL k hk'
      refine ⟨A k, C k, by rw [hlen], ⟨by rw [hlen]; exact h1, h5⟩, fun hp => ?_⟩
      rw [hlen] at hp
      cases hA : A k with
      | none => have := h5 hA; omega
      | some a' =>
        obtain ⟨_, hcells⟩ := h6 a' hA
        obtain ⟨b', off', rfl, hat⟩ := ints_at (zs := Z k) (a := a') (k := .u8) (w := W) (fun i hi => hcells i (by omega)) (by omega)
        refine ⟨b', off', rfl, block_lt_of_cell (hat 0 (by omega)), fun j u hu => ?_⟩
        have hj : j < L k := by
          have := (List.getElem?_eq_some_iff.1 hu).1
          rwa [hlen] at this
        rw [hat j (by omega), ← hu, hvals]
        have hjz : j < (Z k).length := by omega
        simp [hj, hjz]
    · subst hx1
      have := bulk_map (fun r => Go.Deep.intRow (H := H) .u8 (A r) (L r) (Z r)) (fun r => toB ((Z r).take (L r))) (List.range len) (fun r hr => by
        have hr' : r < len := List.mem_range.1 hr
        rw [hL r hr']
        obtain ⟨_, h1, _, h3, _, h5, _⟩ := hrow r (by omega)
        cases hA : A r with
        | none =>
          have := h5 hA
          simp [Go.Deep.intRow, Rows.uptoBulk]
          omega
        | some a' =>
          simp only [Go.Deep.intRow, Rows.uptoBulk]
          have hb := bulk_len (lits (H := H) .u8 ((Z r).take (L r)))
          have hl2 : (lits (H := H) .u8 ((Z r).take (L r))).length = L r := by simp [lits]; omega
          omega)
      rw [List.length_map, List.length_range]
      rw [List.length_range] at this
      simp only [Rows.uptoBulk]
      omega
end Go.Proofs.YtjoiagaadofndaaDoor
