/-
  What utf8.FullRune returns for every slice of bytes, in one statement.
-/
import Derived.Test.YtjoiagaadofndaaDoorFull
namespace Go.Proofs.YtjoiagaadofndaaDoor
open Go.RowKit Go.Lib

theorem full_any (s : List UInt8) (A : Option Addr) (c : Nat) (w : World) (hT : Tabs w) (hv : Holds1 w (.slice A s.length c) (byteVals s)) :
    Calls Tryd.prog 65 #[.slice A s.length c] w fun e w' => e = .returned (.bool (fullP s)) ∧ Below w.heap.size w w' := by
  by_cases h0 : s.length = 0
  · have e : fullP s = false := by simp [fullP, h0]
    rw [e, h0]
    exact full_empty A c w
  · obtain ⟨A', c', e, hc, h⟩ := hv
    injection e with e1 e2 e3
    subst e1 e3
    obtain ⟨b, off, rfl, hlt, hcell⟩ := h (by simp [byteVals]; omega)
    have hat : ∀ j, j < s.length → w.cell? ⟨b, off + j, none⟩ = some (.int .u8 (byteAt s j)) := fun j hj => hcell j _ (by simp [byteVals, byteAt, hj])
    clear h hcell
    have hl := byteAt_lt s 0
    have hs0 : w.cell? ⟨b, off, none⟩ = some (.int .u8 (byteAt s 0)) := hat 0 (by omega)
    have hz := hT.size
    have hacc := hT.u.2
    have e : fullP s = fullN s.length (byteAt s 0) (byteAt s 1) (byteAt s 2) := by
      have : 0 < s.length := by omega
      simp [fullP, this]
    rw [e]
    have htwo : ∀ x, firstT (byteAt s 0) = x → (x = 2 ∨ x = 19 ∨ x = 3 ∨ x = 35 ∨ x = 52 ∨ x = 4 ∨ x = 68) →
        Calls Tryd.prog 65 #[.slice (some ⟨b, off, none⟩) s.length c] w fun e w' => e = .returned (.bool (fullN s.length (byteAt s 0) (byteAt s 1) (byteAt s 2))) ∧ Below w.heap.size w w' := fun x hX hx => by
      have ha := hacc (x / 16) (by omega)
      have hc0 := hT.u.1 (byteAt s 0) hl
      rw [hX] at hc0
      have := full_two s.length b off c (byteAt s 0) (byteAt s 1) (byteAt s 2) x (accLo (x / 16)) (accHi (x / 16)) w hs0 (fun h => hat 1 (by omega)) (fun h => hat 2 (by omega)) hlt hl (by omega) hc0 hx
        (by rw [Nat.mul_comm]; exact ha.1) (by rw [Nat.mul_comm]; exact ha.2) (by omega)
      unfold fullN
      rw [hX]
      exact this
    have hone : (firstT (byteAt s 0) = 240 ∨ firstT (byteAt s 0) = 241) →
        Calls Tryd.prog 65 #[.slice (some ⟨b, off, none⟩) s.length c] w fun e w' => e = .returned (.bool (fullN s.length (byteAt s 0) (byteAt s 1) (byteAt s 2))) ∧ Below w.heap.size w w' := fun hX => by
      have : fullN s.length (byteAt s 0) (byteAt s 1) (byteAt s 2) = true := by
        unfold fullN
        rcases hX with hX | hX
        · rw [hX]; simp
        · have h1 : 1 ≤ s.length := by omega
          rw [hX]; simp [h1]
      rw [this]
      exact full_one s.length b off c (byteAt s 0) w (by omega) hs0 hl hT hX
    rcases firstT_cases (byteAt s 0) with hX | hX | hX | hX | hX | hX | hX | hX | hX
    · exact hone (.inl hX)
    · exact hone (.inr hX)
    all_goals exact htwo _ hX (by decide)

end Go.Proofs.YtjoiagaadofndaaDoor
