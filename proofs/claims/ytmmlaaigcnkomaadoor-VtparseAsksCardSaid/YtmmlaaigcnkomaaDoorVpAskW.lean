/-
  The document's Param answers what the program's does.
-/
import Derived.Test.YtmmlaaigcnkomaaDoorVpLive
namespace Go.Proofs.YtmmlaaigcnkomaaDoor
open Go.RowKit Go.Shelf Go.Lib
attribute [local go_sem] Oper.semAt_some

set_option maxRecDepth 1000000 in
set_option maxHeartbeats 2000000 in
theorem refParam_any (w : World) (a : ActD) (pv : Value) (i other : Int) (hp : Holds1 w pv (intVals a.ps)) (hb : -9223372036854775808 ≤ i ∧ i ≤ 9223372036854775807) : Calls Tryd.prog 27 #[actVal a pv, .int .i64 i, .int .i64 other] w fun e w' => e = .returned (.int .i64 (paramP a.ps i other)) ∧ Below w.heap.size w w' := by
  obtain ⟨A, c, hv, _, hc⟩ := hp
  rw [intVals_length] at hv hc
  subst hv
  by_cases h0 : i < 0
  · have HE : Hid (paramP a.ps i other = other) := Lib.hid (by unfold paramP; rw [if_pos (.inl h0)])
    have i0 : (i < 0) = True := by simp; exact h0
    clear h0 hc hb
    go_enter Tryd.func27, Tryd.ntmps27
    go_wp2
    go_ret
    exact ⟨by rw [HE.out]; rfl, (Below.refl _ _).alloc (Nat.le_refl _) _⟩
  have i0 : (i < 0) = False := by simp; omega
  by_cases h1 : (a.ps.length : Int) ≤ i
  · have HE : Hid (paramP a.ps i other = other) := Lib.hid (by unfold paramP; rw [if_pos (.inr h1)])
    have i1 : ((a.ps.length : Int) ≤ i) = True := by simp; exact h1
    clear h0 h1 hc hb
    go_enter Tryd.func27, Tryd.ntmps27
    go_wp2
    go_ret
    exact ⟨by rw [HE.out]; rfl, (Below.refl _ _).alloc (Nat.le_refl _) _⟩
  have i1 : ((a.ps.length : Int) ≤ i) = False := by simp; omega
  obtain ⟨k, rfl⟩ : ∃ k : Nat, i = k := ⟨i.toNat, by omega⟩
  have hk : k < a.ps.length := by omega
  obtain ⟨b, off, rfl, hlt, hcell⟩ := hc (by omega)
  have hx : a.ps[k]? = some a.ps[k] := List.getElem?_eq_getElem hk
  have hl0 : w.cell? ⟨b, off + k, none⟩ = some (.int .i64 a.ps[k]) := hcell k _ (by simp [intVals, hx])
  have HE : Hid (paramP a.ps (k : Int) other = if a.ps[k] = -1 ∨ a.ps[k] = 0 then other else a.ps[k]) := Lib.hid (by
    unfold paramP
    rw [if_neg (by omega), show ((k : Int)).toNat = k by omega, List.getD_eq_getElem?_getD, hx]
    rfl)
  have j0 : (0 : Int) ≤ (k : Int) := by omega
  have j1 : ((k : Int) < (a.ps.length : Int)) = True := by simp; exact hk
  have hbl := hlt
  generalize a.ps[k] = x at *
  generalize a.ps.length = n at *
  clear hc hcell h0 h1 hk hx hb
  by_cases hx1 : x = -1
  · have HE2 : Hid (paramP a.ps (k : Int) other = other) := Lib.hid (by rw [HE.out, if_pos (.inl hx1)])
    subst hx1
    go_enter Tryd.func27, Tryd.ntmps27
    go_wp2
    go_ret
    exact ⟨by rw [HE2.out]; rfl, (Below.refl _ _).alloc (Nat.le_refl _) _⟩
  · by_cases hx0 : x = 0
    · have HE2 : Hid (paramP a.ps (k : Int) other = other) := Lib.hid (by rw [HE.out, if_pos (.inr hx0)])
      subst hx0
      go_enter Tryd.func27, Tryd.ntmps27
      go_wp2
      go_ret
      exact ⟨by rw [HE2.out]; rfl, (Below.refl _ _).alloc (Nat.le_refl _) _⟩
    · have HE2 : Hid (paramP a.ps (k : Int) other = x) := Lib.hid (by rw [HE.out, if_neg (fun q => q.elim hx1 hx0)])
      have n1 : (x == -1) = false := by simpa using hx1
      have n0 : (x == 0) = false := by simpa using hx0
      clear hx1 hx0
      go_enter Tryd.func27, Tryd.ntmps27
      go_wp2
      go_ret
      exact ⟨by rw [HE2.out]; rfl, (Below.refl _ _).alloc (Nat.le_refl _) _⟩
end Go.Proofs.YtmmlaaigcnkomaaDoor
