/-
  slices.Equal at two slices that hold the same runes: it returns true and changes nothing.
-/
import Derived.Test.YtalfodcjpnjmaaaDoorMem
import Derived.Deep.QuietTactic
import Derived.BigQuiet
namespace Go.Proofs.YtalfodcjpnjmaaaDoor
open Go.RowKit

set_option maxHeartbeats 400000 in
theorem equal_runes (l : List Int) (v v' : Value) (w : World) (hv : Holds1 w v (runeVals l)) (hv' : Holds1 w v' (runeVals l)) (hl : l.length ≤ 4611686018427387904) :
    Calls Tryd.prog 10 #[v, v'] w fun e w' => e = .returned (.bool true) ∧ ∃ n, w' = w.drewN n := by
  obtain ⟨A, c, hvv, hc, h⟩ := hv
  obtain ⟨A', c', hvv', hc', h'⟩ := hv'
  have e : (runeVals l).length = l.length := by simp [runeVals]
  rw [e] at hvv hvv' h h'
  subst hvv hvv'
  have H := Lib.hid h
  have H' := Lib.hid h'
  clear h h' e hc hc'
  go_enter Tryd.func10, Tryd.ntmps10
  go_wp2
  go_loopw [13] (fun i wr => ∃ k : Nat, k ≤ l.length ∧ i = .int .i64 k ∧ ∃ n, wr = w.drewN n) (fun i _ => l.length - (intOf i).toNat)
  case atStart => exact ⟨0, by omega, rfl, 0, rfl⟩
  case round =>
    obtain ⟨k, hk, rfl, n, rfl⟩ := hrel
    by_cases hlt : k < l.length
    · obtain ⟨b, off, rfl, _, hcell⟩ := H.out (by omega)
      obtain ⟨b', off', rfl, _, hcell'⟩ := H'.out (by omega)
      have hx : (runeVals l)[k]? = some (.int .i32 l[k]) := by simp [runeVals, hlt]
      have h1 := hcell k _ hx
      have h2 := hcell' k _ hx
      generalize l[k] = x at h1 h2
      clear hcell hcell' hx H H'
      go_wp2
      go_quiet (fail)
      go_wp2
      go_roundw
      case rel => exact ⟨k + 1, by omega, by go_num, _, rfl⟩
      case measure => simp [intOf]; omega
    · go_wp2
      go_ret
      exact ⟨rfl, n, rfl⟩

/-- a decoder of New's in memory: block g holds its five cells -/
def DecAt (w : World) (g : Nat) (h0 h1 h2 : UInt8) (n : Nat) : Prop :=
  w.heap[g]? = some (.cells #[.bool true, .int .u8 h0.toNat, .int .u8 h1.toNat, .int .u8 h2.toNat, .int .i64 n] 70 (0, 0))

theorem new_any (w : World) :
    Calls Tryd.prog 30 #[] w fun e w' => e = .returned (.pointer (some ⟨w.heap.size, 0, none⟩)) ∧ w' = w.alloc (.cells #[.bool true, .int .u8 0, .int .u8 0, .int .u8 0, .int .i64 0] 70) := by
  go_enter Tryd.func30, Tryd.ntmps30
  go_wp2
  go_ret
  exact ⟨rfl, rfl⟩

theorem usable_nil (w : World) :
    Calls Tryd.prog 47 #[.pointer none] w fun e w' => e = .returned (.bool false) ∧ w = w' := by
  go_enter Tryd.func47, Tryd.ntmps47
  go_wp2
  go_ret
  exact ⟨rfl, rfl⟩

theorem usable_any (g : Nat) (h0 h1 h2 : UInt8) (n : Nat) (w : World) (hd : DecAt w g h0 h1 h2 n) :
    Calls Tryd.prog 47 #[.pointer (some ⟨g, 0, none⟩)] w fun e w' => e = .returned (.bool true) ∧ w = w' := by
  have hc : w.cell? ⟨g, 0, none⟩ = some (.bool true) := cell_of_row w g 0 _ _ _ hd
  clear hd
  go_enter Tryd.func47, Tryd.ntmps47
  go_wp2
  go_ret
  exact ⟨rfl, rfl⟩

theorem pending_nil (w : World) :
    Calls Tryd.prog 33 #[.pointer none] w fun e w' => e = .returned (.int .i64 0) ∧ w = w' := by
  go_enter Tryd.func33, Tryd.ntmps33
  go_wp2_with (go_at_call 47; refine (usable_nil _).mono ?_; rintro e w' ⟨rfl, rfl⟩)
  go_ret
  exact ⟨rfl, rfl⟩

theorem pending_any (g : Nat) (h0 h1 h2 : UInt8) (n : Nat) (w : World) (hd : DecAt w g h0 h1 h2 n) :
    Calls Tryd.prog 33 #[.pointer (some ⟨g, 0, none⟩)] w fun e w' => e = .returned (.int .i64 n) ∧ w = w' := by
  have hc : w.cell? ⟨g, 4, none⟩ = some (.int .i64 n) := cell_of_row w g 4 _ _ _ hd
  have CU := Lib.hid (usable_any g h0 h1 h2 n w hd)
  clear hd
  go_enter Tryd.func33, Tryd.ntmps33
  go_wp2_with (go_at_call 47; refine (CU.out).mono ?_; rintro e w' ⟨rfl, rfl⟩)
  go_ret
  exact ⟨rfl, rfl⟩

end Go.Proofs.YtalfodcjpnjmaaaDoor
