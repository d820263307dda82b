/-
  A new parser.
-/
import Derived.Test.YtjoiagaadofndaaDoorVpFresh
namespace Go.Proofs.YtjoiagaadofndaaDoor
open Go.RowKit Go.Shelf Go.Lib
attribute [local go_sem] Oper.semAt_some

set_option maxRecDepth 1000000 in
theorem newDec_any (w : World) : Calls Tryd.prog 33 #[] w fun e w' => e = .returned (.pointer (some ⟨w.heap.size, 0, none⟩)) ∧ w' = w.alloc (.cells #[.bool true, .int .u8 0, .int .u8 0, .int .u8 0, .int .i64 0] 55) := by
  go_enter Tryd.func33, Tryd.ntmps33
  go_wp2
  go_ret
  exact ⟨rfl, rfl⟩
set_option maxRecDepth 1000000 in
theorem usableP_any (w : World) (g : Nat) (S : PS) (h : ParAt w g S) : Calls Tryd.prog 34 #[.pointer (some ⟨g, 0, none⟩)] w fun e w' => e = .returned (.bool true) ∧ w = w' := by
  have c0 := h.made
  clear h
  go_enter Tryd.func34, Tryd.ntmps34
  go_wp2
  go_ret
  exact ⟨rfl, rfl⟩
set_option maxRecDepth 1000000 in
theorem usableN_any (w : World) : Calls Tryd.prog 34 #[.pointer none] w fun e w' => e = .returned (.bool false) ∧ w = w' := by
  go_enter Tryd.func34, Tryd.ntmps34
  go_wp2
  go_ret
  exact ⟨rfl, rfl⟩
def raw0 : Raw := ⟨0, 0, 0, 0, 0, 0, 0, List.replicate 16 0, 0, false, 0, 0, 0, List.replicate 1024 0, 0⟩
theorem raw0_ok : RawOk raw0 := ⟨rfl, List.length_replicate, Nat.zero_le _, Nat.zero_le _, Nat.zero_le _, Nat.zero_le _, fun x hx => (by rw [show raw0.L.take raw0.c = [] from rfl] at hx; cases hx), Nat.zero_le _⟩
theorem raw0_cells : ((((((Tryd.zeroCells64.setIfInBounds 0 (Value.bool true)).setIfInBounds 2 (Value.bool true)).setIfInBounds 3 (Value.int .u8 0)).setIfInBounds 4 (Value.int .u8 0)).setIfInBounds 5 (Value.int .u8 0)).setIfInBounds 6 (Value.int .i64 0)) = raw0.row.toArray := by kernel_rfl
set_option maxRecDepth 1000000 in
set_option maxHeartbeats 1000000 in
theorem new_any (w : World) : Calls Tryd.prog 16 #[] w fun e w' => ∃ g, e = .returned (.pointer (some ⟨g, 0, none⟩)) ∧ ParAt w' g ps0 ∧ w.heap.size ≤ g ∧ Below w.heap.size w w' := by
  have CD := Lib.hid (newDec_any w)
  go_enter Tryd.func16, Tryd.ntmps16
  go_wp2_with (go_at_call 33; refine (CD.out).mono ?_; rintro e w1 ⟨rfl, rfl⟩)
  go_ret
  refine ⟨_, rfl, ⟨raw0, raw0_ok, ?_, rfl⟩, Nat.le_succ _, ((Below.refl _ _).alloc (Nat.le_refl _) _).alloc (by simp) _⟩
  rw [raw0_cells]
  have := heap_alloc_new (w.alloc (.cells #[.bool true, .int .u8 0, .int .u8 0, .int .u8 0, .int .i64 0] 55)) (.cells raw0.row.toArray 64)
  rw [show (w.alloc (.cells #[.bool true, .int .u8 0, .int .u8 0, .int .u8 0, .int .i64 0] 55)).heap.size = w.heap.size + 1 by simp] at this
  exact this
end Go.Proofs.YtjoiagaadofndaaDoor
