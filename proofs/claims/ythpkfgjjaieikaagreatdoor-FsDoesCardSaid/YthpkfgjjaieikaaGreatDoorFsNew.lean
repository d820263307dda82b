/-
  What New of package simfs returns: a file system without files, of its own memory.
-/
import Derived.Test.YthpkfgjjaieikaaGreatDoorFsEntry
import Derived.WideMake
import Derived.Laws.Tables
namespace Go.Proofs.YthpkfgjjaieikaaGreatDoor
open Go.RowKit Go.Shelf Go.Lib Go.Maps

def st0 : St := ⟨0, 0, 0, 0, false⟩
theorem st0_ok : StOk st0 := by unfold StOk st0; decide
/-- a new file system: its blocks are those that were not there -/
def NewPost (w : World) (e : Ending) (w' : World) : Prop :=
  ∃ b bm, e = .returned (.pointer (some ⟨b, 0, none⟩)) ∧ FsAt w' (fun k => w.heap.size ≤ k) b bm [] st0 ∧ Below w.heap.size w w'

theorem files_nil (w : World) (FP : Nat → Prop) : Files (w.alloc (.map #[] 0)) FP w.heap.size [] :=
  ⟨World.ownsMap_made _ _ _ _, (fun x hx => by cases hx), (fun x hx => by cases hx), (fun x hx => by cases hx)⟩

theorem build_fs (k : Option Nat) (w : World) : (Instr.build 77 #[(0, .map k)]).run Tryz.prog w = .ok (.agg #[.map k, .int .i64 0, .int .i64 0, .int .i64 0, .int .i64 0, .bool false]) w := run_build w _ _ _ (by kernel_rfl)

set_option maxRecDepth 100000 in
theorem new_any (w : World) : Calls Tryz.prog 7 #[] w (NewPost w) := by
  have hmm := @run_makeMap_plain Tryz.prog
  have hbd := build_fs
  go_enter Tryz.func7, Tryz.ntmps7
  go_wp2_with fail
  go_ret
  have hs : (w.alloc (.map #[] 0)).heap.size = w.heap.size + 1 := by simp
  refine ⟨w.heap.size + 1, w.heap.size, rfl, ⟨?_, Nat.le_succ _, Nat.le_refl _, ?_⟩, ((Below.refl _ _).alloc (Nat.le_refl _) _).alloc (by simp) _⟩
  · have := World.alloc_heap_new (w.alloc (.map #[] 0)) (.cells #[.map (some w.heap.size), .int .i64 0, .int .i64 0, .int .i64 0, .int .i64 0, .bool false] 77)
    rw [hs] at this
    exact this
  · exact (files_nil w _).same (FP := fun k => w.heap.size ≤ k) (Nat.le_refl _) (fun k hk _ => Below.heap_alloc _ _ k hk)

end Go.Proofs.YthpkfgjjaieikaaGreatDoor
