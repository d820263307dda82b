/-
  What cap1, caps, named of the document return.
-/
import Derived.Test.YtcfgppjhgobboaaGreatDoorTiPut3
namespace Go.Proofs.YtcfgppjhgobboaaGreatDoor
open Go.RowKit Go.Shelf Go.Lib
attribute [local go_sem] Oper.semAt_some

theorem indexByte_any (s : List UInt8) (w : World) : Calls Tryz.prog 78 #[str s, .int .u8 0] w fun e w' => e = .returned (.int .i64 (indexByte s 0)) ∧ w = w' :=
  (Any.strings_IndexByte Tryz.layIndexByte ⟨s.toArray⟩ 0 w).mono fun _ _ ⟨h1, h2⟩ => ⟨h1, h2.symm⟩

set_option maxRecDepth 100000 in
set_option maxHeartbeats 2000000 in
theorem cap1_any (w : World) (c : CapD) (kind : Int) (wide : Bool) : Calls Tryz.prog 96 #[capVal c, .int .i64 kind, .bool wide] w fun e w' => e = .returned (.bool (fitsP c kind (topP wide))) ∧ Below w.heap.size w w' := by
  obtain ⟨st, num, text⟩ := c
  have CI := Lib.hid (fun W => indexByte_any text W)
  obtain ⟨ib, hib⟩ : ∃ ib, ib = indexByte text 0 := ⟨_, rfl⟩
  rw [← hib] at CI
  have h0 : text = [] → ib = -1 := fun h => by rw [hib, h]; rfl
  have HIB := Lib.hid hib
  have H0 := Lib.hid h0
  clear hib h0
  cases wide
  all_goals
    go_enter Tryz.func96, Tryz.ntmps96
    go_wp2_with (go_at_call 78; refine (CI.out _).mono ?_; rintro e w' ⟨rfl, rfl⟩)
    all_goals
      go_ret
      refine ⟨ret_bool ?_, (Below.refl _ _).alloc (Nat.le_refl _) _⟩
      have hib := HIB.out
      have h0 := H0.out
      clear CI HIB H0
      unfold fitsP topP hasEndP bareP
      (try simp only [])
      (try rw [← hib])
      clear hib
      first
        | (simp_all; done)
        | (simp_all; omega)
        | (simp_all; rw [if_neg (by omega)]; intros; omega)
        | (simp_all; intros; simp_all; omega)
        | (simp_all; by_cases hi : ib < 0 <;> simp [hi] <;> omega)
        | (simp_all; have hs : st = 0 ∨ st = 2 := by omega
           rcases hs with rfl | rfl <;> simp_all)
end Go.Proofs.YtcfgppjhgobboaaGreatDoor
