/-
  Same of package tinfo, of an entry and itself.
-/
import Derived.Test.YtcfgppjhgobboaaGreatDoorTiSame
namespace Go.Proofs.YtcfgppjhgobboaaGreatDoor
open Go.RowKit Go.Shelf Go.Lib
attribute [local go_sem] Oper.semAt_some

theorem below_drewN {B : Nat} {a w : World} (h : Below B a w) (n : Nat) : Below B a (w.drewN n) := ⟨h.os, h.tape, h.output, h.size, h.block⟩
theorem ExtsV.drewN {w : World} {v : Value} {l : List ExtD} (h : ExtsV w v l) (n : Nat) : ExtsV (w.drewN n) v l := h.below ⟨rfl, rfl, rfl, Nat.le_refl _, fun _ _ => rfl⟩
/-! ### Same, of an entry and itself, where it has no extended capabilities -/
set_option maxRecDepth 1000000 in
set_option maxHeartbeats 8000000 in
theorem same_self (w : World) (t : TermD) (v : Nat → Value) (ve : Value) (h : TermV w v ve t) :
    Calls Tryz.prog 13 #[termVal t v ve, termVal t v ve] w fun e w' => e = .returned (.bool true) ∧ Below w.heap.size w w' := by
  obtain ⟨A0, n0, e0, _⟩ := (h.caps 0 (by omega)).form
  obtain ⟨A1, n1, e1, _⟩ := (h.caps 1 (by omega)).form
  obtain ⟨A2, n2, e2, _⟩ := (h.caps 2 (by omega)).form
  obtain ⟨A3, n3, e3, _⟩ := h.exts.form
  have g0 := h.caps 0 (by omega)
  have g1 := h.caps 1 (by omega)
  have g2 := h.caps 2 (by omega)
  have g3 := h.exts
  rw [e0] at g0
  rw [e1] at g1
  rw [e2] at g2
  rw [e3] at g3
  show Calls _ _ #[.agg #[str t.names, .bool t.wide, v 0, v 1, v 2, ve], .agg #[str t.names, .bool t.wide, v 0, v 1, v 2, ve]] _ _
  rw [e0, e1, e2, e3]
  clear h e0 e1 e2 e3
  have hb : Below w.heap.size w ((w.alloc (.cells #[str t.names, .bool t.wide, .slice A0 (listOf t 0).length n0, .slice A1 (listOf t 1).length n1, .slice A2 (listOf t 2).length n2, .slice A3 t.exts.length n3] 26)).alloc (.cells #[str t.names, .bool t.wide, .slice A0 (listOf t 0).length n0, .slice A1 (listOf t 1).length n1, .slice A2 (listOf t 2).length n2, .slice A3 t.exts.length n3] 26)) := ((Below.refl _ w).alloc (Nat.le_refl _) _).alloc (by simp) _
  have HB := Lib.hid hb
  have b0 := g0.below hb
  have b1 := g1.below hb
  have b2 := g2.below hb
  have b3 := g3.below hb
  clear g0 g1 g2 g3 hb
  generalize listOf t 0 = l0 at *
  generalize listOf t 1 = l1 at *
  generalize listOf t 2 = l2 at *
  generalize t.exts = l3 at *
  generalize t.names = nm at *
  generalize t.wide = wd at *
  have CT0 := Lib.hid (fun n => (trimmed_any _ _ _ _ (b0.drewN n)).mono fun e w' h => And.intro h.1 h.2.symm)
  have CT1 := Lib.hid (fun n => (trimmed_any _ _ _ _ (b1.drewN n)).mono fun e w' h => And.intro h.1 h.2.symm)
  have CT2 := Lib.hid (fun n => (trimmed_any _ _ _ _ (b2.drewN n)).mono fun e w' h => And.intro h.1 h.2.symm)
  have CE0 := Lib.hid (fun n => eqCaps_any _ _ _ _ _ ((b0.prefix (trimP_prefix _)).drewN n) ((b0.prefix (trimP_prefix _)).drewN n))
  have CE1 := Lib.hid (fun n => eqCaps_any _ _ _ _ _ ((b1.prefix (trimP_prefix _)).drewN n) ((b1.prefix (trimP_prefix _)).drewN n))
  have CE2 := Lib.hid (fun n => eqCaps_any _ _ _ _ _ ((b2.prefix (trimP_prefix _)).drewN n) ((b2.prefix (trimP_prefix _)).drewN n))
  have CE3 := Lib.hid (fun n => eqExts_any _ _ _ _ _ (b3.drewN n) (b3.drewN n))
  simp only [decide_true] at CE0 CE1 CE2 CE3
  clear b0 b1 b2 b3
  go_enter Tryz.func13, Tryz.ntmps13
  go_wp2
  go_quiet (first
    | (go_at_call 22; with_reducible exact Calls.quiet_of (CE3.out _))
    | (go_at_call 50; first | with_reducible exact Calls.quiet_of_same (CT0.out _) | with_reducible exact Calls.quiet_of_same (CT1.out _) | with_reducible exact Calls.quiet_of_same (CT2.out _))
    | (go_at_call 21; first | with_reducible exact Calls.quiet_of (CE0.out _) | with_reducible exact Calls.quiet_of (CE1.out _) | with_reducible exact Calls.quiet_of (CE2.out _)))
  go_wp2
  go_ret
  exact ⟨rfl, below_drewN HB.out _⟩

end Go.Proofs.YtcfgppjhgobboaaGreatDoor
