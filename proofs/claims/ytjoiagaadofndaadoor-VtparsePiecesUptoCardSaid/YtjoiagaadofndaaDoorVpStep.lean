/-
  What one byte does within a sequence: an escape, a control sequence, a text.
-/
import Derived.Test.YtjoiagaadofndaaDoorVpAct
namespace Go.Proofs.YtjoiagaadofndaaDoor
open Go.RowKit Go.Shelf Go.Lib
attribute [local go_sem] Oper.semAt_some

theorem ParAt.finC {w : World} {g : Nat} {S : PS} (h : ParAt w g S) : w.cell? ⟨g, 8, none⟩ = some (.int .u8 S.fin.toNat) := by obtain ⟨R, ok, h, rfl⟩ := h; exact (h.cells ok).c8
theorem ParAt.privC {w : World} {g : Nat} {S : PS} (h : ParAt w g S) : w.cell? ⟨g, 7, none⟩ = some (.int .u8 S.priv.toNat) := by obtain ⟨R, ok, h, rfl⟩ := h; exact (h.cells ok).c7
theorem class_ne {b : UInt8} {k : Nat} (h : classP b ≠ k) : ((classP b : Int) == (k : Int)) = false := beq_eq_false_iff_ne.2 (by omega)
theorem StepPost.eq {w : World} {g : Nat} {S S' : PS} {a a' : ActD} {e : Ending} {w' : World} (h : StepPost w g S a e w') (e1 : S = S') (e2 : a = a') : StepPost w g S' a' e w' := by subst e1 e2; exact h

set_option maxRecDepth 1000000 in
set_option maxHeartbeats 1000000 in
theorem inEscape_any (w : World) (g : Nat) (S : PS) (b : UInt8) (h : ParAt w g S) : Calls Tryd.prog 84 #[.pointer (some ⟨g, 0, none⟩), .int .u8 b.toNat, .int .i64 (classP b)] w (StepPost w g (inEscapeP S b).1 (inEscapeP S b).2) := by
  have HB := Lib.hid (BoxW.start h #[.int .i64 0, .int .i32 0, .int .u8 0, .int .u8 0, .slice none 0 0, .string ⟨#[]⟩, .string ⟨#[]⟩] rfl)
  have CE := Lib.hid fun W => execute_any b W
  have CI := Lib.hid fun W (hW : ParAt W g S) => addInter_any W g S b hW
  have CA := Lib.hid fun W (hW : ParAt W g { S with fin := b, st := 0 }) => action_any W g _ 3 hW
  clear h
  by_cases k0 : classP b = 0
  · have e : inEscapeP S b = (S, exeA b) := by unfold inEscapeP; rw [if_pos k0]
    rw [e, k0]
    clear e k0 CI CA
    go_enter Tryd.func84, Tryd.ntmps84
    go_upto_region 1 with (fail)
    generalize w.alloc (.cells #[.int .i64 0, .int .i32 0, .int .u8 0, .int .u8 0, .slice none 0 0, .string ⟨#[]⟩, .string ⟨#[]⟩] 39) = W at *
    go_wp2_with (first
      | (go_at_call 66; refine (CE.out _).mono ?_; rintro e w1 ⟨rfl, hb1⟩; have HB1 := Lib.hid (HB.out.below hb1); clear hb1)
      | (refine wpList_store_act (by rfl) _ _ (by rfl) w.heap.size _ (by rfl) (by rfl) HB1.out.seven HB1.out.at (by rfl) (by rfl) ?_))
    have hf := HB1.out.fin0 (exeA b) rfl _ rfl
    exact ret_box rfl rfl rfl hf.1 rfl hf.2
  by_cases k1 : classP b = 1
  · have e : inEscapeP S b = ({ addInterP S b with st := 2 }, noneA) := by unfold inEscapeP; rw [if_neg k0, if_pos k1]
    rw [e, k1]
    clear e k0 k1 CE CA
    go_enter Tryd.func84, Tryd.ntmps84
    go_upto_region 1 with (fail)
    generalize w.alloc (.cells #[.int .i64 0, .int .i32 0, .int .u8 0, .int .u8 0, .slice none 0 0, .string ⟨#[]⟩, .string ⟨#[]⟩] 39) = W at *
    go_wp2_with (first
      | (go_at_call 87; refine (CI.out _ HB.out.par).mono ?_; rintro e w1 ⟨rfl, hp1, ht1⟩; have HB1 := Lib.hid (HB.out.call ht1 hp1); clear hp1 ht1; have c1 := HB1.out.par.st; have f1 := HB1.out.par.frozen 1; have HB2 := Lib.hid (HB1.out.setSt 2 (by omega)))
      | (refine wpList_store_act (by rfl) _ _ (by rfl) w.heap.size _ (by rfl) (by rfl) HB2.out.seven HB2.out.at (by rfl) (by rfl) ?_))
    have hf := HB2.out.fin0 noneA rfl _ rfl
    exact ret_box rfl rfl rfl hf.1 rfl hf.2
  by_cases k6 : classP b = 6
  · have e : inEscapeP S b = (S, noneA) := by unfold inEscapeP; rw [if_neg k0, if_neg k1, if_pos k6]
    rw [e, k6]
    clear e k0 k1 k6 CE CA CI
    go_enter Tryd.func84, Tryd.ntmps84
    go_upto_region 1 with (fail)
    generalize w.alloc (.cells #[.int .i64 0, .int .i32 0, .int .u8 0, .int .u8 0, .slice none 0 0, .string ⟨#[]⟩, .string ⟨#[]⟩] 39) = W at *
    go_wp2_with (refine wpList_store_act (by rfl) _ _ (by rfl) w.heap.size _ (by rfl) (by rfl) HB.out.seven HB.out.at (by rfl) (by rfl) ?_)
    have hf := HB.out.fin0 noneA rfl _ rfl
    exact ret_box rfl rfl rfl hf.1 rfl hf.2
  · have e : inEscapeP S b = ({ S with fin := b, st := 0 }, actOf { S with fin := b, st := 0 } 3) := by unfold inEscapeP; rw [if_neg k0, if_neg k1, if_neg k6]; rfl
    rw [e]
    have n0 : ((classP b : Int) == 0) = false := class_ne k0
    have n1 : ((classP b : Int) == 1) = false := class_ne k1
    have n6 : ((classP b : Int) == 6) = false := class_ne k6
    clear e k0 k1 k6 CE CI
    go_enter Tryd.func84, Tryd.ntmps84
    go_upto_region 1 with (fail)
    generalize w.alloc (.cells #[.int .i64 0, .int .i32 0, .int .u8 0, .int .u8 0, .slice none 0 0, .string ⟨#[]⟩, .string ⟨#[]⟩] 39) = W at *
    have c1 := HB.out.par.st
    have f1 := HB.out.par.frozen 1
    have c8 := HB.out.par.finC
    have f8 := HB.out.par.frozen 8
    have HB2 := Lib.hid ((HB.out.setFin b).setSt 0 (by omega))
    go_wp2_with (first
      | (go_at_call 80; refine (CA.out _ HB2.out.par).mono ?_; rintro e w1 ⟨pv, rfl, hi1, hp1, ht1⟩; obtain ⟨A, cp, rfl, _⟩ := own_form hi1; have HI := Lib.hid (own_less hi1 (B' := w.heap.size) (Nat.le_of_lt HB2.out.size)); have HB3 := Lib.hid (HB2.out.call ht1 hp1); clear hi1 hp1 ht1)
      | (refine wpList_store_act (by rfl) _ _ (by rfl) w.heap.size _ (by rfl) (by rfl) HB3.out.seven HB3.out.at (by rfl) (by rfl) ?_))
    have hf := HB3.out.fin HI.out _ rfl
    exact ret_box rfl rfl rfl hf.1 rfl hf.2
end Go.Proofs.YtjoiagaadofndaaDoor
