/-
  What one byte does within a control sequence and within a text.
-/
import Derived.Test.YtjoiagaadofndaaDoorVpStep
namespace Go.Proofs.YtjoiagaadofndaaDoor
open Go.RowKit Go.Shelf Go.Lib
attribute [local go_sem] Oper.semAt_some
theorem st_ne {S : PS} {k : Nat} (h : S.st ≠ k) : ((S.st : Int) == (k : Int)) = false := beq_eq_false_iff_ne.2 (by omega)

set_option maxRecDepth 1000000 in
set_option maxHeartbeats 2000000 in
theorem inSeq_any (w : World) (g : Nat) (S : PS) (b : UInt8) (h : ParAt w g S) : Calls Tryd.prog 88 #[.pointer (some ⟨g, 0, none⟩), .int .u8 b.toNat, .int .i64 (classP b)] w (StepPost w g (inSeqP S b).1 (inSeqP S b).2) := by
  have HB := Lib.hid (BoxW.start h #[.int .i64 0, .int .i32 0, .int .u8 0, .int .u8 0, .slice none 0 0, .string ⟨#[]⟩, .string ⟨#[]⟩] rfl)
  have CE := Lib.hid fun W => execute_any b W
  have CA := Lib.hid fun W (hW : ParAt W g { S with fin := b, st := 0 }) => action_any W g _ 4 hW
  clear h
  by_cases k0 : classP b = 0
  · by_cases k7 : S.st < 7
    · have e : inSeqP S b = (S, exeA b) := by unfold inSeqP; rw [if_pos ⟨k0, k7⟩]
      rw [e, k0]
      have i7 : ((S.st : Int) < 7) = True := by simp; omega
      clear e k0 k7 CA
      go_enter Tryd.func88, Tryd.ntmps88
      go_upto_region 1 with (fail)
      generalize w.alloc (.cells #[.int .i64 0, .int .i32 0, .int .u8 0, .int .u8 0, .slice none 0 0, .string ⟨#[]⟩, .string ⟨#[]⟩] 39) = W at *
      have c1 := HB.out.par.st
      go_wp2_with (first
        | (go_at_call 66; refine (CE.out _).mono ?_; rintro e w1 ⟨rfl, hb1⟩; have HB1 := Lib.hid (HB.out.below hb1); clear hb1)
        | (refine wpList_store_act (by rfl) _ _ (by rfl) w.heap.size _ (by rfl) (by rfl) HB1.out.seven HB1.out.at (by rfl) (by rfl) ?_))
      have hf := HB1.out.fin0 (exeA b) rfl _ rfl
      exact ret_box rfl rfl rfl hf.1 rfl hf.2
    · have e : inSeqP S b = (S, noneA) := by unfold inSeqP; rw [if_neg (fun x => k7 x.2), if_pos (by omega)]
      rw [e, k0]
      have i7 : ((S.st : Int) < 7) = False := by simp; omega
      clear e k0 k7 CA CE
      go_enter Tryd.func88, Tryd.ntmps88
      go_upto_region 1 with (fail)
      generalize w.alloc (.cells #[.int .i64 0, .int .i32 0, .int .u8 0, .int .u8 0, .slice none 0 0, .string ⟨#[]⟩, .string ⟨#[]⟩] 39) = W at *
      have c1 := HB.out.par.st
      go_wp2_with (first
        | (refine wpList_store_act (by rfl) _ _ (by rfl) w.heap.size _ (by rfl) (by rfl) HB.out.seven HB.out.at (by rfl) (by rfl) ?_))
      have hf := HB.out.fin0 (noneA) rfl _ rfl
      exact ret_box rfl rfl rfl hf.1 rfl hf.2
  by_cases k5 : classP b ≠ 5
  · have e : inSeqP S b = (S, noneA) := by unfold inSeqP; rw [if_neg (fun x => k0 x.1), if_pos k5]
    rw [e]
    have n0 : ((classP b : Int) == 0) = false := class_ne k0
    have n5 : ((classP b : Int) == 5) = false := class_ne k5
    clear e k0 k5 CA CE
    go_enter Tryd.func88, Tryd.ntmps88
    go_upto_region 1 with (fail)
    generalize w.alloc (.cells #[.int .i64 0, .int .i32 0, .int .u8 0, .int .u8 0, .slice none 0 0, .string ⟨#[]⟩, .string ⟨#[]⟩] 39) = W at *
    go_wp2_with (first
      | (refine wpList_store_act (by rfl) _ _ (by rfl) w.heap.size _ (by rfl) (by rfl) HB.out.seven HB.out.at (by rfl) (by rfl) ?_))
    have hf := HB.out.fin0 (noneA) rfl _ rfl
    exact ret_box rfl rfl rfl hf.1 rfl hf.2
  have k5' : classP b = 5 := by omega
  by_cases hst : S.st = 6
  · have e : inSeqP S b = ({ S with fin := b, st := 0 }, noneA) := by unfold inSeqP; rw [if_neg (fun x => k0 x.1), if_neg k5]; simp [hst]
    rw [e, k5']
    clear e k0 k5 k5' CA CE
    go_enter Tryd.func88, Tryd.ntmps88
    go_upto_region 1 with (fail)
    generalize w.alloc (.cells #[.int .i64 0, .int .i32 0, .int .u8 0, .int .u8 0, .slice none 0 0, .string ⟨#[]⟩, .string ⟨#[]⟩] 39) = W at *
    have c1 := HB.out.par.st
    have f1 := HB.out.par.frozen 1
    have c8 := HB.out.par.finC
    have f8 := HB.out.par.frozen 8
    rw [hst] at c1
    have HB2 := Lib.hid ((HB.out.setFin b).setSt 0 (by omega))
    go_wp2_with (first
      | (refine wpList_store_act (by rfl) _ _ (by rfl) w.heap.size _ (by rfl) (by rfl) HB2.out.seven HB2.out.at (by rfl) (by rfl) ?_))
    have hf := HB2.out.fin0 (noneA) rfl _ rfl
    exact ret_box rfl rfl rfl hf.1 rfl hf.2
  have ne6 := hst
  clear hst
  by_cases hst : S.st = 10
  · have e : inSeqP S b = ({ S with fin := b, st := 13 }, noneA) := by unfold inSeqP; rw [if_neg (fun x => k0 x.1), if_neg k5]; simp [hst]
    rw [e, k5']
    clear e k0 k5 k5' CA CE
    go_enter Tryd.func88, Tryd.ntmps88
    go_upto_region 1 with (fail)
    generalize w.alloc (.cells #[.int .i64 0, .int .i32 0, .int .u8 0, .int .u8 0, .slice none 0 0, .string ⟨#[]⟩, .string ⟨#[]⟩] 39) = W at *
    have c1 := HB.out.par.st
    have f1 := HB.out.par.frozen 1
    have c8 := HB.out.par.finC
    have f8 := HB.out.par.frozen 8
    rw [hst] at c1
    have HB2 := Lib.hid ((HB.out.setFin b).setSt 13 (by omega))
    go_wp2_with (first
      | (refine wpList_store_act (by rfl) _ _ (by rfl) w.heap.size _ (by rfl) (by rfl) HB2.out.seven HB2.out.at (by rfl) (by rfl) ?_))
    have hf := HB2.out.fin0 (noneA) rfl _ rfl
    exact ret_box rfl rfl rfl hf.1 rfl hf.2
  have ne10 := hst
  clear hst
  by_cases h789 : S.st = 7 ∨ S.st = 8 ∨ S.st = 9
  · have e : inSeqP S b = ({ S with fin := b, st := 11 }, noneA) := by unfold inSeqP; rw [if_neg (fun x => k0 x.1), if_neg k5, if_neg ne6, if_neg ne10, if_pos h789]
    rw [e, k5']
    clear e k0 k5 k5' CA CE ne6 ne10
    rcases h789 with hst | hst | hst
    · go_enter Tryd.func88, Tryd.ntmps88
      go_upto_region 1 with (fail)
      generalize w.alloc (.cells #[.int .i64 0, .int .i32 0, .int .u8 0, .int .u8 0, .slice none 0 0, .string ⟨#[]⟩, .string ⟨#[]⟩] 39) = W at *
      have c1 := HB.out.par.st
      have f1 := HB.out.par.frozen 1
      have c8 := HB.out.par.finC
      have f8 := HB.out.par.frozen 8
      rw [hst] at c1
      have HB2 := Lib.hid ((HB.out.setFin b).setSt 11 (by omega))
      go_wp2_with (first
        | (refine wpList_store_act (by rfl) _ _ (by rfl) w.heap.size _ (by rfl) (by rfl) HB2.out.seven HB2.out.at (by rfl) (by rfl) ?_))
      have hf := HB2.out.fin0 (noneA) rfl _ rfl
      exact ret_box rfl rfl rfl hf.1 rfl hf.2
    · go_enter Tryd.func88, Tryd.ntmps88
      go_upto_region 1 with (fail)
      generalize w.alloc (.cells #[.int .i64 0, .int .i32 0, .int .u8 0, .int .u8 0, .slice none 0 0, .string ⟨#[]⟩, .string ⟨#[]⟩] 39) = W at *
      have c1 := HB.out.par.st
      have f1 := HB.out.par.frozen 1
      have c8 := HB.out.par.finC
      have f8 := HB.out.par.frozen 8
      rw [hst] at c1
      have HB2 := Lib.hid ((HB.out.setFin b).setSt 11 (by omega))
      go_wp2_with (first
        | (refine wpList_store_act (by rfl) _ _ (by rfl) w.heap.size _ (by rfl) (by rfl) HB2.out.seven HB2.out.at (by rfl) (by rfl) ?_))
      have hf := HB2.out.fin0 (noneA) rfl _ rfl
      exact ret_box rfl rfl rfl hf.1 rfl hf.2
    · go_enter Tryd.func88, Tryd.ntmps88
      go_upto_region 1 with (fail)
      generalize w.alloc (.cells #[.int .i64 0, .int .i32 0, .int .u8 0, .int .u8 0, .slice none 0 0, .string ⟨#[]⟩, .string ⟨#[]⟩] 39) = W at *
      have c1 := HB.out.par.st
      have f1 := HB.out.par.frozen 1
      have c8 := HB.out.par.finC
      have f8 := HB.out.par.frozen 8
      rw [hst] at c1
      have HB2 := Lib.hid ((HB.out.setFin b).setSt 11 (by omega))
      go_wp2_with (first
        | (refine wpList_store_act (by rfl) _ _ (by rfl) w.heap.size _ (by rfl) (by rfl) HB2.out.seven HB2.out.at (by rfl) (by rfl) ?_))
      have hf := HB2.out.fin0 (noneA) rfl _ rfl
      exact ret_box rfl rfl rfl hf.1 rfl hf.2
  · have e : inSeqP S b = ({ S with fin := b, st := 0 }, actOf { S with fin := b, st := 0 } 4) := by unfold inSeqP; rw [if_neg (fun x => k0 x.1), if_neg k5, if_neg ne6, if_neg ne10, if_neg h789]; rfl
    rw [e, k5']
    have m6 : ((S.st : Int) == 6) = false := st_ne (k := 6) (by omega)
    have m7 : ((S.st : Int) == 7) = false := st_ne (k := 7) (by omega)
    have m8 : ((S.st : Int) == 8) = false := st_ne (k := 8) (by omega)
    have m9 : ((S.st : Int) == 9) = false := st_ne (k := 9) (by omega)
    have m10 : ((S.st : Int) == 10) = false := st_ne (k := 10) (by omega)
    clear e k0 k5 k5' CE ne6 ne10 h789
    go_enter Tryd.func88, Tryd.ntmps88
    go_upto_region 1 with (fail)
    generalize w.alloc (.cells #[.int .i64 0, .int .i32 0, .int .u8 0, .int .u8 0, .slice none 0 0, .string ⟨#[]⟩, .string ⟨#[]⟩] 39) = W at *
    have c1 := HB.out.par.st
    have f1 := HB.out.par.frozen 1
    have c8 := HB.out.par.finC
    have f8 := HB.out.par.frozen 8
    have HB2 := Lib.hid ((HB.out.setFin b).setSt 0 (by omega))
    go_wp2_with (first
      | (go_at_call 80; refine (CA.out _ HB2.out.par).mono ?_; rintro e w1 ⟨pv, rfl, hi1, hp1, ht1⟩; obtain ⟨A, cp, rfl, _⟩ := own_form hi1; have HI := Lib.hid (own_less hi1 (B' := w.heap.size) (Nat.le_of_lt HB2.out.size)); have HB3 := Lib.hid (HB2.out.call ht1 hp1); clear hi1 hp1 ht1)
      | (refine wpList_store_act (by rfl) _ _ (by rfl) w.heap.size _ (by rfl) (by rfl) HB3.out.seven HB3.out.at (by rfl) (by rfl) ?_))
    have hf := HB3.out.fin HI.out _ rfl
    exact ret_box rfl rfl rfl hf.1 rfl hf.2
set_option maxRecDepth 1000000 in
set_option maxHeartbeats 2000000 in
theorem inOsc_any (w : World) (g : Nat) (S : PS) (b : UInt8) (h : ParAt w g S) : Calls Tryd.prog 90 #[.pointer (some ⟨g, 0, none⟩), .int .u8 b.toNat, .int .i64 (classP b)] w (StepPost w g (inOscP S b).1 (inOscP S b).2) := by
  have HB := Lib.hid (BoxW.start h #[.int .i64 0, .int .i32 0, .int .u8 0, .int .u8 0, .slice none 0 0, .string ⟨#[]⟩, .string ⟨#[]⟩] rfl)
  have CL := Lib.hid fun W (hW : ParAt W g S) => addText_any W g S b hW
  have CA := Lib.hid fun W (hW : ParAt W g { S with st := 0 }) => action_any W g _ 5 hW
  clear h
  have e7 : (b = 7) ↔ b.toNat = 7 := u8_eq b 7 (by omega)
  by_cases k7 : b = 7
  · have e : inOscP S b = ({ S with st := 0 }, actOf { S with st := 0 } 5) := by unfold inOscP; rw [if_pos k7]; rfl
    rw [e]
    have i7 : ((b.toNat : Int) == 7) = true := by rw [e7.1 k7]; rfl
    clear e e7 k7 CL
    go_enter Tryd.func90, Tryd.ntmps90
    go_upto_region 1 with (fail)
    generalize w.alloc (.cells #[.int .i64 0, .int .i32 0, .int .u8 0, .int .u8 0, .slice none 0 0, .string ⟨#[]⟩, .string ⟨#[]⟩] 39) = W at *
    have c1 := HB.out.par.st
    have f1 := HB.out.par.frozen 1
    have HB2 := Lib.hid (HB.out.setSt 0 (by omega))
    go_wp2_with (first
      | (go_at_call 80; refine (CA.out _ HB2.out.par).mono ?_; rintro e w1 ⟨pv, rfl, hi1, hp1, ht1⟩; obtain ⟨A, cp, rfl, _⟩ := own_form hi1; have HI := Lib.hid (own_less hi1 (B' := w.heap.size) (Nat.le_of_lt HB2.out.size)); have HB3 := Lib.hid (HB2.out.call ht1 hp1); clear hi1 hp1 ht1)
      | (refine wpList_store_act (by rfl) _ _ (by rfl) w.heap.size _ (by rfl) (by rfl) HB3.out.seven HB3.out.at (by rfl) (by rfl) ?_))
    have hf := HB3.out.fin HI.out _ rfl
    exact ret_box rfl rfl rfl hf.1 rfl hf.2
  have i7 : ((b.toNat : Int) == 7) = false := beq_eq_false_iff_ne.2 (fun x => k7 (e7.2 (by omega)))
  by_cases k0 : classP b = 0
  · have e : inOscP S b = (S, noneA) := by unfold inOscP; rw [if_neg k7, if_pos k0]
    rw [e, k0]
    clear e e7 k7 k0 CL CA
    go_enter Tryd.func90, Tryd.ntmps90
    go_upto_region 1 with (fail)
    generalize w.alloc (.cells #[.int .i64 0, .int .i32 0, .int .u8 0, .int .u8 0, .slice none 0 0, .string ⟨#[]⟩, .string ⟨#[]⟩] 39) = W at *
    go_wp2_with (first
      | (refine wpList_store_act (by rfl) _ _ (by rfl) w.heap.size _ (by rfl) (by rfl) HB.out.seven HB.out.at (by rfl) (by rfl) ?_))
    have hf := HB.out.fin0 (noneA) rfl _ rfl
    exact ret_box rfl rfl rfl hf.1 rfl hf.2
  · have e : inOscP S b = (addTextP S b, noneA) := by unfold inOscP; rw [if_neg k7, if_neg k0]
    rw [e]
    have n0 : ((classP b : Int) == 0) = false := class_ne k0
    clear e e7 k7 k0 CA
    go_enter Tryd.func90, Tryd.ntmps90
    go_upto_region 1 with (fail)
    generalize w.alloc (.cells #[.int .i64 0, .int .i32 0, .int .u8 0, .int .u8 0, .slice none 0 0, .string ⟨#[]⟩, .string ⟨#[]⟩] 39) = W at *
    go_wp2_with (first
      | (go_at_call 89; refine (CL.out _ HB.out.par).mono ?_; rintro e w1 ⟨rfl, hp1, ht1⟩; have HB1 := Lib.hid (HB.out.call ht1 hp1); clear hp1 ht1)
      | (refine wpList_store_act (by rfl) _ _ (by rfl) w.heap.size _ (by rfl) (by rfl) HB1.out.seven HB1.out.at (by rfl) (by rfl) ?_))
    have hf := HB1.out.fin0 (noneA) rfl _ rfl
    exact ret_box rfl rfl rfl hf.1 rfl hf.2
set_option maxRecDepth 1000000 in
set_option maxHeartbeats 2000000 in
theorem endText_any (w : World) (g : Nat) (S : PS) (h : ParAt w g S) : Calls Tryd.prog 67 #[.pointer (some ⟨g, 0, none⟩)] w (StepPost w g S (endTextA S)) := by
  have HB := Lib.hid (BoxW.start h #[.int .i64 0, .int .i32 0, .int .u8 0, .int .u8 0, .slice none 0 0, .string ⟨#[]⟩, .string ⟨#[]⟩] rfl)
  have CA5 := Lib.hid fun W (hW : ParAt W g S) => action_any W g _ 5 hW
  have CA6 := Lib.hid fun W (hW : ParAt W g S) => action_any W g _ 6 hW
  clear h
  by_cases k12 : S.st = 12
  · have e : endTextA S = actOf S 5 := by unfold endTextA; rw [if_pos k12]
    rw [e]
    clear e CA6
    have CA := CA5
    go_enter Tryd.func67, Tryd.ntmps67
    go_upto_region 1 with (fail)
    generalize w.alloc (.cells #[.int .i64 0, .int .i32 0, .int .u8 0, .int .u8 0, .slice none 0 0, .string ⟨#[]⟩, .string ⟨#[]⟩] 39) = W at *
    have c1 := HB.out.par.st
    rw [k12] at c1
    go_wp2_with (first
      | (go_at_call 80; refine (CA.out _ HB.out.par).mono ?_; rintro e w1 ⟨pv, rfl, hi1, hp1, ht1⟩; obtain ⟨A, cp, rfl, _⟩ := own_form hi1; have HI := Lib.hid (own_less hi1 (B' := w.heap.size) (Nat.le_of_lt HB.out.size)); have HB3 := Lib.hid (HB.out.call ht1 hp1); clear hi1 hp1 ht1)
      | (refine wpList_store_act (by rfl) _ _ (by rfl) w.heap.size _ (by rfl) (by rfl) HB3.out.seven HB3.out.at (by rfl) (by rfl) ?_))
    have hf := HB3.out.fin HI.out _ rfl
    exact ret_box rfl rfl rfl hf.1 rfl hf.2
  by_cases k11 : S.st = 11
  · have e : endTextA S = actOf S 6 := by unfold endTextA; rw [if_neg k12, if_pos k11]
    rw [e]
    clear e CA5
    have CA := CA6
    go_enter Tryd.func67, Tryd.ntmps67
    go_upto_region 1 with (fail)
    generalize w.alloc (.cells #[.int .i64 0, .int .i32 0, .int .u8 0, .int .u8 0, .slice none 0 0, .string ⟨#[]⟩, .string ⟨#[]⟩] 39) = W at *
    have c1 := HB.out.par.st
    rw [k11] at c1
    go_wp2_with (first
      | (go_at_call 80; refine (CA.out _ HB.out.par).mono ?_; rintro e w1 ⟨pv, rfl, hi1, hp1, ht1⟩; obtain ⟨A, cp, rfl, _⟩ := own_form hi1; have HI := Lib.hid (own_less hi1 (B' := w.heap.size) (Nat.le_of_lt HB.out.size)); have HB3 := Lib.hid (HB.out.call ht1 hp1); clear hi1 hp1 ht1)
      | (refine wpList_store_act (by rfl) _ _ (by rfl) w.heap.size _ (by rfl) (by rfl) HB3.out.seven HB3.out.at (by rfl) (by rfl) ?_))
    have hf := HB3.out.fin HI.out _ rfl
    exact ret_box rfl rfl rfl hf.1 rfl hf.2
  · have e : endTextA S = noneA := by unfold endTextA; rw [if_neg k12, if_neg k11]
    rw [e]
    have m12 : ((S.st : Int) == 12) = false := st_ne k12
    have m11 : ((S.st : Int) == 11) = false := st_ne k11
    clear e k12 k11 CA5 CA6
    go_enter Tryd.func67, Tryd.ntmps67
    go_upto_region 1 with (fail)
    generalize w.alloc (.cells #[.int .i64 0, .int .i32 0, .int .u8 0, .int .u8 0, .slice none 0 0, .string ⟨#[]⟩, .string ⟨#[]⟩] 39) = W at *
    have c1 := HB.out.par.st
    go_wp2_with (first
      | (refine wpList_store_act (by rfl) _ _ (by rfl) w.heap.size _ (by rfl) (by rfl) HB.out.seven HB.out.at (by rfl) (by rfl) ?_))
    have hf := HB.out.fin0 (noneA) rfl _ rfl
    exact ret_box rfl rfl rfl hf.1 rfl hf.2
end Go.Proofs.YtjoiagaadofndaaDoor
