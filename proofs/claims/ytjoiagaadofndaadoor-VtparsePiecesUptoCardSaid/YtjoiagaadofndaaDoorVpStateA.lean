/-
  What one byte does that does not mean the same in every state, by states (part B).
-/
import Derived.Test.YtjoiagaadofndaaDoorVpSeq
namespace Go.Proofs.YtjoiagaadofndaaDoor
open Go.RowKit Go.Shelf Go.Lib
attribute [local go_sem] Oper.semAt_some

theorem introP_le (b : UInt8) : introP b ≤ 13 := by
  rw [introP_nat]
  repeat' split
  all_goals omega
theorem groundA_ps (b : UInt8) : (groundA b).ps = [] := by
  unfold groundA
  repeat' split
  all_goals rfl
set_option maxRecDepth 1000000 in
set_option maxHeartbeats 2000000 in
theorem state_ground (w : World) (g : Nat) (S : PS) (b : UInt8) (h : ParAt w g S) (hst : S.st = 0) : Calls Tryd.prog 68 #[.pointer (some ⟨g, 0, none⟩), .int .u8 b.toNat] w (StepPost w g S (groundA b)) := by
  have HB := Lib.hid (BoxW.start h #[.int .i64 0, .int .i32 0, .int .u8 0, .int .u8 0, .slice none 0 0, .string ⟨#[]⟩, .string ⟨#[]⟩] rfl)
  have CC := Lib.hid fun W => class_any b W
  have CG := Lib.hid fun W => ground_any b W
  clear h
  go_enter Tryd.func68, Tryd.ntmps68
  go_upto_region 1 with (fail)
  generalize w.alloc (.cells #[.int .i64 0, .int .i32 0, .int .u8 0, .int .u8 0, .slice none 0 0, .string ⟨#[]⟩, .string ⟨#[]⟩] 39) = W at *
  have c1 := HB.out.par.st
  rw [hst] at c1
  go_wp2_with (first
    | (go_at_call 81; refine (CC.out _).mono ?_; rintro e w1 ⟨rfl, rfl⟩)
    | (go_at_call 82; refine (CG.out _).mono ?_; rintro e w1 ⟨rfl, hb1⟩; have HB1 := Lib.hid (HB.out.below hb1); clear hb1)
    | (refine wpList_store_act (by rfl) _ _ (by rfl) w.heap.size _ (by rfl) (by rfl) HB1.out.seven HB1.out.at (by rfl) (by rfl) ?_))
  have hf := HB1.out.fin0 (groundA b) (groundA_ps b) _ rfl
  exact ret_box rfl rfl rfl hf.1 rfl hf.2
set_option maxRecDepth 1000000 in
set_option maxHeartbeats 2000000 in
theorem state_intro (w : World) (g : Nat) (S : PS) (b : UInt8) (h : ParAt w g S) (hst : S.st = 1) (hi : introP b ≠ 1) : Calls Tryd.prog 68 #[.pointer (some ⟨g, 0, none⟩), .int .u8 b.toNat] w (StepPost w g { S with st := introP b } noneA) := by
  have HB := Lib.hid (BoxW.start h #[.int .i64 0, .int .i32 0, .int .u8 0, .int .u8 0, .slice none 0 0, .string ⟨#[]⟩, .string ⟨#[]⟩] rfl)
  have CC := Lib.hid fun W => class_any b W
  have CI := Lib.hid fun W => intro_any b W
  have hle := introP_le b
  have n1 : ((introP b : Int) == 1) = false := beq_eq_false_iff_ne.2 (by omega)
  clear hi
  clear h
  go_enter Tryd.func68, Tryd.ntmps68
  go_upto_region 1 with (fail)
  generalize w.alloc (.cells #[.int .i64 0, .int .i32 0, .int .u8 0, .int .u8 0, .slice none 0 0, .string ⟨#[]⟩, .string ⟨#[]⟩] 39) = W at *
  have c1 := HB.out.par.st
  rw [hst] at c1
  have f1 := HB.out.par.frozen 1
  have HB2 := Lib.hid (HB.out.setSt (introP b) hle)
  clear hle
  go_wp2_with (first
    | (go_at_call 81; refine (CC.out _).mono ?_; rintro e w1 ⟨rfl, rfl⟩)
    | (go_at_call 83; refine (CI.out _).mono ?_; rintro e w1 ⟨rfl, rfl⟩)
    | (refine wpList_store_act (by rfl) _ _ (by rfl) w.heap.size _ (by rfl) (by rfl) HB2.out.seven HB2.out.at (by rfl) (by rfl) ?_))
  have hf := HB2.out.fin0 (noneA) rfl _ rfl
  exact ret_box rfl rfl rfl hf.1 rfl hf.2
set_option maxRecDepth 1000000 in
set_option maxHeartbeats 2000000 in
theorem state_escape1 (w : World) (g : Nat) (S : PS) (b : UInt8) (h : ParAt w g S) (hst : S.st = 1) (hi : introP b = 1) : Calls Tryd.prog 68 #[.pointer (some ⟨g, 0, none⟩), .int .u8 b.toNat] w (StepPost w g (inEscapeP S b).1 (inEscapeP S b).2) := by
  have HB := Lib.hid (BoxW.start h #[.int .i64 0, .int .i32 0, .int .u8 0, .int .u8 0, .slice none 0 0, .string ⟨#[]⟩, .string ⟨#[]⟩] rfl)
  have CC := Lib.hid fun W => class_any b W
  have CI := Lib.hid fun W => intro_any b W
  rw [hi] at CI
  have CS := Lib.hid fun W (hW : ParAt W g S) => inEscape_any W g S b hW
  clear h
  go_enter Tryd.func68, Tryd.ntmps68
  go_upto_region 1 with (fail)
  generalize w.alloc (.cells #[.int .i64 0, .int .i32 0, .int .u8 0, .int .u8 0, .slice none 0 0, .string ⟨#[]⟩, .string ⟨#[]⟩] 39) = W at *
  have c1 := HB.out.par.st
  rw [hst] at c1
  go_wp2_with (first
    | (go_at_call 81; refine (CC.out _).mono ?_; rintro e w1 ⟨rfl, rfl⟩)
    | (go_at_call 83; refine (CI.out _).mono ?_; rintro e w1 ⟨rfl, rfl⟩)
    | (go_at_call 84; refine (CS.out _ HB.out.par).mono ?_; rintro e w1 ⟨pv, rfl, hi1, hp1, ht1⟩; obtain ⟨A, cp, rfl, _⟩ := own_form hi1; have HI := Lib.hid (own_less hi1 (B' := w.heap.size) (Nat.le_of_lt HB.out.size)); have HB1 := Lib.hid (HB.out.call ht1 hp1); clear hi1 hp1 ht1)
    | (refine wpList_store_act (by rfl) _ _ (by rfl) w.heap.size _ (by rfl) (by rfl) HB1.out.seven HB1.out.at (by rfl) (by rfl) ?_))
  have hf := HB1.out.fin HI.out _ rfl
  exact ret_box rfl rfl rfl hf.1 rfl hf.2
set_option maxRecDepth 1000000 in
set_option maxHeartbeats 2000000 in
theorem state_escape2 (w : World) (g : Nat) (S : PS) (b : UInt8) (h : ParAt w g S) (hst : S.st = 2) : Calls Tryd.prog 68 #[.pointer (some ⟨g, 0, none⟩), .int .u8 b.toNat] w (StepPost w g (inEscapeP S b).1 (inEscapeP S b).2) := by
  have HB := Lib.hid (BoxW.start h #[.int .i64 0, .int .i32 0, .int .u8 0, .int .u8 0, .slice none 0 0, .string ⟨#[]⟩, .string ⟨#[]⟩] rfl)
  have CC := Lib.hid fun W => class_any b W
  have CS := Lib.hid fun W (hW : ParAt W g S) => inEscape_any W g S b hW
  clear h
  go_enter Tryd.func68, Tryd.ntmps68
  go_upto_region 1 with (fail)
  generalize w.alloc (.cells #[.int .i64 0, .int .i32 0, .int .u8 0, .int .u8 0, .slice none 0 0, .string ⟨#[]⟩, .string ⟨#[]⟩] 39) = W at *
  have c1 := HB.out.par.st
  rw [hst] at c1
  go_wp2_with (first
    | (go_at_call 81; refine (CC.out _).mono ?_; rintro e w1 ⟨rfl, rfl⟩)
    | (go_at_call 84; refine (CS.out _ HB.out.par).mono ?_; rintro e w1 ⟨pv, rfl, hi1, hp1, ht1⟩; obtain ⟨A, cp, rfl, _⟩ := own_form hi1; have HI := Lib.hid (own_less hi1 (B' := w.heap.size) (Nat.le_of_lt HB.out.size)); have HB1 := Lib.hid (HB.out.call ht1 hp1); clear hi1 hp1 ht1)
    | (refine wpList_store_act (by rfl) _ _ (by rfl) w.heap.size _ (by rfl) (by rfl) HB1.out.seven HB1.out.at (by rfl) (by rfl) ?_))
  have hf := HB1.out.fin HI.out _ rfl
  exact ret_box rfl rfl rfl hf.1 rfl hf.2
set_option maxRecDepth 1000000 in
set_option maxHeartbeats 2000000 in
theorem state_priv (w : World) (g : Nat) (S : PS) (b : UInt8) (h : ParAt w g S) (hst : S.st = 3 ∨ S.st = 7) (hk : classP b = 4) : Calls Tryd.prog 68 #[.pointer (some ⟨g, 0, none⟩), .int .u8 b.toNat] w (StepPost w g (enterP { S with priv := b } 4) noneA) := by
  have HB := Lib.hid (BoxW.start h #[.int .i64 0, .int .i32 0, .int .u8 0, .int .u8 0, .slice none 0 0, .string ⟨#[]⟩, .string ⟨#[]⟩] rfl)
  have CC := Lib.hid fun W => class_any b W
  rw [hk] at CC
  have CN := Lib.hid fun W (hW : ParAt W g { S with priv := b }) => enter_any W g _ 4 hW (by omega)
  clear h
  rcases hst with hst | hst
  · go_enter Tryd.func68, Tryd.ntmps68
    go_upto_region 1 with (fail)
    generalize w.alloc (.cells #[.int .i64 0, .int .i32 0, .int .u8 0, .int .u8 0, .slice none 0 0, .string ⟨#[]⟩, .string ⟨#[]⟩] 39) = W at *
    have c1 := HB.out.par.st
    rw [hst] at c1
    have c7 := HB.out.par.privC
    have f7 := HB.out.par.frozen 7
    have HB1 := Lib.hid (HB.out.setPriv b)
    go_wp2_with (first
      | (go_at_call 81; refine (CC.out _).mono ?_; rintro e w1 ⟨rfl, rfl⟩)
      | (go_at_call 85; refine (CN.out _ HB1.out.par).mono ?_; rintro e w2 ⟨rfl, hp2, ht2⟩; have HB2 := Lib.hid (HB1.out.call ht2 hp2); clear hp2 ht2)
      | (refine wpList_store_act (by rfl) _ _ (by rfl) w.heap.size _ (by rfl) (by rfl) HB2.out.seven HB2.out.at (by rfl) (by rfl) ?_))
    have hf := HB2.out.fin0 (noneA) rfl _ rfl
    exact ret_box rfl rfl rfl hf.1 rfl hf.2
  · go_enter Tryd.func68, Tryd.ntmps68
    go_upto_region 1 with (fail)
    generalize w.alloc (.cells #[.int .i64 0, .int .i32 0, .int .u8 0, .int .u8 0, .slice none 0 0, .string ⟨#[]⟩, .string ⟨#[]⟩] 39) = W at *
    have c1 := HB.out.par.st
    rw [hst] at c1
    have c7 := HB.out.par.privC
    have f7 := HB.out.par.frozen 7
    have HB1 := Lib.hid (HB.out.setPriv b)
    go_wp2_with (first
      | (go_at_call 81; refine (CC.out _).mono ?_; rintro e w1 ⟨rfl, rfl⟩)
      | (go_at_call 85; refine (CN.out _ HB1.out.par).mono ?_; rintro e w2 ⟨rfl, hp2, ht2⟩; have HB2 := Lib.hid (HB1.out.call ht2 hp2); clear hp2 ht2)
      | (refine wpList_store_act (by rfl) _ _ (by rfl) w.heap.size _ (by rfl) (by rfl) HB2.out.seven HB2.out.at (by rfl) (by rfl) ?_))
    have hf := HB2.out.fin0 (noneA) rfl _ rfl
    exact ret_box rfl rfl rfl hf.1 rfl hf.2
set_option maxRecDepth 1000000 in
set_option maxHeartbeats 2000000 in
theorem state_put (w : World) (g : Nat) (S : PS) (b : UInt8) (h : ParAt w g S) (hst : S.st = 3 ∨ S.st = 7 ∨ S.st = 4 ∨ S.st = 8) (hk : classP b = 2) : Calls Tryd.prog 68 #[.pointer (some ⟨g, 0, none⟩), .int .u8 b.toNat] w (StepPost w g (enterP (putParP S b) 4) noneA) := by
  have HB := Lib.hid (BoxW.start h #[.int .i64 0, .int .i32 0, .int .u8 0, .int .u8 0, .slice none 0 0, .string ⟨#[]⟩, .string ⟨#[]⟩] rfl)
  have CL := Lib.hid fun W (hW : ParAt W g S) => put_any' W g S b hW hk
  have CC := Lib.hid fun W => class_any b W
  rw [hk] at CC
  have CN := Lib.hid fun W (hW : ParAt W g (putParP S b)) => enter_any W g _ 4 hW (by omega)
  clear h
  rcases hst with hst | hst | hst | hst
  · go_enter Tryd.func68, Tryd.ntmps68
    go_upto_region 1 with (fail)
    generalize w.alloc (.cells #[.int .i64 0, .int .i32 0, .int .u8 0, .int .u8 0, .slice none 0 0, .string ⟨#[]⟩, .string ⟨#[]⟩] 39) = W at *
    have c1 := HB.out.par.st
    rw [hst] at c1
    go_wp2_with (first
      | (go_at_call 81; refine (CC.out _).mono ?_; rintro e w1 ⟨rfl, rfl⟩)
      | (go_at_call 86; refine (CL.out _ HB.out.par).mono ?_; rintro e w1 ⟨rfl, hp1, ht1⟩; have HB1 := Lib.hid (HB.out.call ht1 hp1); clear hp1 ht1)
      | (go_at_call 85; refine (CN.out _ HB1.out.par).mono ?_; rintro e w2 ⟨rfl, hp2, ht2⟩; have HB2 := Lib.hid (HB1.out.call ht2 hp2); clear hp2 ht2)
      | (refine wpList_store_act (by rfl) _ _ (by rfl) w.heap.size _ (by rfl) (by rfl) HB2.out.seven HB2.out.at (by rfl) (by rfl) ?_))
    have hf := HB2.out.fin0 (noneA) rfl _ rfl
    exact ret_box rfl rfl rfl hf.1 rfl hf.2
  · go_enter Tryd.func68, Tryd.ntmps68
    go_upto_region 1 with (fail)
    generalize w.alloc (.cells #[.int .i64 0, .int .i32 0, .int .u8 0, .int .u8 0, .slice none 0 0, .string ⟨#[]⟩, .string ⟨#[]⟩] 39) = W at *
    have c1 := HB.out.par.st
    rw [hst] at c1
    go_wp2_with (first
      | (go_at_call 81; refine (CC.out _).mono ?_; rintro e w1 ⟨rfl, rfl⟩)
      | (go_at_call 86; refine (CL.out _ HB.out.par).mono ?_; rintro e w1 ⟨rfl, hp1, ht1⟩; have HB1 := Lib.hid (HB.out.call ht1 hp1); clear hp1 ht1)
      | (go_at_call 85; refine (CN.out _ HB1.out.par).mono ?_; rintro e w2 ⟨rfl, hp2, ht2⟩; have HB2 := Lib.hid (HB1.out.call ht2 hp2); clear hp2 ht2)
      | (refine wpList_store_act (by rfl) _ _ (by rfl) w.heap.size _ (by rfl) (by rfl) HB2.out.seven HB2.out.at (by rfl) (by rfl) ?_))
    have hf := HB2.out.fin0 (noneA) rfl _ rfl
    exact ret_box rfl rfl rfl hf.1 rfl hf.2
  · go_enter Tryd.func68, Tryd.ntmps68
    go_upto_region 1 with (fail)
    generalize w.alloc (.cells #[.int .i64 0, .int .i32 0, .int .u8 0, .int .u8 0, .slice none 0 0, .string ⟨#[]⟩, .string ⟨#[]⟩] 39) = W at *
    have c1 := HB.out.par.st
    rw [hst] at c1
    go_wp2_with (first
      | (go_at_call 81; refine (CC.out _).mono ?_; rintro e w1 ⟨rfl, rfl⟩)
      | (go_at_call 86; refine (CL.out _ HB.out.par).mono ?_; rintro e w1 ⟨rfl, hp1, ht1⟩; have HB1 := Lib.hid (HB.out.call ht1 hp1); clear hp1 ht1)
      | (go_at_call 85; refine (CN.out _ HB1.out.par).mono ?_; rintro e w2 ⟨rfl, hp2, ht2⟩; have HB2 := Lib.hid (HB1.out.call ht2 hp2); clear hp2 ht2)
      | (refine wpList_store_act (by rfl) _ _ (by rfl) w.heap.size _ (by rfl) (by rfl) HB2.out.seven HB2.out.at (by rfl) (by rfl) ?_))
    have hf := HB2.out.fin0 (noneA) rfl _ rfl
    exact ret_box rfl rfl rfl hf.1 rfl hf.2
  · go_enter Tryd.func68, Tryd.ntmps68
    go_upto_region 1 with (fail)
    generalize w.alloc (.cells #[.int .i64 0, .int .i32 0, .int .u8 0, .int .u8 0, .slice none 0 0, .string ⟨#[]⟩, .string ⟨#[]⟩] 39) = W at *
    have c1 := HB.out.par.st
    rw [hst] at c1
    go_wp2_with (first
      | (go_at_call 81; refine (CC.out _).mono ?_; rintro e w1 ⟨rfl, rfl⟩)
      | (go_at_call 86; refine (CL.out _ HB.out.par).mono ?_; rintro e w1 ⟨rfl, hp1, ht1⟩; have HB1 := Lib.hid (HB.out.call ht1 hp1); clear hp1 ht1)
      | (go_at_call 85; refine (CN.out _ HB1.out.par).mono ?_; rintro e w2 ⟨rfl, hp2, ht2⟩; have HB2 := Lib.hid (HB1.out.call ht2 hp2); clear hp2 ht2)
      | (refine wpList_store_act (by rfl) _ _ (by rfl) w.heap.size _ (by rfl) (by rfl) HB2.out.seven HB2.out.at (by rfl) (by rfl) ?_))
    have hf := HB2.out.fin0 (noneA) rfl _ rfl
    exact ret_box rfl rfl rfl hf.1 rfl hf.2
set_option maxRecDepth 1000000 in
set_option maxHeartbeats 2000000 in
theorem state_text (w : World) (g : Nat) (S : PS) (b : UInt8) (h : ParAt w g S) (hst : S.st = 11) (hb : b ≠ 127) : Calls Tryd.prog 68 #[.pointer (some ⟨g, 0, none⟩), .int .u8 b.toNat] w (StepPost w g (addTextP S b) noneA) := by
  have HB := Lib.hid (BoxW.start h #[.int .i64 0, .int .i32 0, .int .u8 0, .int .u8 0, .slice none 0 0, .string ⟨#[]⟩, .string ⟨#[]⟩] rfl)
  have CC := Lib.hid fun W => class_any b W
  have CL := Lib.hid fun W (hW : ParAt W g S) => addText_any W g S b hW
  have hne : ((b.toNat : Int) == 127) = false := beq_eq_false_iff_ne.2 (fun x => hb ((u8_eq b 127 (by omega)).2 (by omega)))
  clear hb
  clear h
  go_enter Tryd.func68, Tryd.ntmps68
  go_upto_region 1 with (fail)
  generalize w.alloc (.cells #[.int .i64 0, .int .i32 0, .int .u8 0, .int .u8 0, .slice none 0 0, .string ⟨#[]⟩, .string ⟨#[]⟩] 39) = W at *
  have c1 := HB.out.par.st
  rw [hst] at c1
  go_wp2_with (first
    | (go_at_call 81; refine (CC.out _).mono ?_; rintro e w1 ⟨rfl, rfl⟩)
    | (go_at_call 89; refine (CL.out _ HB.out.par).mono ?_; rintro e w1 ⟨rfl, hp1, ht1⟩; have HB1 := Lib.hid (HB.out.call ht1 hp1); clear hp1 ht1)
    | (refine wpList_store_act (by rfl) _ _ (by rfl) w.heap.size _ (by rfl) (by rfl) HB1.out.seven HB1.out.at (by rfl) (by rfl) ?_))
  have hf := HB1.out.fin0 (noneA) rfl _ rfl
  exact ret_box rfl rfl rfl hf.1 rfl hf.2
set_option maxRecDepth 1000000 in
set_option maxHeartbeats 2000000 in
theorem state_del (w : World) (g : Nat) (S : PS) (b : UInt8) (h : ParAt w g S) (hst : S.st = 11) (hb : b = 127) : Calls Tryd.prog 68 #[.pointer (some ⟨g, 0, none⟩), .int .u8 b.toNat] w (StepPost w g S noneA) := by
  have HB := Lib.hid (BoxW.start h #[.int .i64 0, .int .i32 0, .int .u8 0, .int .u8 0, .slice none 0 0, .string ⟨#[]⟩, .string ⟨#[]⟩] rfl)
  have CC := Lib.hid fun W => class_any b W
  have hne : ((b.toNat : Int) == 127) = true := by rw [(u8_eq b 127 (by omega)).1 hb]; rfl
  clear hb
  clear h
  go_enter Tryd.func68, Tryd.ntmps68
  go_upto_region 1 with (fail)
  generalize w.alloc (.cells #[.int .i64 0, .int .i32 0, .int .u8 0, .int .u8 0, .slice none 0 0, .string ⟨#[]⟩, .string ⟨#[]⟩] 39) = W at *
  have c1 := HB.out.par.st
  rw [hst] at c1
  go_wp2_with (first
    | (go_at_call 81; refine (CC.out _).mono ?_; rintro e w1 ⟨rfl, rfl⟩)
    | (refine wpList_store_act (by rfl) _ _ (by rfl) w.heap.size _ (by rfl) (by rfl) HB.out.seven HB.out.at (by rfl) (by rfl) ?_))
  have hf := HB.out.fin0 (noneA) rfl _ rfl
  exact ret_box rfl rfl rfl hf.1 rfl hf.2
set_option maxRecDepth 1000000 in
set_option maxHeartbeats 2000000 in
theorem state_osc (w : World) (g : Nat) (S : PS) (b : UInt8) (h : ParAt w g S) (hst : S.st = 12) : Calls Tryd.prog 68 #[.pointer (some ⟨g, 0, none⟩), .int .u8 b.toNat] w (StepPost w g (inOscP S b).1 (inOscP S b).2) := by
  have HB := Lib.hid (BoxW.start h #[.int .i64 0, .int .i32 0, .int .u8 0, .int .u8 0, .slice none 0 0, .string ⟨#[]⟩, .string ⟨#[]⟩] rfl)
  have CC := Lib.hid fun W => class_any b W
  have CS := Lib.hid fun W (hW : ParAt W g S) => inOsc_any W g S b hW
  clear h
  go_enter Tryd.func68, Tryd.ntmps68
  go_upto_region 1 with (fail)
  generalize w.alloc (.cells #[.int .i64 0, .int .i32 0, .int .u8 0, .int .u8 0, .slice none 0 0, .string ⟨#[]⟩, .string ⟨#[]⟩] 39) = W at *
  have c1 := HB.out.par.st
  rw [hst] at c1
  go_wp2_with (first
    | (go_at_call 81; refine (CC.out _).mono ?_; rintro e w1 ⟨rfl, rfl⟩)
    | (go_at_call 90; refine (CS.out _ HB.out.par).mono ?_; rintro e w1 ⟨pv, rfl, hi1, hp1, ht1⟩; obtain ⟨A, cp, rfl, _⟩ := own_form hi1; have HI := Lib.hid (own_less hi1 (B' := w.heap.size) (Nat.le_of_lt HB.out.size)); have HB1 := Lib.hid (HB.out.call ht1 hp1); clear hi1 hp1 ht1)
    | (refine wpList_store_act (by rfl) _ _ (by rfl) w.heap.size _ (by rfl) (by rfl) HB1.out.seven HB1.out.at (by rfl) (by rfl) ?_))
  have hf := HB1.out.fin HI.out _ rfl
  exact ret_box rfl rfl rfl hf.1 rfl hf.2
set_option maxRecDepth 1000000 in
set_option maxHeartbeats 2000000 in
theorem state_pass (w : World) (g : Nat) (S : PS) (b : UInt8) (h : ParAt w g S) (hst : S.st = 13) : Calls Tryd.prog 68 #[.pointer (some ⟨g, 0, none⟩), .int .u8 b.toNat] w (StepPost w g S noneA) := by
  have HB := Lib.hid (BoxW.start h #[.int .i64 0, .int .i32 0, .int .u8 0, .int .u8 0, .slice none 0 0, .string ⟨#[]⟩, .string ⟨#[]⟩] rfl)
  have CC := Lib.hid fun W => class_any b W
  clear h
  go_enter Tryd.func68, Tryd.ntmps68
  go_upto_region 1 with (fail)
  generalize w.alloc (.cells #[.int .i64 0, .int .i32 0, .int .u8 0, .int .u8 0, .slice none 0 0, .string ⟨#[]⟩, .string ⟨#[]⟩] 39) = W at *
  have c1 := HB.out.par.st
  rw [hst] at c1
  go_wp2_with (first
    | (go_at_call 81; refine (CC.out _).mono ?_; rintro e w1 ⟨rfl, rfl⟩)
    | (refine wpList_store_act (by rfl) _ _ (by rfl) w.heap.size _ (by rfl) (by rfl) HB.out.seven HB.out.at (by rfl) (by rfl) ?_))
  have hf := HB.out.fin0 (noneA) rfl _ rfl
  exact ret_box rfl rfl rfl hf.1 rfl hf.2
end Go.Proofs.YtjoiagaadofndaaDoor
