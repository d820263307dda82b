/-
  What one byte does that does not mean the same in every state, by states (part C).
-/
import Derived.Test.YtjoiagaadofndaaDoorVpSeq
namespace Go.Proofs.YtjoiagaadofndaaDoor
open Go.RowKit Go.Shelf Go.Lib
attribute [local go_sem] Oper.semAt_some

set_option maxRecDepth 1000000 in
set_option maxHeartbeats 2000000 in
theorem state_inter (w : World) (g : Nat) (S : PS) (b : UInt8) (h : ParAt w g S) (hst : S.st = 3 ∨ S.st = 7 ∨ S.st = 4 ∨ S.st = 8 ∨ S.st = 5 ∨ S.st = 9) (hk : classP b = 1) : Calls Tryd.prog 68 #[.pointer (some ⟨g, 0, none⟩), .int .u8 b.toNat] w (StepPost w g (enterP (addInterP S b) 5) noneA) := by
  have HB := Lib.hid (BoxW.start h #[.int .i64 0, .int .i32 0, .int .u8 0, .int .u8 0, .slice none 0 0, .string ⟨#[]⟩, .string ⟨#[]⟩] rfl)
  have CL := Lib.hid fun W (hW : ParAt W g S) => addInter_any W g S b hW
  have CC := Lib.hid fun W => class_any b W
  rw [hk] at CC
  have CN := Lib.hid fun W (hW : ParAt W g (addInterP S b)) => enter_any W g _ 5 hW (by omega)
  clear h
  rcases hst with hst | hst | hst | hst | hst | hst
  · go_enter Tryd.func68, Tryd.ntmps68
    go_upto_region 1 with (fail)
    generalize w.alloc (.cells #[.int .i64 0, .int .i32 0, .int .u8 0, .int .u8 0, .slice none 0 0, .string ⟨#[]⟩, .string ⟨#[]⟩] 39) = W at *
    have c1 := HB.out.par.st
    rw [hst] at c1
    go_wp2_with (first
      | (go_at_call 81; refine (CC.out _).mono ?_; rintro e w1 ⟨rfl, rfl⟩)
      | (go_at_call 87; refine (CL.out _ HB.out.par).mono ?_; rintro e w1 ⟨rfl, hp1, ht1⟩; have HB1 := Lib.hid (HB.out.call ht1 hp1); clear hp1 ht1)
      | (go_at_call 85; refine (CN.out _ HB1.out.par).mono ?_; rintro e w2 ⟨rfl, hp2, ht2⟩; have HB2 := Lib.hid (HB1.out.call ht2 hp2); clear hp2 ht2)
      | (refine wpList_store_act (by rfl) _ _ (by rfl) w.heap.size _ (by rfl) (by rfl) HB2.out.seven HB2.out.at (by rfl) (by rfl) ?_))
    have hf := HB2.out.fin0 (noneA) rfl _ rfl
    exact ret_box rfl rfl rfl hf.1 rfl hf.2
  · go_enter Tryd.func68, Tryd.ntmps68
    go_upto_region 1 with (fail)
    generalize w.alloc (.cells #[.int .i64 0, .int .i32 0, .int .u8 0, .int .u8 0, .slice none 0 0, .string ⟨#[]⟩, .string ⟨#[]⟩] 39) = W at *
    have c1 := HB.out.par.st
    rw [hst] at c1
    go_wp2_with (first
      | (go_at_call 81; refine (CC.out _).mono ?_; rintro e w1 ⟨rfl, rfl⟩)
      | (go_at_call 87; refine (CL.out _ HB.out.par).mono ?_; rintro e w1 ⟨rfl, hp1, ht1⟩; have HB1 := Lib.hid (HB.out.call ht1 hp1); clear hp1 ht1)
      | (go_at_call 85; refine (CN.out _ HB1.out.par).mono ?_; rintro e w2 ⟨rfl, hp2, ht2⟩; have HB2 := Lib.hid (HB1.out.call ht2 hp2); clear hp2 ht2)
      | (refine wpList_store_act (by rfl) _ _ (by rfl) w.heap.size _ (by rfl) (by rfl) HB2.out.seven HB2.out.at (by rfl) (by rfl) ?_))
    have hf := HB2.out.fin0 (noneA) rfl _ rfl
    exact ret_box rfl rfl rfl hf.1 rfl hf.2
  · go_enter Tryd.func68, Tryd.ntmps68
    go_upto_region 1 with (fail)
    generalize w.alloc (.cells #[.int .i64 0, .int .i32 0, .int .u8 0, .int .u8 0, .slice none 0 0, .string ⟨#[]⟩, .string ⟨#[]⟩] 39) = W at *
    have c1 := HB.out.par.st
    rw [hst] at c1
    go_wp2_with (first
      | (go_at_call 81; refine (CC.out _).mono ?_; rintro e w1 ⟨rfl, rfl⟩)
      | (go_at_call 87; refine (CL.out _ HB.out.par).mono ?_; rintro e w1 ⟨rfl, hp1, ht1⟩; have HB1 := Lib.hid (HB.out.call ht1 hp1); clear hp1 ht1)
      | (go_at_call 85; refine (CN.out _ HB1.out.par).mono ?_; rintro e w2 ⟨rfl, hp2, ht2⟩; have HB2 := Lib.hid (HB1.out.call ht2 hp2); clear hp2 ht2)
      | (refine wpList_store_act (by rfl) _ _ (by rfl) w.heap.size _ (by rfl) (by rfl) HB2.out.seven HB2.out.at (by rfl) (by rfl) ?_))
    have hf := HB2.out.fin0 (noneA) rfl _ rfl
    exact ret_box rfl rfl rfl hf.1 rfl hf.2
  · go_enter Tryd.func68, Tryd.ntmps68
    go_upto_region 1 with (fail)
    generalize w.alloc (.cells #[.int .i64 0, .int .i32 0, .int .u8 0, .int .u8 0, .slice none 0 0, .string ⟨#[]⟩, .string ⟨#[]⟩] 39) = W at *
    have c1 := HB.out.par.st
    rw [hst] at c1
    go_wp2_with (first
      | (go_at_call 81; refine (CC.out _).mono ?_; rintro e w1 ⟨rfl, rfl⟩)
      | (go_at_call 87; refine (CL.out _ HB.out.par).mono ?_; rintro e w1 ⟨rfl, hp1, ht1⟩; have HB1 := Lib.hid (HB.out.call ht1 hp1); clear hp1 ht1)
      | (go_at_call 85; refine (CN.out _ HB1.out.par).mono ?_; rintro e w2 ⟨rfl, hp2, ht2⟩; have HB2 := Lib.hid (HB1.out.call ht2 hp2); clear hp2 ht2)
      | (refine wpList_store_act (by rfl) _ _ (by rfl) w.heap.size _ (by rfl) (by rfl) HB2.out.seven HB2.out.at (by rfl) (by rfl) ?_))
    have hf := HB2.out.fin0 (noneA) rfl _ rfl
    exact ret_box rfl rfl rfl hf.1 rfl hf.2
  · go_enter Tryd.func68, Tryd.ntmps68
    go_upto_region 1 with (fail)
    generalize w.alloc (.cells #[.int .i64 0, .int .i32 0, .int .u8 0, .int .u8 0, .slice none 0 0, .string ⟨#[]⟩, .string ⟨#[]⟩] 39) = W at *
    have c1 := HB.out.par.st
    rw [hst] at c1
    go_wp2_with (first
      | (go_at_call 81; refine (CC.out _).mono ?_; rintro e w1 ⟨rfl, rfl⟩)
      | (go_at_call 87; refine (CL.out _ HB.out.par).mono ?_; rintro e w1 ⟨rfl, hp1, ht1⟩; have HB1 := Lib.hid (HB.out.call ht1 hp1); clear hp1 ht1)
      | (go_at_call 85; refine (CN.out _ HB1.out.par).mono ?_; rintro e w2 ⟨rfl, hp2, ht2⟩; have HB2 := Lib.hid (HB1.out.call ht2 hp2); clear hp2 ht2)
      | (refine wpList_store_act (by rfl) _ _ (by rfl) w.heap.size _ (by rfl) (by rfl) HB2.out.seven HB2.out.at (by rfl) (by rfl) ?_))
    have hf := HB2.out.fin0 (noneA) rfl _ rfl
    exact ret_box rfl rfl rfl hf.1 rfl hf.2
  · go_enter Tryd.func68, Tryd.ntmps68
    go_upto_region 1 with (fail)
    generalize w.alloc (.cells #[.int .i64 0, .int .i32 0, .int .u8 0, .int .u8 0, .slice none 0 0, .string ⟨#[]⟩, .string ⟨#[]⟩] 39) = W at *
    have c1 := HB.out.par.st
    rw [hst] at c1
    go_wp2_with (first
      | (go_at_call 81; refine (CC.out _).mono ?_; rintro e w1 ⟨rfl, rfl⟩)
      | (go_at_call 87; refine (CL.out _ HB.out.par).mono ?_; rintro e w1 ⟨rfl, hp1, ht1⟩; have HB1 := Lib.hid (HB.out.call ht1 hp1); clear hp1 ht1)
      | (go_at_call 85; refine (CN.out _ HB1.out.par).mono ?_; rintro e w2 ⟨rfl, hp2, ht2⟩; have HB2 := Lib.hid (HB1.out.call ht2 hp2); clear hp2 ht2)
      | (refine wpList_store_act (by rfl) _ _ (by rfl) w.heap.size _ (by rfl) (by rfl) HB2.out.seven HB2.out.at (by rfl) (by rfl) ?_))
    have hf := HB2.out.fin0 (noneA) rfl _ rfl
    exact ret_box rfl rfl rfl hf.1 rfl hf.2
set_option maxRecDepth 1000000 in
set_option maxHeartbeats 2000000 in
theorem state_colon (w : World) (g : Nat) (S : PS) (b : UInt8) (h : ParAt w g S) (hst : S.st = 3 ∨ S.st = 7 ∨ S.st = 4 ∨ S.st = 8 ∨ S.st = 5 ∨ S.st = 9) (hk : classP b = 3) : Calls Tryd.prog 68 #[.pointer (some ⟨g, 0, none⟩), .int .u8 b.toNat] w (StepPost w g (enterP S 6) noneA) := by
  have HB := Lib.hid (BoxW.start h #[.int .i64 0, .int .i32 0, .int .u8 0, .int .u8 0, .slice none 0 0, .string ⟨#[]⟩, .string ⟨#[]⟩] rfl)
  have CC := Lib.hid fun W => class_any b W
  rw [hk] at CC
  have CN := Lib.hid fun W (hW : ParAt W g S) => enter_any W g _ 6 hW (by omega)
  clear h
  rcases hst with hst | hst | hst | hst | hst | hst
  · go_enter Tryd.func68, Tryd.ntmps68
    go_upto_region 1 with (fail)
    generalize w.alloc (.cells #[.int .i64 0, .int .i32 0, .int .u8 0, .int .u8 0, .slice none 0 0, .string ⟨#[]⟩, .string ⟨#[]⟩] 39) = W at *
    have c1 := HB.out.par.st
    rw [hst] at c1
    go_wp2_with (first
      | (go_at_call 81; refine (CC.out _).mono ?_; rintro e w1 ⟨rfl, rfl⟩)
      | (go_at_call 85; refine (CN.out _ HB.out.par).mono ?_; rintro e w2 ⟨rfl, hp2, ht2⟩; have HB2 := Lib.hid (HB.out.call ht2 hp2); clear hp2 ht2)
      | (refine wpList_store_act (by rfl) _ _ (by rfl) w.heap.size _ (by rfl) (by rfl) HB2.out.seven HB2.out.at (by rfl) (by rfl) ?_))
    have hf := HB2.out.fin0 (noneA) rfl _ rfl
    exact ret_box rfl rfl rfl hf.1 rfl hf.2
  · go_enter Tryd.func68, Tryd.ntmps68
    go_upto_region 1 with (fail)
    generalize w.alloc (.cells #[.int .i64 0, .int .i32 0, .int .u8 0, .int .u8 0, .slice none 0 0, .string ⟨#[]⟩, .string ⟨#[]⟩] 39) = W at *
    have c1 := HB.out.par.st
    rw [hst] at c1
    go_wp2_with (first
      | (go_at_call 81; refine (CC.out _).mono ?_; rintro e w1 ⟨rfl, rfl⟩)
      | (go_at_call 85; refine (CN.out _ HB.out.par).mono ?_; rintro e w2 ⟨rfl, hp2, ht2⟩; have HB2 := Lib.hid (HB.out.call ht2 hp2); clear hp2 ht2)
      | (refine wpList_store_act (by rfl) _ _ (by rfl) w.heap.size _ (by rfl) (by rfl) HB2.out.seven HB2.out.at (by rfl) (by rfl) ?_))
    have hf := HB2.out.fin0 (noneA) rfl _ rfl
    exact ret_box rfl rfl rfl hf.1 rfl hf.2
  · go_enter Tryd.func68, Tryd.ntmps68
    go_upto_region 1 with (fail)
    generalize w.alloc (.cells #[.int .i64 0, .int .i32 0, .int .u8 0, .int .u8 0, .slice none 0 0, .string ⟨#[]⟩, .string ⟨#[]⟩] 39) = W at *
    have c1 := HB.out.par.st
    rw [hst] at c1
    go_wp2_with (first
      | (go_at_call 81; refine (CC.out _).mono ?_; rintro e w1 ⟨rfl, rfl⟩)
      | (go_at_call 85; refine (CN.out _ HB.out.par).mono ?_; rintro e w2 ⟨rfl, hp2, ht2⟩; have HB2 := Lib.hid (HB.out.call ht2 hp2); clear hp2 ht2)
      | (refine wpList_store_act (by rfl) _ _ (by rfl) w.heap.size _ (by rfl) (by rfl) HB2.out.seven HB2.out.at (by rfl) (by rfl) ?_))
    have hf := HB2.out.fin0 (noneA) rfl _ rfl
    exact ret_box rfl rfl rfl hf.1 rfl hf.2
  · go_enter Tryd.func68, Tryd.ntmps68
    go_upto_region 1 with (fail)
    generalize w.alloc (.cells #[.int .i64 0, .int .i32 0, .int .u8 0, .int .u8 0, .slice none 0 0, .string ⟨#[]⟩, .string ⟨#[]⟩] 39) = W at *
    have c1 := HB.out.par.st
    rw [hst] at c1
    go_wp2_with (first
      | (go_at_call 81; refine (CC.out _).mono ?_; rintro e w1 ⟨rfl, rfl⟩)
      | (go_at_call 85; refine (CN.out _ HB.out.par).mono ?_; rintro e w2 ⟨rfl, hp2, ht2⟩; have HB2 := Lib.hid (HB.out.call ht2 hp2); clear hp2 ht2)
      | (refine wpList_store_act (by rfl) _ _ (by rfl) w.heap.size _ (by rfl) (by rfl) HB2.out.seven HB2.out.at (by rfl) (by rfl) ?_))
    have hf := HB2.out.fin0 (noneA) rfl _ rfl
    exact ret_box rfl rfl rfl hf.1 rfl hf.2
  · go_enter Tryd.func68, Tryd.ntmps68
    go_upto_region 1 with (fail)
    generalize w.alloc (.cells #[.int .i64 0, .int .i32 0, .int .u8 0, .int .u8 0, .slice none 0 0, .string ⟨#[]⟩, .string ⟨#[]⟩] 39) = W at *
    have c1 := HB.out.par.st
    rw [hst] at c1
    go_wp2_with (first
      | (go_at_call 81; refine (CC.out _).mono ?_; rintro e w1 ⟨rfl, rfl⟩)
      | (go_at_call 85; refine (CN.out _ HB.out.par).mono ?_; rintro e w2 ⟨rfl, hp2, ht2⟩; have HB2 := Lib.hid (HB.out.call ht2 hp2); clear hp2 ht2)
      | (refine wpList_store_act (by rfl) _ _ (by rfl) w.heap.size _ (by rfl) (by rfl) HB2.out.seven HB2.out.at (by rfl) (by rfl) ?_))
    have hf := HB2.out.fin0 (noneA) rfl _ rfl
    exact ret_box rfl rfl rfl hf.1 rfl hf.2
  · go_enter Tryd.func68, Tryd.ntmps68
    go_upto_region 1 with (fail)
    generalize w.alloc (.cells #[.int .i64 0, .int .i32 0, .int .u8 0, .int .u8 0, .slice none 0 0, .string ⟨#[]⟩, .string ⟨#[]⟩] 39) = W at *
    have c1 := HB.out.par.st
    rw [hst] at c1
    go_wp2_with (first
      | (go_at_call 81; refine (CC.out _).mono ?_; rintro e w1 ⟨rfl, rfl⟩)
      | (go_at_call 85; refine (CN.out _ HB.out.par).mono ?_; rintro e w2 ⟨rfl, hp2, ht2⟩; have HB2 := Lib.hid (HB.out.call ht2 hp2); clear hp2 ht2)
      | (refine wpList_store_act (by rfl) _ _ (by rfl) w.heap.size _ (by rfl) (by rfl) HB2.out.seven HB2.out.at (by rfl) (by rfl) ?_))
    have hf := HB2.out.fin0 (noneA) rfl _ rfl
    exact ret_box rfl rfl rfl hf.1 rfl hf.2
set_option maxRecDepth 1000000 in
set_option maxHeartbeats 2000000 in
theorem state_late (w : World) (g : Nat) (S : PS) (b : UInt8) (h : ParAt w g S) (hst : S.st = 4 ∨ S.st = 8 ∨ S.st = 5 ∨ S.st = 9) (hk : classP b = 4) : Calls Tryd.prog 68 #[.pointer (some ⟨g, 0, none⟩), .int .u8 b.toNat] w (StepPost w g (enterP S 6) noneA) := by
  have HB := Lib.hid (BoxW.start h #[.int .i64 0, .int .i32 0, .int .u8 0, .int .u8 0, .slice none 0 0, .string ⟨#[]⟩, .string ⟨#[]⟩] rfl)
  have CC := Lib.hid fun W => class_any b W
  rw [hk] at CC
  have CN := Lib.hid fun W (hW : ParAt W g S) => enter_any W g _ 6 hW (by omega)
  clear h
  rcases hst with hst | hst | hst | hst
  · go_enter Tryd.func68, Tryd.ntmps68
    go_upto_region 1 with (fail)
    generalize w.alloc (.cells #[.int .i64 0, .int .i32 0, .int .u8 0, .int .u8 0, .slice none 0 0, .string ⟨#[]⟩, .string ⟨#[]⟩] 39) = W at *
    have c1 := HB.out.par.st
    rw [hst] at c1
    go_wp2_with (first
      | (go_at_call 81; refine (CC.out _).mono ?_; rintro e w1 ⟨rfl, rfl⟩)
      | (go_at_call 85; refine (CN.out _ HB.out.par).mono ?_; rintro e w2 ⟨rfl, hp2, ht2⟩; have HB2 := Lib.hid (HB.out.call ht2 hp2); clear hp2 ht2)
      | (refine wpList_store_act (by rfl) _ _ (by rfl) w.heap.size _ (by rfl) (by rfl) HB2.out.seven HB2.out.at (by rfl) (by rfl) ?_))
    have hf := HB2.out.fin0 (noneA) rfl _ rfl
    exact ret_box rfl rfl rfl hf.1 rfl hf.2
  · go_enter Tryd.func68, Tryd.ntmps68
    go_upto_region 1 with (fail)
    generalize w.alloc (.cells #[.int .i64 0, .int .i32 0, .int .u8 0, .int .u8 0, .slice none 0 0, .string ⟨#[]⟩, .string ⟨#[]⟩] 39) = W at *
    have c1 := HB.out.par.st
    rw [hst] at c1
    go_wp2_with (first
      | (go_at_call 81; refine (CC.out _).mono ?_; rintro e w1 ⟨rfl, rfl⟩)
      | (go_at_call 85; refine (CN.out _ HB.out.par).mono ?_; rintro e w2 ⟨rfl, hp2, ht2⟩; have HB2 := Lib.hid (HB.out.call ht2 hp2); clear hp2 ht2)
      | (refine wpList_store_act (by rfl) _ _ (by rfl) w.heap.size _ (by rfl) (by rfl) HB2.out.seven HB2.out.at (by rfl) (by rfl) ?_))
    have hf := HB2.out.fin0 (noneA) rfl _ rfl
    exact ret_box rfl rfl rfl hf.1 rfl hf.2
  · go_enter Tryd.func68, Tryd.ntmps68
    go_upto_region 1 with (fail)
    generalize w.alloc (.cells #[.int .i64 0, .int .i32 0, .int .u8 0, .int .u8 0, .slice none 0 0, .string ⟨#[]⟩, .string ⟨#[]⟩] 39) = W at *
    have c1 := HB.out.par.st
    rw [hst] at c1
    go_wp2_with (first
      | (go_at_call 81; refine (CC.out _).mono ?_; rintro e w1 ⟨rfl, rfl⟩)
      | (go_at_call 85; refine (CN.out _ HB.out.par).mono ?_; rintro e w2 ⟨rfl, hp2, ht2⟩; have HB2 := Lib.hid (HB.out.call ht2 hp2); clear hp2 ht2)
      | (refine wpList_store_act (by rfl) _ _ (by rfl) w.heap.size _ (by rfl) (by rfl) HB2.out.seven HB2.out.at (by rfl) (by rfl) ?_))
    have hf := HB2.out.fin0 (noneA) rfl _ rfl
    exact ret_box rfl rfl rfl hf.1 rfl hf.2
  · go_enter Tryd.func68, Tryd.ntmps68
    go_upto_region 1 with (fail)
    generalize w.alloc (.cells #[.int .i64 0, .int .i32 0, .int .u8 0, .int .u8 0, .slice none 0 0, .string ⟨#[]⟩, .string ⟨#[]⟩] 39) = W at *
    have c1 := HB.out.par.st
    rw [hst] at c1
    go_wp2_with (first
      | (go_at_call 81; refine (CC.out _).mono ?_; rintro e w1 ⟨rfl, rfl⟩)
      | (go_at_call 85; refine (CN.out _ HB.out.par).mono ?_; rintro e w2 ⟨rfl, hp2, ht2⟩; have HB2 := Lib.hid (HB.out.call ht2 hp2); clear hp2 ht2)
      | (refine wpList_store_act (by rfl) _ _ (by rfl) w.heap.size _ (by rfl) (by rfl) HB2.out.seven HB2.out.at (by rfl) (by rfl) ?_))
    have hf := HB2.out.fin0 (noneA) rfl _ rfl
    exact ret_box rfl rfl rfl hf.1 rfl hf.2
set_option maxRecDepth 1000000 in
set_option maxHeartbeats 2000000 in
theorem state_num (w : World) (g : Nat) (S : PS) (b : UInt8) (h : ParAt w g S) (hst : S.st = 5 ∨ S.st = 9) (hk : classP b = 2) : Calls Tryd.prog 68 #[.pointer (some ⟨g, 0, none⟩), .int .u8 b.toNat] w (StepPost w g (enterP S 6) noneA) := by
  have HB := Lib.hid (BoxW.start h #[.int .i64 0, .int .i32 0, .int .u8 0, .int .u8 0, .slice none 0 0, .string ⟨#[]⟩, .string ⟨#[]⟩] rfl)
  have CC := Lib.hid fun W => class_any b W
  rw [hk] at CC
  have CN := Lib.hid fun W (hW : ParAt W g S) => enter_any W g _ 6 hW (by omega)
  clear h
  rcases hst with hst | hst
  · go_enter Tryd.func68, Tryd.ntmps68
    go_upto_region 1 with (fail)
    generalize w.alloc (.cells #[.int .i64 0, .int .i32 0, .int .u8 0, .int .u8 0, .slice none 0 0, .string ⟨#[]⟩, .string ⟨#[]⟩] 39) = W at *
    have c1 := HB.out.par.st
    rw [hst] at c1
    go_wp2_with (first
      | (go_at_call 81; refine (CC.out _).mono ?_; rintro e w1 ⟨rfl, rfl⟩)
      | (go_at_call 85; refine (CN.out _ HB.out.par).mono ?_; rintro e w2 ⟨rfl, hp2, ht2⟩; have HB2 := Lib.hid (HB.out.call ht2 hp2); clear hp2 ht2)
      | (refine wpList_store_act (by rfl) _ _ (by rfl) w.heap.size _ (by rfl) (by rfl) HB2.out.seven HB2.out.at (by rfl) (by rfl) ?_))
    have hf := HB2.out.fin0 (noneA) rfl _ rfl
    exact ret_box rfl rfl rfl hf.1 rfl hf.2
  · go_enter Tryd.func68, Tryd.ntmps68
    go_upto_region 1 with (fail)
    generalize w.alloc (.cells #[.int .i64 0, .int .i32 0, .int .u8 0, .int .u8 0, .slice none 0 0, .string ⟨#[]⟩, .string ⟨#[]⟩] 39) = W at *
    have c1 := HB.out.par.st
    rw [hst] at c1
    go_wp2_with (first
      | (go_at_call 81; refine (CC.out _).mono ?_; rintro e w1 ⟨rfl, rfl⟩)
      | (go_at_call 85; refine (CN.out _ HB.out.par).mono ?_; rintro e w2 ⟨rfl, hp2, ht2⟩; have HB2 := Lib.hid (HB.out.call ht2 hp2); clear hp2 ht2)
      | (refine wpList_store_act (by rfl) _ _ (by rfl) w.heap.size _ (by rfl) (by rfl) HB2.out.seven HB2.out.at (by rfl) (by rfl) ?_))
    have hf := HB2.out.fin0 (noneA) rfl _ rfl
    exact ret_box rfl rfl rfl hf.1 rfl hf.2
set_option maxRecDepth 1000000 in
set_option maxHeartbeats 2000000 in
theorem state_ignore (w : World) (g : Nat) (S : PS) (b : UInt8) (h : ParAt w g S) (hst : S.st = 6 ∨ S.st = 10) : Calls Tryd.prog 68 #[.pointer (some ⟨g, 0, none⟩), .int .u8 b.toNat] w (StepPost w g (inSeqP S b).1 (inSeqP S b).2) := by
  have HB := Lib.hid (BoxW.start h #[.int .i64 0, .int .i32 0, .int .u8 0, .int .u8 0, .slice none 0 0, .string ⟨#[]⟩, .string ⟨#[]⟩] rfl)
  have CC := Lib.hid fun W => class_any b W
  have CS := Lib.hid fun W (hW : ParAt W g S) => inSeq_any W g S b hW
  clear h
  rcases hst with hst | hst
  · go_enter Tryd.func68, Tryd.ntmps68
    go_upto_region 1 with (fail)
    generalize w.alloc (.cells #[.int .i64 0, .int .i32 0, .int .u8 0, .int .u8 0, .slice none 0 0, .string ⟨#[]⟩, .string ⟨#[]⟩] 39) = W at *
    have c1 := HB.out.par.st
    rw [hst] at c1
    go_wp2_with (first
      | (go_at_call 81; refine (CC.out _).mono ?_; rintro e w1 ⟨rfl, rfl⟩)
      | (go_at_call 88; refine (CS.out _ HB.out.par).mono ?_; rintro e w1 ⟨pv, rfl, hi1, hp1, ht1⟩; obtain ⟨A, cp, rfl, _⟩ := own_form hi1; have HI := Lib.hid (own_less hi1 (B' := w.heap.size) (Nat.le_of_lt HB.out.size)); have HB1 := Lib.hid (HB.out.call ht1 hp1); clear hi1 hp1 ht1)
      | (refine wpList_store_act (by rfl) _ _ (by rfl) w.heap.size _ (by rfl) (by rfl) HB1.out.seven HB1.out.at (by rfl) (by rfl) ?_))
    have hf := HB1.out.fin HI.out _ rfl
    exact ret_box rfl rfl rfl hf.1 rfl hf.2
  · go_enter Tryd.func68, Tryd.ntmps68
    go_upto_region 1 with (fail)
    generalize w.alloc (.cells #[.int .i64 0, .int .i32 0, .int .u8 0, .int .u8 0, .slice none 0 0, .string ⟨#[]⟩, .string ⟨#[]⟩] 39) = W at *
    have c1 := HB.out.par.st
    rw [hst] at c1
    go_wp2_with (first
      | (go_at_call 81; refine (CC.out _).mono ?_; rintro e w1 ⟨rfl, rfl⟩)
      | (go_at_call 88; refine (CS.out _ HB.out.par).mono ?_; rintro e w1 ⟨pv, rfl, hi1, hp1, ht1⟩; obtain ⟨A, cp, rfl, _⟩ := own_form hi1; have HI := Lib.hid (own_less hi1 (B' := w.heap.size) (Nat.le_of_lt HB.out.size)); have HB1 := Lib.hid (HB.out.call ht1 hp1); clear hi1 hp1 ht1)
      | (refine wpList_store_act (by rfl) _ _ (by rfl) w.heap.size _ (by rfl) (by rfl) HB1.out.seven HB1.out.at (by rfl) (by rfl) ?_))
    have hf := HB1.out.fin HI.out _ rfl
    exact ret_box rfl rfl rfl hf.1 rfl hf.2
set_option maxRecDepth 1000000 in
set_option maxHeartbeats 2000000 in
theorem state_seq0 (w : World) (g : Nat) (S : PS) (b : UInt8) (h : ParAt w g S) (hst : S.st = 3 ∨ S.st = 7 ∨ S.st = 4 ∨ S.st = 8 ∨ S.st = 5 ∨ S.st = 9) (hk : classP b = 0) : Calls Tryd.prog 68 #[.pointer (some ⟨g, 0, none⟩), .int .u8 b.toNat] w (StepPost w g (inSeqP S b).1 (inSeqP S b).2) := by
  have HB := Lib.hid (BoxW.start h #[.int .i64 0, .int .i32 0, .int .u8 0, .int .u8 0, .slice none 0 0, .string ⟨#[]⟩, .string ⟨#[]⟩] rfl)
  have CS := Lib.hid fun W (hW : ParAt W g S) => inSeq_any W g S b hW
  rw [hk] at CS
  have CC := Lib.hid fun W => class_any b W
  rw [hk] at CC
  clear h
  rcases hst with hst | hst | hst | hst | hst | hst
  · go_enter Tryd.func68, Tryd.ntmps68
    go_upto_region 1 with (fail)
    generalize w.alloc (.cells #[.int .i64 0, .int .i32 0, .int .u8 0, .int .u8 0, .slice none 0 0, .string ⟨#[]⟩, .string ⟨#[]⟩] 39) = W at *
    have c1 := HB.out.par.st
    rw [hst] at c1
    go_wp2_with (first
      | (go_at_call 81; refine (CC.out _).mono ?_; rintro e w1 ⟨rfl, rfl⟩)
      | (go_at_call 88; refine (CS.out _ HB.out.par).mono ?_; rintro e w1 ⟨pv, rfl, hi1, hp1, ht1⟩; obtain ⟨A, cp, rfl, _⟩ := own_form hi1; have HI := Lib.hid (own_less hi1 (B' := w.heap.size) (Nat.le_of_lt HB.out.size)); have HB1 := Lib.hid (HB.out.call ht1 hp1); clear hi1 hp1 ht1)
      | (refine wpList_store_act (by rfl) _ _ (by rfl) w.heap.size _ (by rfl) (by rfl) HB1.out.seven HB1.out.at (by rfl) (by rfl) ?_))
    have hf := HB1.out.fin HI.out _ rfl
    exact ret_box rfl rfl rfl hf.1 rfl hf.2
  · go_enter Tryd.func68, Tryd.ntmps68
    go_upto_region 1 with (fail)
    generalize w.alloc (.cells #[.int .i64 0, .int .i32 0, .int .u8 0, .int .u8 0, .slice none 0 0, .string ⟨#[]⟩, .string ⟨#[]⟩] 39) = W at *
    have c1 := HB.out.par.st
    rw [hst] at c1
    go_wp2_with (first
      | (go_at_call 81; refine (CC.out _).mono ?_; rintro e w1 ⟨rfl, rfl⟩)
      | (go_at_call 88; refine (CS.out _ HB.out.par).mono ?_; rintro e w1 ⟨pv, rfl, hi1, hp1, ht1⟩; obtain ⟨A, cp, rfl, _⟩ := own_form hi1; have HI := Lib.hid (own_less hi1 (B' := w.heap.size) (Nat.le_of_lt HB.out.size)); have HB1 := Lib.hid (HB.out.call ht1 hp1); clear hi1 hp1 ht1)
      | (refine wpList_store_act (by rfl) _ _ (by rfl) w.heap.size _ (by rfl) (by rfl) HB1.out.seven HB1.out.at (by rfl) (by rfl) ?_))
    have hf := HB1.out.fin HI.out _ rfl
    exact ret_box rfl rfl rfl hf.1 rfl hf.2
  · go_enter Tryd.func68, Tryd.ntmps68
    go_upto_region 1 with (fail)
    generalize w.alloc (.cells #[.int .i64 0, .int .i32 0, .int .u8 0, .int .u8 0, .slice none 0 0, .string ⟨#[]⟩, .string ⟨#[]⟩] 39) = W at *
    have c1 := HB.out.par.st
    rw [hst] at c1
    go_wp2_with (first
      | (go_at_call 81; refine (CC.out _).mono ?_; rintro e w1 ⟨rfl, rfl⟩)
      | (go_at_call 88; refine (CS.out _ HB.out.par).mono ?_; rintro e w1 ⟨pv, rfl, hi1, hp1, ht1⟩; obtain ⟨A, cp, rfl, _⟩ := own_form hi1; have HI := Lib.hid (own_less hi1 (B' := w.heap.size) (Nat.le_of_lt HB.out.size)); have HB1 := Lib.hid (HB.out.call ht1 hp1); clear hi1 hp1 ht1)
      | (refine wpList_store_act (by rfl) _ _ (by rfl) w.heap.size _ (by rfl) (by rfl) HB1.out.seven HB1.out.at (by rfl) (by rfl) ?_))
    have hf := HB1.out.fin HI.out _ rfl
    exact ret_box rfl rfl rfl hf.1 rfl hf.2
  · go_enter Tryd.func68, Tryd.ntmps68
    go_upto_region 1 with (fail)
    generalize w.alloc (.cells #[.int .i64 0, .int .i32 0, .int .u8 0, .int .u8 0, .slice none 0 0, .string ⟨#[]⟩, .string ⟨#[]⟩] 39) = W at *
    have c1 := HB.out.par.st
    rw [hst] at c1
    go_wp2_with (first
      | (go_at_call 81; refine (CC.out _).mono ?_; rintro e w1 ⟨rfl, rfl⟩)
      | (go_at_call 88; refine (CS.out _ HB.out.par).mono ?_; rintro e w1 ⟨pv, rfl, hi1, hp1, ht1⟩; obtain ⟨A, cp, rfl, _⟩ := own_form hi1; have HI := Lib.hid (own_less hi1 (B' := w.heap.size) (Nat.le_of_lt HB.out.size)); have HB1 := Lib.hid (HB.out.call ht1 hp1); clear hi1 hp1 ht1)
      | (refine wpList_store_act (by rfl) _ _ (by rfl) w.heap.size _ (by rfl) (by rfl) HB1.out.seven HB1.out.at (by rfl) (by rfl) ?_))
    have hf := HB1.out.fin HI.out _ rfl
    exact ret_box rfl rfl rfl hf.1 rfl hf.2
  · go_enter Tryd.func68, Tryd.ntmps68
    go_upto_region 1 with (fail)
    generalize w.alloc (.cells #[.int .i64 0, .int .i32 0, .int .u8 0, .int .u8 0, .slice none 0 0, .string ⟨#[]⟩, .string ⟨#[]⟩] 39) = W at *
    have c1 := HB.out.par.st
    rw [hst] at c1
    go_wp2_with (first
      | (go_at_call 81; refine (CC.out _).mono ?_; rintro e w1 ⟨rfl, rfl⟩)
      | (go_at_call 88; refine (CS.out _ HB.out.par).mono ?_; rintro e w1 ⟨pv, rfl, hi1, hp1, ht1⟩; obtain ⟨A, cp, rfl, _⟩ := own_form hi1; have HI := Lib.hid (own_less hi1 (B' := w.heap.size) (Nat.le_of_lt HB.out.size)); have HB1 := Lib.hid (HB.out.call ht1 hp1); clear hi1 hp1 ht1)
      | (refine wpList_store_act (by rfl) _ _ (by rfl) w.heap.size _ (by rfl) (by rfl) HB1.out.seven HB1.out.at (by rfl) (by rfl) ?_))
    have hf := HB1.out.fin HI.out _ rfl
    exact ret_box rfl rfl rfl hf.1 rfl hf.2
  · go_enter Tryd.func68, Tryd.ntmps68
    go_upto_region 1 with (fail)
    generalize w.alloc (.cells #[.int .i64 0, .int .i32 0, .int .u8 0, .int .u8 0, .slice none 0 0, .string ⟨#[]⟩, .string ⟨#[]⟩] 39) = W at *
    have c1 := HB.out.par.st
    rw [hst] at c1
    go_wp2_with (first
      | (go_at_call 81; refine (CC.out _).mono ?_; rintro e w1 ⟨rfl, rfl⟩)
      | (go_at_call 88; refine (CS.out _ HB.out.par).mono ?_; rintro e w1 ⟨pv, rfl, hi1, hp1, ht1⟩; obtain ⟨A, cp, rfl, _⟩ := own_form hi1; have HI := Lib.hid (own_less hi1 (B' := w.heap.size) (Nat.le_of_lt HB.out.size)); have HB1 := Lib.hid (HB.out.call ht1 hp1); clear hi1 hp1 ht1)
      | (refine wpList_store_act (by rfl) _ _ (by rfl) w.heap.size _ (by rfl) (by rfl) HB1.out.seven HB1.out.at (by rfl) (by rfl) ?_))
    have hf := HB1.out.fin HI.out _ rfl
    exact ret_box rfl rfl rfl hf.1 rfl hf.2
set_option maxRecDepth 1000000 in
set_option maxHeartbeats 2000000 in
theorem state_seq5 (w : World) (g : Nat) (S : PS) (b : UInt8) (h : ParAt w g S) (hst : S.st = 3 ∨ S.st = 7 ∨ S.st = 4 ∨ S.st = 8 ∨ S.st = 5 ∨ S.st = 9) (hk : classP b = 5) : Calls Tryd.prog 68 #[.pointer (some ⟨g, 0, none⟩), .int .u8 b.toNat] w (StepPost w g (inSeqP S b).1 (inSeqP S b).2) := by
  have HB := Lib.hid (BoxW.start h #[.int .i64 0, .int .i32 0, .int .u8 0, .int .u8 0, .slice none 0 0, .string ⟨#[]⟩, .string ⟨#[]⟩] rfl)
  have CS := Lib.hid fun W (hW : ParAt W g S) => inSeq_any W g S b hW
  rw [hk] at CS
  have CC := Lib.hid fun W => class_any b W
  rw [hk] at CC
  clear h
  rcases hst with hst | hst | hst | hst | hst | hst
  · go_enter Tryd.func68, Tryd.ntmps68
    go_upto_region 1 with (fail)
    generalize w.alloc (.cells #[.int .i64 0, .int .i32 0, .int .u8 0, .int .u8 0, .slice none 0 0, .string ⟨#[]⟩, .string ⟨#[]⟩] 39) = W at *
    have c1 := HB.out.par.st
    rw [hst] at c1
    go_wp2_with (first
      | (go_at_call 81; refine (CC.out _).mono ?_; rintro e w1 ⟨rfl, rfl⟩)
      | (go_at_call 88; refine (CS.out _ HB.out.par).mono ?_; rintro e w1 ⟨pv, rfl, hi1, hp1, ht1⟩; obtain ⟨A, cp, rfl, _⟩ := own_form hi1; have HI := Lib.hid (own_less hi1 (B' := w.heap.size) (Nat.le_of_lt HB.out.size)); have HB1 := Lib.hid (HB.out.call ht1 hp1); clear hi1 hp1 ht1)
      | (refine wpList_store_act (by rfl) _ _ (by rfl) w.heap.size _ (by rfl) (by rfl) HB1.out.seven HB1.out.at (by rfl) (by rfl) ?_))
    have hf := HB1.out.fin HI.out _ rfl
    exact ret_box rfl rfl rfl hf.1 rfl hf.2
  · go_enter Tryd.func68, Tryd.ntmps68
    go_upto_region 1 with (fail)
    generalize w.alloc (.cells #[.int .i64 0, .int .i32 0, .int .u8 0, .int .u8 0, .slice none 0 0, .string ⟨#[]⟩, .string ⟨#[]⟩] 39) = W at *
    have c1 := HB.out.par.st
    rw [hst] at c1
    go_wp2_with (first
      | (go_at_call 81; refine (CC.out _).mono ?_; rintro e w1 ⟨rfl, rfl⟩)
      | (go_at_call 88; refine (CS.out _ HB.out.par).mono ?_; rintro e w1 ⟨pv, rfl, hi1, hp1, ht1⟩; obtain ⟨A, cp, rfl, _⟩ := own_form hi1; have HI := Lib.hid (own_less hi1 (B' := w.heap.size) (Nat.le_of_lt HB.out.size)); have HB1 := Lib.hid (HB.out.call ht1 hp1); clear hi1 hp1 ht1)
      | (refine wpList_store_act (by rfl) _ _ (by rfl) w.heap.size _ (by rfl) (by rfl) HB1.out.seven HB1.out.at (by rfl) (by rfl) ?_))
    have hf := HB1.out.fin HI.out _ rfl
    exact ret_box rfl rfl rfl hf.1 rfl hf.2
  · go_enter Tryd.func68, Tryd.ntmps68
    go_upto_region 1 with (fail)
    generalize w.alloc (.cells #[.int .i64 0, .int .i32 0, .int .u8 0, .int .u8 0, .slice none 0 0, .string ⟨#[]⟩, .string ⟨#[]⟩] 39) = W at *
    have c1 := HB.out.par.st
    rw [hst] at c1
    go_wp2_with (first
      | (go_at_call 81; refine (CC.out _).mono ?_; rintro e w1 ⟨rfl, rfl⟩)
      | (go_at_call 88; refine (CS.out _ HB.out.par).mono ?_; rintro e w1 ⟨pv, rfl, hi1, hp1, ht1⟩; obtain ⟨A, cp, rfl, _⟩ := own_form hi1; have HI := Lib.hid (own_less hi1 (B' := w.heap.size) (Nat.le_of_lt HB.out.size)); have HB1 := Lib.hid (HB.out.call ht1 hp1); clear hi1 hp1 ht1)
      | (refine wpList_store_act (by rfl) _ _ (by rfl) w.heap.size _ (by rfl) (by rfl) HB1.out.seven HB1.out.at (by rfl) (by rfl) ?_))
    have hf := HB1.out.fin HI.out _ rfl
    exact ret_box rfl rfl rfl hf.1 rfl hf.2
  · go_enter Tryd.func68, Tryd.ntmps68
    go_upto_region 1 with (fail)
    generalize w.alloc (.cells #[.int .i64 0, .int .i32 0, .int .u8 0, .int .u8 0, .slice none 0 0, .string ⟨#[]⟩, .string ⟨#[]⟩] 39) = W at *
    have c1 := HB.out.par.st
    rw [hst] at c1
    go_wp2_with (first
      | (go_at_call 81; refine (CC.out _).mono ?_; rintro e w1 ⟨rfl, rfl⟩)
      | (go_at_call 88; refine (CS.out _ HB.out.par).mono ?_; rintro e w1 ⟨pv, rfl, hi1, hp1, ht1⟩; obtain ⟨A, cp, rfl, _⟩ := own_form hi1; have HI := Lib.hid (own_less hi1 (B' := w.heap.size) (Nat.le_of_lt HB.out.size)); have HB1 := Lib.hid (HB.out.call ht1 hp1); clear hi1 hp1 ht1)
      | (refine wpList_store_act (by rfl) _ _ (by rfl) w.heap.size _ (by rfl) (by rfl) HB1.out.seven HB1.out.at (by rfl) (by rfl) ?_))
    have hf := HB1.out.fin HI.out _ rfl
    exact ret_box rfl rfl rfl hf.1 rfl hf.2
  · go_enter Tryd.func68, Tryd.ntmps68
    go_upto_region 1 with (fail)
    generalize w.alloc (.cells #[.int .i64 0, .int .i32 0, .int .u8 0, .int .u8 0, .slice none 0 0, .string ⟨#[]⟩, .string ⟨#[]⟩] 39) = W at *
    have c1 := HB.out.par.st
    rw [hst] at c1
    go_wp2_with (first
      | (go_at_call 81; refine (CC.out _).mono ?_; rintro e w1 ⟨rfl, rfl⟩)
      | (go_at_call 88; refine (CS.out _ HB.out.par).mono ?_; rintro e w1 ⟨pv, rfl, hi1, hp1, ht1⟩; obtain ⟨A, cp, rfl, _⟩ := own_form hi1; have HI := Lib.hid (own_less hi1 (B' := w.heap.size) (Nat.le_of_lt HB.out.size)); have HB1 := Lib.hid (HB.out.call ht1 hp1); clear hi1 hp1 ht1)
      | (refine wpList_store_act (by rfl) _ _ (by rfl) w.heap.size _ (by rfl) (by rfl) HB1.out.seven HB1.out.at (by rfl) (by rfl) ?_))
    have hf := HB1.out.fin HI.out _ rfl
    exact ret_box rfl rfl rfl hf.1 rfl hf.2
  · go_enter Tryd.func68, Tryd.ntmps68
    go_upto_region 1 with (fail)
    generalize w.alloc (.cells #[.int .i64 0, .int .i32 0, .int .u8 0, .int .u8 0, .slice none 0 0, .string ⟨#[]⟩, .string ⟨#[]⟩] 39) = W at *
    have c1 := HB.out.par.st
    rw [hst] at c1
    go_wp2_with (first
      | (go_at_call 81; refine (CC.out _).mono ?_; rintro e w1 ⟨rfl, rfl⟩)
      | (go_at_call 88; refine (CS.out _ HB.out.par).mono ?_; rintro e w1 ⟨pv, rfl, hi1, hp1, ht1⟩; obtain ⟨A, cp, rfl, _⟩ := own_form hi1; have HI := Lib.hid (own_less hi1 (B' := w.heap.size) (Nat.le_of_lt HB.out.size)); have HB1 := Lib.hid (HB.out.call ht1 hp1); clear hi1 hp1 ht1)
      | (refine wpList_store_act (by rfl) _ _ (by rfl) w.heap.size _ (by rfl) (by rfl) HB1.out.seven HB1.out.at (by rfl) (by rfl) ?_))
    have hf := HB1.out.fin HI.out _ rfl
    exact ret_box rfl rfl rfl hf.1 rfl hf.2
set_option maxRecDepth 1000000 in
set_option maxHeartbeats 2000000 in
theorem state_seq6 (w : World) (g : Nat) (S : PS) (b : UInt8) (h : ParAt w g S) (hst : S.st = 3 ∨ S.st = 7 ∨ S.st = 4 ∨ S.st = 8 ∨ S.st = 5 ∨ S.st = 9) (hk : classP b = 6) : Calls Tryd.prog 68 #[.pointer (some ⟨g, 0, none⟩), .int .u8 b.toNat] w (StepPost w g (inSeqP S b).1 (inSeqP S b).2) := by
  have HB := Lib.hid (BoxW.start h #[.int .i64 0, .int .i32 0, .int .u8 0, .int .u8 0, .slice none 0 0, .string ⟨#[]⟩, .string ⟨#[]⟩] rfl)
  have CS := Lib.hid fun W (hW : ParAt W g S) => inSeq_any W g S b hW
  rw [hk] at CS
  have CC := Lib.hid fun W => class_any b W
  rw [hk] at CC
  clear h
  rcases hst with hst | hst | hst | hst | hst | hst
  · go_enter Tryd.func68, Tryd.ntmps68
    go_upto_region 1 with (fail)
    generalize w.alloc (.cells #[.int .i64 0, .int .i32 0, .int .u8 0, .int .u8 0, .slice none 0 0, .string ⟨#[]⟩, .string ⟨#[]⟩] 39) = W at *
    have c1 := HB.out.par.st
    rw [hst] at c1
    go_wp2_with (first
      | (go_at_call 81; refine (CC.out _).mono ?_; rintro e w1 ⟨rfl, rfl⟩)
      | (go_at_call 88; refine (CS.out _ HB.out.par).mono ?_; rintro e w1 ⟨pv, rfl, hi1, hp1, ht1⟩; obtain ⟨A, cp, rfl, _⟩ := own_form hi1; have HI := Lib.hid (own_less hi1 (B' := w.heap.size) (Nat.le_of_lt HB.out.size)); have HB1 := Lib.hid (HB.out.call ht1 hp1); clear hi1 hp1 ht1)
      | (refine wpList_store_act (by rfl) _ _ (by rfl) w.heap.size _ (by rfl) (by rfl) HB1.out.seven HB1.out.at (by rfl) (by rfl) ?_))
    have hf := HB1.out.fin HI.out _ rfl
    exact ret_box rfl rfl rfl hf.1 rfl hf.2
  · go_enter Tryd.func68, Tryd.ntmps68
    go_upto_region 1 with (fail)
    generalize w.alloc (.cells #[.int .i64 0, .int .i32 0, .int .u8 0, .int .u8 0, .slice none 0 0, .string ⟨#[]⟩, .string ⟨#[]⟩] 39) = W at *
    have c1 := HB.out.par.st
    rw [hst] at c1
    go_wp2_with (first
      | (go_at_call 81; refine (CC.out _).mono ?_; rintro e w1 ⟨rfl, rfl⟩)
      | (go_at_call 88; refine (CS.out _ HB.out.par).mono ?_; rintro e w1 ⟨pv, rfl, hi1, hp1, ht1⟩; obtain ⟨A, cp, rfl, _⟩ := own_form hi1; have HI := Lib.hid (own_less hi1 (B' := w.heap.size) (Nat.le_of_lt HB.out.size)); have HB1 := Lib.hid (HB.out.call ht1 hp1); clear hi1 hp1 ht1)
      | (refine wpList_store_act (by rfl) _ _ (by rfl) w.heap.size _ (by rfl) (by rfl) HB1.out.seven HB1.out.at (by rfl) (by rfl) ?_))
    have hf := HB1.out.fin HI.out _ rfl
    exact ret_box rfl rfl rfl hf.1 rfl hf.2
  · go_enter Tryd.func68, Tryd.ntmps68
    go_upto_region 1 with (fail)
    generalize w.alloc (.cells #[.int .i64 0, .int .i32 0, .int .u8 0, .int .u8 0, .slice none 0 0, .string ⟨#[]⟩, .string ⟨#[]⟩] 39) = W at *
    have c1 := HB.out.par.st
    rw [hst] at c1
    go_wp2_with (first
      | (go_at_call 81; refine (CC.out _).mono ?_; rintro e w1 ⟨rfl, rfl⟩)
      | (go_at_call 88; refine (CS.out _ HB.out.par).mono ?_; rintro e w1 ⟨pv, rfl, hi1, hp1, ht1⟩; obtain ⟨A, cp, rfl, _⟩ := own_form hi1; have HI := Lib.hid (own_less hi1 (B' := w.heap.size) (Nat.le_of_lt HB.out.size)); have HB1 := Lib.hid (HB.out.call ht1 hp1); clear hi1 hp1 ht1)
      | (refine wpList_store_act (by rfl) _ _ (by rfl) w.heap.size _ (by rfl) (by rfl) HB1.out.seven HB1.out.at (by rfl) (by rfl) ?_))
    have hf := HB1.out.fin HI.out _ rfl
    exact ret_box rfl rfl rfl hf.1 rfl hf.2
  · go_enter Tryd.func68, Tryd.ntmps68
    go_upto_region 1 with (fail)
    generalize w.alloc (.cells #[.int .i64 0, .int .i32 0, .int .u8 0, .int .u8 0, .slice none 0 0, .string ⟨#[]⟩, .string ⟨#[]⟩] 39) = W at *
    have c1 := HB.out.par.st
    rw [hst] at c1
    go_wp2_with (first
      | (go_at_call 81; refine (CC.out _).mono ?_; rintro e w1 ⟨rfl, rfl⟩)
      | (go_at_call 88; refine (CS.out _ HB.out.par).mono ?_; rintro e w1 ⟨pv, rfl, hi1, hp1, ht1⟩; obtain ⟨A, cp, rfl, _⟩ := own_form hi1; have HI := Lib.hid (own_less hi1 (B' := w.heap.size) (Nat.le_of_lt HB.out.size)); have HB1 := Lib.hid (HB.out.call ht1 hp1); clear hi1 hp1 ht1)
      | (refine wpList_store_act (by rfl) _ _ (by rfl) w.heap.size _ (by rfl) (by rfl) HB1.out.seven HB1.out.at (by rfl) (by rfl) ?_))
    have hf := HB1.out.fin HI.out _ rfl
    exact ret_box rfl rfl rfl hf.1 rfl hf.2
  · go_enter Tryd.func68, Tryd.ntmps68
    go_upto_region 1 with (fail)
    generalize w.alloc (.cells #[.int .i64 0, .int .i32 0, .int .u8 0, .int .u8 0, .slice none 0 0, .string ⟨#[]⟩, .string ⟨#[]⟩] 39) = W at *
    have c1 := HB.out.par.st
    rw [hst] at c1
    go_wp2_with (first
      | (go_at_call 81; refine (CC.out _).mono ?_; rintro e w1 ⟨rfl, rfl⟩)
      | (go_at_call 88; refine (CS.out _ HB.out.par).mono ?_; rintro e w1 ⟨pv, rfl, hi1, hp1, ht1⟩; obtain ⟨A, cp, rfl, _⟩ := own_form hi1; have HI := Lib.hid (own_less hi1 (B' := w.heap.size) (Nat.le_of_lt HB.out.size)); have HB1 := Lib.hid (HB.out.call ht1 hp1); clear hi1 hp1 ht1)
      | (refine wpList_store_act (by rfl) _ _ (by rfl) w.heap.size _ (by rfl) (by rfl) HB1.out.seven HB1.out.at (by rfl) (by rfl) ?_))
    have hf := HB1.out.fin HI.out _ rfl
    exact ret_box rfl rfl rfl hf.1 rfl hf.2
  · go_enter Tryd.func68, Tryd.ntmps68
    go_upto_region 1 with (fail)
    generalize w.alloc (.cells #[.int .i64 0, .int .i32 0, .int .u8 0, .int .u8 0, .slice none 0 0, .string ⟨#[]⟩, .string ⟨#[]⟩] 39) = W at *
    have c1 := HB.out.par.st
    rw [hst] at c1
    go_wp2_with (first
      | (go_at_call 81; refine (CC.out _).mono ?_; rintro e w1 ⟨rfl, rfl⟩)
      | (go_at_call 88; refine (CS.out _ HB.out.par).mono ?_; rintro e w1 ⟨pv, rfl, hi1, hp1, ht1⟩; obtain ⟨A, cp, rfl, _⟩ := own_form hi1; have HI := Lib.hid (own_less hi1 (B' := w.heap.size) (Nat.le_of_lt HB.out.size)); have HB1 := Lib.hid (HB.out.call ht1 hp1); clear hi1 hp1 ht1)
      | (refine wpList_store_act (by rfl) _ _ (by rfl) w.heap.size _ (by rfl) (by rfl) HB1.out.seven HB1.out.at (by rfl) (by rfl) ?_))
    have hf := HB1.out.fin HI.out _ rfl
    exact ret_box rfl rfl rfl hf.1 rfl hf.2
end Go.Proofs.YtjoiagaadofndaaDoor
