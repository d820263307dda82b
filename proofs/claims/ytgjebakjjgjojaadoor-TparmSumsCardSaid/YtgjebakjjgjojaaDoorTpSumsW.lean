/-
  The law on sums: what it walks.
-/
import Derived.Test.YtgjebakjjgjojaaDoorTpSums
namespace Go.Proofs.YtgjebakjjgjojaaDoor
open Go.RowKit Go.Shelf Go.Lib
attribute [local go_sem] Oper.semAt_some

/-- the five answers that the law compares with -/
def wantsZ (a b : Int) : List Int := [binP 43 a b, binP 45 a b, binP 42 a b, binP 47 a b, binP 109 a b]
abbrev opStr (c : UInt8) : Value := .string ⟨#[c]⟩
/-- between two operations: the wanted numbers' block, the operations' block -/
def SumI (w0 : World) (wb ob : Nat) (a b : Int) (x : Value) (W : World) : Prop := ∃ k : Nat, x = .int .i64 k ∧ k ≤ 5 ∧ Below w0.heap.size w0 W ∧ (∃ t, W.heap[wb]? = some (.cells #[.int .i32 (binP 43 a b), .int .i32 (binP 45 a b), .int .i32 (binP 42 a b), .int .i32 (binP 47 a b), .int .i32 (binP 109 a b)] t (0, 0))) ∧ (∃ t, W.heap[ob]? = some (.cells #[opStr 43, opStr 45, opStr 42, opStr 47, opStr 109] t (0, 0))) ∧ Pow W
theorem SumI.next {w0 W W' : World} {wb ob k : Nat} {a b : Int} (hk : k < 5) (hb : Below w0.heap.size w0 W) (hw : ∃ t, W.heap[wb]? = some (.cells #[.int .i32 (binP 43 a b), .int .i32 (binP 45 a b), .int .i32 (binP 42 a b), .int .i32 (binP 47 a b), .int .i32 (binP 109 a b)] t (0, 0))) (ho : ∃ t, W.heap[ob]? = some (.cells #[opStr 43, opStr 45, opStr 42, opStr 47, opStr 109] t (0, 0))) (hp : Pow W) (hbb : Below W.heap.size W W') : SumI w0 wb ob a b (.int .i64 ((k + 1 : Nat) : Int)) W' := by
  obtain ⟨t1, hw⟩ := hw
  obtain ⟨t2, ho⟩ := ho
  exact ⟨k + 1, rfl, hk, hb.trans (hbb.mono hb.size), ⟨t1, (hbb.block _ (Array.getElem?_eq_some_iff.1 hw).1).trans hw⟩, ⟨t2, (hbb.block _ (Array.getElem?_eq_some_iff.1 ho).1).trans ho⟩, hp.below hbb⟩
theorem quo_wrap {a b : Int} (ha : -2147483648 ≤ a ∧ a ≤ 2147483647) : wrap64 (a.tdiv b) = a.tdiv b := by
  have h1 : (a.tdiv b).natAbs ≤ a.natAbs := by rw [Int.natAbs_tdiv]; exact Nat.div_le_self _ _
  generalize a.tdiv b = z at *
  unfold wrap64
  omega
theorem mod_wrap {a b : Int} (ha : -2147483648 ≤ a ∧ a ≤ 2147483647) (hb : -2147483648 ≤ b ∧ b ≤ 2147483647) (h0 : b ≠ 0) : wrap32 (a.tmod b) = a.tmod b ∧ wrap64 (a.tmod b) = a.tmod b := by
  have h1 := Int.natAbs_tmod a b
  have h2 : a.natAbs % b.natAbs ≤ a.natAbs := Nat.mod_le _ _
  have h3 : a.natAbs % b.natAbs < b.natAbs := Nat.mod_lt _ (Int.natAbs_pos.2 h0)
  unfold wrap32 wrap64
  omega
theorem sum_start {w w1 : World} {a b : Int} (hb1 : Below w.heap.size w w1) (hp : Pow w) {cs : Array Value} {t1 t2 : TypeId} (hcs : cs = #[.int .i32 (binP 43 a b), .int .i32 (binP 45 a b), .int .i32 (binP 42 a b), .int .i32 (binP 47 a b), .int .i32 (binP 109 a b)]) : SumI w1 w1.heap.size (w1.heap.size + 1) a b (.int .i64 0) ((w1.alloc (.cells cs t1)).alloc (.cells #[opStr 43, opStr 45, opStr 42, opStr 47, opStr 109] t2)) := by
  subst hcs
  exact ⟨0, rfl, by omega, ((Below.refl _ _).alloc (Nat.le_refl _) _).alloc (by simp) _, ⟨t1, (Below.heap_alloc _ _ _ (by simp)).trans (alloc_new _ _)⟩, ⟨t2, alloc_two _ _ _⟩, (hp.below hb1).below (((Below.refl _ _).alloc (Nat.le_refl _) _).alloc (by simp) _)⟩
set_option maxRecDepth 100000 in
set_option maxHeartbeats 20000000 in
theorem sums_walk (w : World) (a b : Int) (ha : -2147483648 ≤ a ∧ a ≤ 2147483647) (hb : -2147483648 ≤ b ∧ b ≤ 2147483647) (hp : Pow w) : Calls Tryd.prog 4 #[.int .i32 a, .int .i32 b] w fun e w' => e = .returned (.bool true) ∧ Below w.heap.size w w' := by
  have CB := Lib.hid (begun_any w hp)
  unfold BegunPost at CB
  have HA := Lib.hid (And.intro ha (And.intro hb hp))
  have wa : wrap64 a = a := by unfold wrap64; omega
  have wb : wrap64 b = b := by unfold wrap64; omega
  by_cases h0 : b = 0
  · have hq : (b != 0) = false := by simp [h0]
    have HE := Lib.hid (show binP 47 a b = 0 ∧ binP 109 a b = 0 by subst h0; exact ⟨rfl, rfl⟩)
    clear ha hb hp h0
    go_enter Tryd.func4, Tryd.ntmps4
    go_wp2_with (go_at_call 5; refine (CB.out).mono ?_; rintro e w1 ⟨rfl, hb1⟩; have HB1 := Lib.hid hb1; clear hb1)
    have CV := Lib.hid newVars_any
    go_loopw [43] (fun x W => SumI w1 w1.heap.size (w1.heap.size + 1) a b x W) (fun x _ => 5 - (RowKit.intOf x).toNat)
    case atStart => exact sum_start HB1.out HA.out.2.2 (by rw [HE.out.1, HE.out.2]; try rfl)
    case round =>
      obtain ⟨k, rfl, hk, hbel, hw, ho, hpw⟩ := hrel
      have HB := Lib.hid hbel
      have HW := Lib.hid hw
      have HO := Lib.hid ho
      have HPW := Lib.hid hpw
      have HLT := Lib.hid (Array.getElem?_eq_some_iff.1 hw.choose_spec).1
      clear hbel hw ho hpw
      have hk5 : k = 0 ∨ k = 1 ∨ k = 2 ∨ k = 3 ∨ k = 4 ∨ k = 5 := by omega
      clear hk
      rcases hk5 with rfl | rfl | rfl | rfl | rfl | rfl
      · have o0 : wr.cell? ⟨w1.heap.size + 1, 0, none⟩ = some (opStr 43) := cell_of_row _ _ 0 _ _ _ HO.out.choose_spec
        have z0 : wr.cell? ⟨w1.heap.size, 0, none⟩ = some (.int .i32 (binP 43 a b)) := cell_of_row _ _ 0 _ _ _ HW.out.choose_spec
        have CN : Hid (Calls Tryd.prog 6 #[.string ⟨#[37, 112, 49, 37, 112, 50, 37, 43, 37, 100]⟩] wr (NewPost wr (sumS 43))) := Lib.hid (new_any (sumS 43) wr)
        have CR : Hid (∀ w2 w3 cb v, CapAt w2 wr.heap.size cb v (sumS 43) ∧ Below wr.heap.size wr w2 → VarsAt w3 (w2.heap.size + 1) w2.heap.size (fun _ => prm0) ∧ Below w2.heap.size w2 w3 → Calls Tryd.prog 8 #[.pointer (some ⟨cb, 0, none⟩), .pointer (some ⟨w2.heap.size + 1, 0, none⟩), .slice (some ⟨w3.heap.size, 0, none⟩) 2 2] (w3.alloc (.cells #[.int .i32 a, .string ⟨#[]⟩, .bool false, .int .i32 b, .string ⟨#[]⟩, .bool false] 32)) fun e w' => e = .returned (.tuple #[str (itoa (binP 43 a b)), .int .i64 0, .int .i64 0]) ∧ Below wr.heap.size wr w') := Lib.hid fun w2 w3 cb v h1 h2 => run_sum (by unfold isOp; decide) a b HA.out.1 HA.out.2.1 h1 h2 HPW.out
        have hz := bin_ok (v := 43) (by unfold isBin; decide) HA.out.1 HA.out.2.1
        have CI : Hid (∀ W, Below wr.heap.size wr W → Calls Tryd.prog 7 #[.int .i64 (binP 43 a b)] W (StrPost W (itoa (binP 43 a b)))) := Lib.hid fun W hW => itoa_any _ (by omega) (by omega) W (HPW.out.below hW)
        have wz : wrap64 (binP 43 a b) = binP 43 a b := by unfold wrap64; omega
        clear hz
        unfold NewPost at CN
        unfold StrPost at CI
        generalize binP 43 a b = z at z0 CR CI wz
        go_wp2_with (first
          | (go_at_call 6; refine (CN.out).mono ?_; rintro e w2 ⟨cb, v, rfl, hc2, hb2⟩; have H2 := Lib.hid (And.intro hc2 hb2); clear hc2 hb2)
          | (go_at_call 9; refine (CV.out _).mono ?_; rintro e w3 ⟨rfl, hv3, hb3⟩; have H3 := Lib.hid (And.intro hv3 hb3); clear hv3 hb3)
          | (go_at_call 8; refine (CR.out _ _ _ _ H2.out H3.out).mono ?_; rintro e w4 ⟨rfl, hb4⟩; have z4 : w4.cell? ⟨w1.heap.size, 0, none⟩ = some (.int .i32 z) := (hb4.cell (p := ⟨w1.heap.size, 0, none⟩) HLT.out).trans z0; have H4 := Lib.hid hb4; clear hb4)
          | (go_at_call 7; refine (CI.out _ H4.out).mono ?_; rintro e w5 ⟨rfl, hb5⟩; have H5 := Lib.hid (H4.out.trans (hb5.mono H4.out.size)); clear hb5))
        go_roundw
        case rel => exact SumI.next (k := 0) (by omega) HB.out HW.out HO.out HPW.out H5.out
        case measure => simp [RowKit.intOf]
      · have o0 : wr.cell? ⟨w1.heap.size + 1, 1, none⟩ = some (opStr 45) := cell_of_row _ _ 1 _ _ _ HO.out.choose_spec
        have z0 : wr.cell? ⟨w1.heap.size, 1, none⟩ = some (.int .i32 (binP 45 a b)) := cell_of_row _ _ 1 _ _ _ HW.out.choose_spec
        have CN : Hid (Calls Tryd.prog 6 #[.string ⟨#[37, 112, 49, 37, 112, 50, 37, 45, 37, 100]⟩] wr (NewPost wr (sumS 45))) := Lib.hid (new_any (sumS 45) wr)
        have CR : Hid (∀ w2 w3 cb v, CapAt w2 wr.heap.size cb v (sumS 45) ∧ Below wr.heap.size wr w2 → VarsAt w3 (w2.heap.size + 1) w2.heap.size (fun _ => prm0) ∧ Below w2.heap.size w2 w3 → Calls Tryd.prog 8 #[.pointer (some ⟨cb, 0, none⟩), .pointer (some ⟨w2.heap.size + 1, 0, none⟩), .slice (some ⟨w3.heap.size, 0, none⟩) 2 2] (w3.alloc (.cells #[.int .i32 a, .string ⟨#[]⟩, .bool false, .int .i32 b, .string ⟨#[]⟩, .bool false] 32)) fun e w' => e = .returned (.tuple #[str (itoa (binP 45 a b)), .int .i64 0, .int .i64 0]) ∧ Below wr.heap.size wr w') := Lib.hid fun w2 w3 cb v h1 h2 => run_sum (by unfold isOp; decide) a b HA.out.1 HA.out.2.1 h1 h2 HPW.out
        have hz := bin_ok (v := 45) (by unfold isBin; decide) HA.out.1 HA.out.2.1
        have CI : Hid (∀ W, Below wr.heap.size wr W → Calls Tryd.prog 7 #[.int .i64 (binP 45 a b)] W (StrPost W (itoa (binP 45 a b)))) := Lib.hid fun W hW => itoa_any _ (by omega) (by omega) W (HPW.out.below hW)
        have wz : wrap64 (binP 45 a b) = binP 45 a b := by unfold wrap64; omega
        clear hz
        unfold NewPost at CN
        unfold StrPost at CI
        generalize binP 45 a b = z at z0 CR CI wz
        go_wp2_with (first
          | (go_at_call 6; refine (CN.out).mono ?_; rintro e w2 ⟨cb, v, rfl, hc2, hb2⟩; have H2 := Lib.hid (And.intro hc2 hb2); clear hc2 hb2)
          | (go_at_call 9; refine (CV.out _).mono ?_; rintro e w3 ⟨rfl, hv3, hb3⟩; have H3 := Lib.hid (And.intro hv3 hb3); clear hv3 hb3)
          | (go_at_call 8; refine (CR.out _ _ _ _ H2.out H3.out).mono ?_; rintro e w4 ⟨rfl, hb4⟩; have z4 : w4.cell? ⟨w1.heap.size, 1, none⟩ = some (.int .i32 z) := (hb4.cell (p := ⟨w1.heap.size, 1, none⟩) HLT.out).trans z0; have H4 := Lib.hid hb4; clear hb4)
          | (go_at_call 7; refine (CI.out _ H4.out).mono ?_; rintro e w5 ⟨rfl, hb5⟩; have H5 := Lib.hid (H4.out.trans (hb5.mono H4.out.size)); clear hb5))
        go_roundw
        case rel => exact SumI.next (k := 1) (by omega) HB.out HW.out HO.out HPW.out H5.out
        case measure => simp [RowKit.intOf]
      · have o0 : wr.cell? ⟨w1.heap.size + 1, 2, none⟩ = some (opStr 42) := cell_of_row _ _ 2 _ _ _ HO.out.choose_spec
        have z0 : wr.cell? ⟨w1.heap.size, 2, none⟩ = some (.int .i32 (binP 42 a b)) := cell_of_row _ _ 2 _ _ _ HW.out.choose_spec
        have CN : Hid (Calls Tryd.prog 6 #[.string ⟨#[37, 112, 49, 37, 112, 50, 37, 42, 37, 100]⟩] wr (NewPost wr (sumS 42))) := Lib.hid (new_any (sumS 42) wr)
        have CR : Hid (∀ w2 w3 cb v, CapAt w2 wr.heap.size cb v (sumS 42) ∧ Below wr.heap.size wr w2 → VarsAt w3 (w2.heap.size + 1) w2.heap.size (fun _ => prm0) ∧ Below w2.heap.size w2 w3 → Calls Tryd.prog 8 #[.pointer (some ⟨cb, 0, none⟩), .pointer (some ⟨w2.heap.size + 1, 0, none⟩), .slice (some ⟨w3.heap.size, 0, none⟩) 2 2] (w3.alloc (.cells #[.int .i32 a, .string ⟨#[]⟩, .bool false, .int .i32 b, .string ⟨#[]⟩, .bool false] 32)) fun e w' => e = .returned (.tuple #[str (itoa (binP 42 a b)), .int .i64 0, .int .i64 0]) ∧ Below wr.heap.size wr w') := Lib.hid fun w2 w3 cb v h1 h2 => run_sum (by unfold isOp; decide) a b HA.out.1 HA.out.2.1 h1 h2 HPW.out
        have hz := bin_ok (v := 42) (by unfold isBin; decide) HA.out.1 HA.out.2.1
        have CI : Hid (∀ W, Below wr.heap.size wr W → Calls Tryd.prog 7 #[.int .i64 (binP 42 a b)] W (StrPost W (itoa (binP 42 a b)))) := Lib.hid fun W hW => itoa_any _ (by omega) (by omega) W (HPW.out.below hW)
        have wz : wrap64 (binP 42 a b) = binP 42 a b := by unfold wrap64; omega
        clear hz
        unfold NewPost at CN
        unfold StrPost at CI
        generalize binP 42 a b = z at z0 CR CI wz
        go_wp2_with (first
          | (go_at_call 6; refine (CN.out).mono ?_; rintro e w2 ⟨cb, v, rfl, hc2, hb2⟩; have H2 := Lib.hid (And.intro hc2 hb2); clear hc2 hb2)
          | (go_at_call 9; refine (CV.out _).mono ?_; rintro e w3 ⟨rfl, hv3, hb3⟩; have H3 := Lib.hid (And.intro hv3 hb3); clear hv3 hb3)
          | (go_at_call 8; refine (CR.out _ _ _ _ H2.out H3.out).mono ?_; rintro e w4 ⟨rfl, hb4⟩; have z4 : w4.cell? ⟨w1.heap.size, 2, none⟩ = some (.int .i32 z) := (hb4.cell (p := ⟨w1.heap.size, 2, none⟩) HLT.out).trans z0; have H4 := Lib.hid hb4; clear hb4)
          | (go_at_call 7; refine (CI.out _ H4.out).mono ?_; rintro e w5 ⟨rfl, hb5⟩; have H5 := Lib.hid (H4.out.trans (hb5.mono H4.out.size)); clear hb5))
        go_roundw
        case rel => exact SumI.next (k := 2) (by omega) HB.out HW.out HO.out HPW.out H5.out
        case measure => simp [RowKit.intOf]
      · have o0 : wr.cell? ⟨w1.heap.size + 1, 3, none⟩ = some (opStr 47) := cell_of_row _ _ 3 _ _ _ HO.out.choose_spec
        have z0 : wr.cell? ⟨w1.heap.size, 3, none⟩ = some (.int .i32 (binP 47 a b)) := cell_of_row _ _ 3 _ _ _ HW.out.choose_spec
        have CN : Hid (Calls Tryd.prog 6 #[.string ⟨#[37, 112, 49, 37, 112, 50, 37, 47, 37, 100]⟩] wr (NewPost wr (sumS 47))) := Lib.hid (new_any (sumS 47) wr)
        have CR : Hid (∀ w2 w3 cb v, CapAt w2 wr.heap.size cb v (sumS 47) ∧ Below wr.heap.size wr w2 → VarsAt w3 (w2.heap.size + 1) w2.heap.size (fun _ => prm0) ∧ Below w2.heap.size w2 w3 → Calls Tryd.prog 8 #[.pointer (some ⟨cb, 0, none⟩), .pointer (some ⟨w2.heap.size + 1, 0, none⟩), .slice (some ⟨w3.heap.size, 0, none⟩) 2 2] (w3.alloc (.cells #[.int .i32 a, .string ⟨#[]⟩, .bool false, .int .i32 b, .string ⟨#[]⟩, .bool false] 32)) fun e w' => e = .returned (.tuple #[str (itoa (binP 47 a b)), .int .i64 0, .int .i64 0]) ∧ Below wr.heap.size wr w') := Lib.hid fun w2 w3 cb v h1 h2 => run_sum (by unfold isOp; decide) a b HA.out.1 HA.out.2.1 h1 h2 HPW.out
        have hz := bin_ok (v := 47) (by unfold isBin; decide) HA.out.1 HA.out.2.1
        have CI : Hid (∀ W, Below wr.heap.size wr W → Calls Tryd.prog 7 #[.int .i64 (binP 47 a b)] W (StrPost W (itoa (binP 47 a b)))) := Lib.hid fun W hW => itoa_any _ (by omega) (by omega) W (HPW.out.below hW)
        have wz : wrap64 (binP 47 a b) = binP 47 a b := by unfold wrap64; omega
        clear hz
        unfold NewPost at CN
        unfold StrPost at CI
        generalize binP 47 a b = z at z0 CR CI wz
        go_wp2_with (first
          | (go_at_call 6; refine (CN.out).mono ?_; rintro e w2 ⟨cb, v, rfl, hc2, hb2⟩; have H2 := Lib.hid (And.intro hc2 hb2); clear hc2 hb2)
          | (go_at_call 9; refine (CV.out _).mono ?_; rintro e w3 ⟨rfl, hv3, hb3⟩; have H3 := Lib.hid (And.intro hv3 hb3); clear hv3 hb3)
          | (go_at_call 8; refine (CR.out _ _ _ _ H2.out H3.out).mono ?_; rintro e w4 ⟨rfl, hb4⟩; have z4 : w4.cell? ⟨w1.heap.size, 3, none⟩ = some (.int .i32 z) := (hb4.cell (p := ⟨w1.heap.size, 3, none⟩) HLT.out).trans z0; have H4 := Lib.hid hb4; clear hb4)
          | (go_at_call 7; refine (CI.out _ H4.out).mono ?_; rintro e w5 ⟨rfl, hb5⟩; have H5 := Lib.hid (H4.out.trans (hb5.mono H4.out.size)); clear hb5))
        go_roundw
        case rel => exact SumI.next (k := 3) (by omega) HB.out HW.out HO.out HPW.out H5.out
        case measure => simp [RowKit.intOf]
      · have o0 : wr.cell? ⟨w1.heap.size + 1, 4, none⟩ = some (opStr 109) := cell_of_row _ _ 4 _ _ _ HO.out.choose_spec
        have z0 : wr.cell? ⟨w1.heap.size, 4, none⟩ = some (.int .i32 (binP 109 a b)) := cell_of_row _ _ 4 _ _ _ HW.out.choose_spec
        have CN : Hid (Calls Tryd.prog 6 #[.string ⟨#[37, 112, 49, 37, 112, 50, 37, 109, 37, 100]⟩] wr (NewPost wr (sumS 109))) := Lib.hid (new_any (sumS 109) wr)
        have CR : Hid (∀ w2 w3 cb v, CapAt w2 wr.heap.size cb v (sumS 109) ∧ Below wr.heap.size wr w2 → VarsAt w3 (w2.heap.size + 1) w2.heap.size (fun _ => prm0) ∧ Below w2.heap.size w2 w3 → Calls Tryd.prog 8 #[.pointer (some ⟨cb, 0, none⟩), .pointer (some ⟨w2.heap.size + 1, 0, none⟩), .slice (some ⟨w3.heap.size, 0, none⟩) 2 2] (w3.alloc (.cells #[.int .i32 a, .string ⟨#[]⟩, .bool false, .int .i32 b, .string ⟨#[]⟩, .bool false] 32)) fun e w' => e = .returned (.tuple #[str (itoa (binP 109 a b)), .int .i64 0, .int .i64 0]) ∧ Below wr.heap.size wr w') := Lib.hid fun w2 w3 cb v h1 h2 => run_sum (by unfold isOp; decide) a b HA.out.1 HA.out.2.1 h1 h2 HPW.out
        have hz := bin_ok (v := 109) (by unfold isBin; decide) HA.out.1 HA.out.2.1
        have CI : Hid (∀ W, Below wr.heap.size wr W → Calls Tryd.prog 7 #[.int .i64 (binP 109 a b)] W (StrPost W (itoa (binP 109 a b)))) := Lib.hid fun W hW => itoa_any _ (by omega) (by omega) W (HPW.out.below hW)
        have wz : wrap64 (binP 109 a b) = binP 109 a b := by unfold wrap64; omega
        clear hz
        unfold NewPost at CN
        unfold StrPost at CI
        generalize binP 109 a b = z at z0 CR CI wz
        go_wp2_with (first
          | (go_at_call 6; refine (CN.out).mono ?_; rintro e w2 ⟨cb, v, rfl, hc2, hb2⟩; have H2 := Lib.hid (And.intro hc2 hb2); clear hc2 hb2)
          | (go_at_call 9; refine (CV.out _).mono ?_; rintro e w3 ⟨rfl, hv3, hb3⟩; have H3 := Lib.hid (And.intro hv3 hb3); clear hv3 hb3)
          | (go_at_call 8; refine (CR.out _ _ _ _ H2.out H3.out).mono ?_; rintro e w4 ⟨rfl, hb4⟩; have z4 : w4.cell? ⟨w1.heap.size, 4, none⟩ = some (.int .i32 z) := (hb4.cell (p := ⟨w1.heap.size, 4, none⟩) HLT.out).trans z0; have H4 := Lib.hid hb4; clear hb4)
          | (go_at_call 7; refine (CI.out _ H4.out).mono ?_; rintro e w5 ⟨rfl, hb5⟩; have H5 := Lib.hid (H4.out.trans (hb5.mono H4.out.size)); clear hb5))
        go_roundw
        case rel => exact SumI.next (k := 4) (by omega) HB.out HW.out HO.out HPW.out H5.out
        case measure => simp [RowKit.intOf]
      · go_wp2_with fail
        go_ret
        exact ⟨rfl, HB1.out.trans (HB.out.mono HB1.out.size)⟩
  · have hq : (b != 0) = true := by simpa using h0
    have t1 := quo_wrap (b := b) ha
    obtain ⟨t2, t3⟩ := mod_wrap ha hb h0
    have HE := Lib.hid (show binP 47 a b = wrap32 (a.tdiv b) ∧ binP 109 a b = a.tmod b by
      have h1 : binP 47 a b = quoP 47 a b := rfl
      have h2 : binP 109 a b = quoP 109 a b := rfl
      rw [h1, h2]
      unfold quoP
      rw [if_neg h0, if_neg h0]
      exact ⟨rfl, rfl⟩)
    clear ha hb hp
    go_enter Tryd.func4, Tryd.ntmps4
    go_wp2_with (go_at_call 5; refine (CB.out).mono ?_; rintro e w1 ⟨rfl, hb1⟩; have HB1 := Lib.hid hb1; clear hb1)
    clear t1 t2 t3 wa wb h0 hq
    have CV := Lib.hid newVars_any
    go_loopw [43] (fun x W => SumI w1 w1.heap.size (w1.heap.size + 1) a b x W) (fun x _ => 5 - (RowKit.intOf x).toNat)
    case atStart => exact sum_start HB1.out HA.out.2.2 (by rw [HE.out.1, HE.out.2]; try rfl)
    case round =>
      obtain ⟨k, rfl, hk, hbel, hw, ho, hpw⟩ := hrel
      have HB := Lib.hid hbel
      have HW := Lib.hid hw
      have HO := Lib.hid ho
      have HPW := Lib.hid hpw
      have HLT := Lib.hid (Array.getElem?_eq_some_iff.1 hw.choose_spec).1
      clear hbel hw ho hpw
      have hk5 : k = 0 ∨ k = 1 ∨ k = 2 ∨ k = 3 ∨ k = 4 ∨ k = 5 := by omega
      clear hk
      rcases hk5 with rfl | rfl | rfl | rfl | rfl | rfl
      · have o0 : wr.cell? ⟨w1.heap.size + 1, 0, none⟩ = some (opStr 43) := cell_of_row _ _ 0 _ _ _ HO.out.choose_spec
        have z0 : wr.cell? ⟨w1.heap.size, 0, none⟩ = some (.int .i32 (binP 43 a b)) := cell_of_row _ _ 0 _ _ _ HW.out.choose_spec
        have CN : Hid (Calls Tryd.prog 6 #[.string ⟨#[37, 112, 49, 37, 112, 50, 37, 43, 37, 100]⟩] wr (NewPost wr (sumS 43))) := Lib.hid (new_any (sumS 43) wr)
        have CR : Hid (∀ w2 w3 cb v, CapAt w2 wr.heap.size cb v (sumS 43) ∧ Below wr.heap.size wr w2 → VarsAt w3 (w2.heap.size + 1) w2.heap.size (fun _ => prm0) ∧ Below w2.heap.size w2 w3 → Calls Tryd.prog 8 #[.pointer (some ⟨cb, 0, none⟩), .pointer (some ⟨w2.heap.size + 1, 0, none⟩), .slice (some ⟨w3.heap.size, 0, none⟩) 2 2] (w3.alloc (.cells #[.int .i32 a, .string ⟨#[]⟩, .bool false, .int .i32 b, .string ⟨#[]⟩, .bool false] 32)) fun e w' => e = .returned (.tuple #[str (itoa (binP 43 a b)), .int .i64 0, .int .i64 0]) ∧ Below wr.heap.size wr w') := Lib.hid fun w2 w3 cb v h1 h2 => run_sum (by unfold isOp; decide) a b HA.out.1 HA.out.2.1 h1 h2 HPW.out
        have hz := bin_ok (v := 43) (by unfold isBin; decide) HA.out.1 HA.out.2.1
        have CI : Hid (∀ W, Below wr.heap.size wr W → Calls Tryd.prog 7 #[.int .i64 (binP 43 a b)] W (StrPost W (itoa (binP 43 a b)))) := Lib.hid fun W hW => itoa_any _ (by omega) (by omega) W (HPW.out.below hW)
        have wz : wrap64 (binP 43 a b) = binP 43 a b := by unfold wrap64; omega
        clear hz
        unfold NewPost at CN
        unfold StrPost at CI
        generalize binP 43 a b = z at z0 CR CI wz
        go_wp2_with (first
          | (go_at_call 6; refine (CN.out).mono ?_; rintro e w2 ⟨cb, v, rfl, hc2, hb2⟩; have H2 := Lib.hid (And.intro hc2 hb2); clear hc2 hb2)
          | (go_at_call 9; refine (CV.out _).mono ?_; rintro e w3 ⟨rfl, hv3, hb3⟩; have H3 := Lib.hid (And.intro hv3 hb3); clear hv3 hb3)
          | (go_at_call 8; refine (CR.out _ _ _ _ H2.out H3.out).mono ?_; rintro e w4 ⟨rfl, hb4⟩; have z4 : w4.cell? ⟨w1.heap.size, 0, none⟩ = some (.int .i32 z) := (hb4.cell (p := ⟨w1.heap.size, 0, none⟩) HLT.out).trans z0; have H4 := Lib.hid hb4; clear hb4)
          | (go_at_call 7; refine (CI.out _ H4.out).mono ?_; rintro e w5 ⟨rfl, hb5⟩; have H5 := Lib.hid (H4.out.trans (hb5.mono H4.out.size)); clear hb5))
        go_roundw
        case rel => exact SumI.next (k := 0) (by omega) HB.out HW.out HO.out HPW.out H5.out
        case measure => simp [RowKit.intOf]
      · have o0 : wr.cell? ⟨w1.heap.size + 1, 1, none⟩ = some (opStr 45) := cell_of_row _ _ 1 _ _ _ HO.out.choose_spec
        have z0 : wr.cell? ⟨w1.heap.size, 1, none⟩ = some (.int .i32 (binP 45 a b)) := cell_of_row _ _ 1 _ _ _ HW.out.choose_spec
        have CN : Hid (Calls Tryd.prog 6 #[.string ⟨#[37, 112, 49, 37, 112, 50, 37, 45, 37, 100]⟩] wr (NewPost wr (sumS 45))) := Lib.hid (new_any (sumS 45) wr)
        have CR : Hid (∀ w2 w3 cb v, CapAt w2 wr.heap.size cb v (sumS 45) ∧ Below wr.heap.size wr w2 → VarsAt w3 (w2.heap.size + 1) w2.heap.size (fun _ => prm0) ∧ Below w2.heap.size w2 w3 → Calls Tryd.prog 8 #[.pointer (some ⟨cb, 0, none⟩), .pointer (some ⟨w2.heap.size + 1, 0, none⟩), .slice (some ⟨w3.heap.size, 0, none⟩) 2 2] (w3.alloc (.cells #[.int .i32 a, .string ⟨#[]⟩, .bool false, .int .i32 b, .string ⟨#[]⟩, .bool false] 32)) fun e w' => e = .returned (.tuple #[str (itoa (binP 45 a b)), .int .i64 0, .int .i64 0]) ∧ Below wr.heap.size wr w') := Lib.hid fun w2 w3 cb v h1 h2 => run_sum (by unfold isOp; decide) a b HA.out.1 HA.out.2.1 h1 h2 HPW.out
        have hz := bin_ok (v := 45) (by unfold isBin; decide) HA.out.1 HA.out.2.1
        have CI : Hid (∀ W, Below wr.heap.size wr W → Calls Tryd.prog 7 #[.int .i64 (binP 45 a b)] W (StrPost W (itoa (binP 45 a b)))) := Lib.hid fun W hW => itoa_any _ (by omega) (by omega) W (HPW.out.below hW)
        have wz : wrap64 (binP 45 a b) = binP 45 a b := by unfold wrap64; omega
        clear hz
        unfold NewPost at CN
        unfold StrPost at CI
        generalize binP 45 a b = z at z0 CR CI wz
        go_wp2_with (first
          | (go_at_call 6; refine (CN.out).mono ?_; rintro e w2 ⟨cb, v, rfl, hc2, hb2⟩; have H2 := Lib.hid (And.intro hc2 hb2); clear hc2 hb2)
          | (go_at_call 9; refine (CV.out _).mono ?_; rintro e w3 ⟨rfl, hv3, hb3⟩; have H3 := Lib.hid (And.intro hv3 hb3); clear hv3 hb3)
          | (go_at_call 8; refine (CR.out _ _ _ _ H2.out H3.out).mono ?_; rintro e w4 ⟨rfl, hb4⟩; have z4 : w4.cell? ⟨w1.heap.size, 1, none⟩ = some (.int .i32 z) := (hb4.cell (p := ⟨w1.heap.size, 1, none⟩) HLT.out).trans z0; have H4 := Lib.hid hb4; clear hb4)
          | (go_at_call 7; refine (CI.out _ H4.out).mono ?_; rintro e w5 ⟨rfl, hb5⟩; have H5 := Lib.hid (H4.out.trans (hb5.mono H4.out.size)); clear hb5))
        go_roundw
        case rel => exact SumI.next (k := 1) (by omega) HB.out HW.out HO.out HPW.out H5.out
        case measure => simp [RowKit.intOf]
      · have o0 : wr.cell? ⟨w1.heap.size + 1, 2, none⟩ = some (opStr 42) := cell_of_row _ _ 2 _ _ _ HO.out.choose_spec
        have z0 : wr.cell? ⟨w1.heap.size, 2, none⟩ = some (.int .i32 (binP 42 a b)) := cell_of_row _ _ 2 _ _ _ HW.out.choose_spec
        have CN : Hid (Calls Tryd.prog 6 #[.string ⟨#[37, 112, 49, 37, 112, 50, 37, 42, 37, 100]⟩] wr (NewPost wr (sumS 42))) := Lib.hid (new_any (sumS 42) wr)
        have CR : Hid (∀ w2 w3 cb v, CapAt w2 wr.heap.size cb v (sumS 42) ∧ Below wr.heap.size wr w2 → VarsAt w3 (w2.heap.size + 1) w2.heap.size (fun _ => prm0) ∧ Below w2.heap.size w2 w3 → Calls Tryd.prog 8 #[.pointer (some ⟨cb, 0, none⟩), .pointer (some ⟨w2.heap.size + 1, 0, none⟩), .slice (some ⟨w3.heap.size, 0, none⟩) 2 2] (w3.alloc (.cells #[.int .i32 a, .string ⟨#[]⟩, .bool false, .int .i32 b, .string ⟨#[]⟩, .bool false] 32)) fun e w' => e = .returned (.tuple #[str (itoa (binP 42 a b)), .int .i64 0, .int .i64 0]) ∧ Below wr.heap.size wr w') := Lib.hid fun w2 w3 cb v h1 h2 => run_sum (by unfold isOp; decide) a b HA.out.1 HA.out.2.1 h1 h2 HPW.out
        have hz := bin_ok (v := 42) (by unfold isBin; decide) HA.out.1 HA.out.2.1
        have CI : Hid (∀ W, Below wr.heap.size wr W → Calls Tryd.prog 7 #[.int .i64 (binP 42 a b)] W (StrPost W (itoa (binP 42 a b)))) := Lib.hid fun W hW => itoa_any _ (by omega) (by omega) W (HPW.out.below hW)
        have wz : wrap64 (binP 42 a b) = binP 42 a b := by unfold wrap64; omega
        clear hz
        unfold NewPost at CN
        unfold StrPost at CI
        generalize binP 42 a b = z at z0 CR CI wz
        go_wp2_with (first
          | (go_at_call 6; refine (CN.out).mono ?_; rintro e w2 ⟨cb, v, rfl, hc2, hb2⟩; have H2 := Lib.hid (And.intro hc2 hb2); clear hc2 hb2)
          | (go_at_call 9; refine (CV.out _).mono ?_; rintro e w3 ⟨rfl, hv3, hb3⟩; have H3 := Lib.hid (And.intro hv3 hb3); clear hv3 hb3)
          | (go_at_call 8; refine (CR.out _ _ _ _ H2.out H3.out).mono ?_; rintro e w4 ⟨rfl, hb4⟩; have z4 : w4.cell? ⟨w1.heap.size, 2, none⟩ = some (.int .i32 z) := (hb4.cell (p := ⟨w1.heap.size, 2, none⟩) HLT.out).trans z0; have H4 := Lib.hid hb4; clear hb4)
          | (go_at_call 7; refine (CI.out _ H4.out).mono ?_; rintro e w5 ⟨rfl, hb5⟩; have H5 := Lib.hid (H4.out.trans (hb5.mono H4.out.size)); clear hb5))
        go_roundw
        case rel => exact SumI.next (k := 2) (by omega) HB.out HW.out HO.out HPW.out H5.out
        case measure => simp [RowKit.intOf]
      · have o0 : wr.cell? ⟨w1.heap.size + 1, 3, none⟩ = some (opStr 47) := cell_of_row _ _ 3 _ _ _ HO.out.choose_spec
        have z0 : wr.cell? ⟨w1.heap.size, 3, none⟩ = some (.int .i32 (binP 47 a b)) := cell_of_row _ _ 3 _ _ _ HW.out.choose_spec
        have CN : Hid (Calls Tryd.prog 6 #[.string ⟨#[37, 112, 49, 37, 112, 50, 37, 47, 37, 100]⟩] wr (NewPost wr (sumS 47))) := Lib.hid (new_any (sumS 47) wr)
        have CR : Hid (∀ w2 w3 cb v, CapAt w2 wr.heap.size cb v (sumS 47) ∧ Below wr.heap.size wr w2 → VarsAt w3 (w2.heap.size + 1) w2.heap.size (fun _ => prm0) ∧ Below w2.heap.size w2 w3 → Calls Tryd.prog 8 #[.pointer (some ⟨cb, 0, none⟩), .pointer (some ⟨w2.heap.size + 1, 0, none⟩), .slice (some ⟨w3.heap.size, 0, none⟩) 2 2] (w3.alloc (.cells #[.int .i32 a, .string ⟨#[]⟩, .bool false, .int .i32 b, .string ⟨#[]⟩, .bool false] 32)) fun e w' => e = .returned (.tuple #[str (itoa (binP 47 a b)), .int .i64 0, .int .i64 0]) ∧ Below wr.heap.size wr w') := Lib.hid fun w2 w3 cb v h1 h2 => run_sum (by unfold isOp; decide) a b HA.out.1 HA.out.2.1 h1 h2 HPW.out
        have hz := bin_ok (v := 47) (by unfold isBin; decide) HA.out.1 HA.out.2.1
        have CI : Hid (∀ W, Below wr.heap.size wr W → Calls Tryd.prog 7 #[.int .i64 (binP 47 a b)] W (StrPost W (itoa (binP 47 a b)))) := Lib.hid fun W hW => itoa_any _ (by omega) (by omega) W (HPW.out.below hW)
        have wz : wrap64 (binP 47 a b) = binP 47 a b := by unfold wrap64; omega
        clear hz
        unfold NewPost at CN
        unfold StrPost at CI
        generalize binP 47 a b = z at z0 CR CI wz
        go_wp2_with (first
          | (go_at_call 6; refine (CN.out).mono ?_; rintro e w2 ⟨cb, v, rfl, hc2, hb2⟩; have H2 := Lib.hid (And.intro hc2 hb2); clear hc2 hb2)
          | (go_at_call 9; refine (CV.out _).mono ?_; rintro e w3 ⟨rfl, hv3, hb3⟩; have H3 := Lib.hid (And.intro hv3 hb3); clear hv3 hb3)
          | (go_at_call 8; refine (CR.out _ _ _ _ H2.out H3.out).mono ?_; rintro e w4 ⟨rfl, hb4⟩; have z4 : w4.cell? ⟨w1.heap.size, 3, none⟩ = some (.int .i32 z) := (hb4.cell (p := ⟨w1.heap.size, 3, none⟩) HLT.out).trans z0; have H4 := Lib.hid hb4; clear hb4)
          | (go_at_call 7; refine (CI.out _ H4.out).mono ?_; rintro e w5 ⟨rfl, hb5⟩; have H5 := Lib.hid (H4.out.trans (hb5.mono H4.out.size)); clear hb5))
        go_roundw
        case rel => exact SumI.next (k := 3) (by omega) HB.out HW.out HO.out HPW.out H5.out
        case measure => simp [RowKit.intOf]
      · have o0 : wr.cell? ⟨w1.heap.size + 1, 4, none⟩ = some (opStr 109) := cell_of_row _ _ 4 _ _ _ HO.out.choose_spec
        have z0 : wr.cell? ⟨w1.heap.size, 4, none⟩ = some (.int .i32 (binP 109 a b)) := cell_of_row _ _ 4 _ _ _ HW.out.choose_spec
        have CN : Hid (Calls Tryd.prog 6 #[.string ⟨#[37, 112, 49, 37, 112, 50, 37, 109, 37, 100]⟩] wr (NewPost wr (sumS 109))) := Lib.hid (new_any (sumS 109) wr)
        have CR : Hid (∀ w2 w3 cb v, CapAt w2 wr.heap.size cb v (sumS 109) ∧ Below wr.heap.size wr w2 → VarsAt w3 (w2.heap.size + 1) w2.heap.size (fun _ => prm0) ∧ Below w2.heap.size w2 w3 → Calls Tryd.prog 8 #[.pointer (some ⟨cb, 0, none⟩), .pointer (some ⟨w2.heap.size + 1, 0, none⟩), .slice (some ⟨w3.heap.size, 0, none⟩) 2 2] (w3.alloc (.cells #[.int .i32 a, .string ⟨#[]⟩, .bool false, .int .i32 b, .string ⟨#[]⟩, .bool false] 32)) fun e w' => e = .returned (.tuple #[str (itoa (binP 109 a b)), .int .i64 0, .int .i64 0]) ∧ Below wr.heap.size wr w') := Lib.hid fun w2 w3 cb v h1 h2 => run_sum (by unfold isOp; decide) a b HA.out.1 HA.out.2.1 h1 h2 HPW.out
        have hz := bin_ok (v := 109) (by unfold isBin; decide) HA.out.1 HA.out.2.1
        have CI : Hid (∀ W, Below wr.heap.size wr W → Calls Tryd.prog 7 #[.int .i64 (binP 109 a b)] W (StrPost W (itoa (binP 109 a b)))) := Lib.hid fun W hW => itoa_any _ (by omega) (by omega) W (HPW.out.below hW)
        have wz : wrap64 (binP 109 a b) = binP 109 a b := by unfold wrap64; omega
        clear hz
        unfold NewPost at CN
        unfold StrPost at CI
        generalize binP 109 a b = z at z0 CR CI wz
        go_wp2_with (first
          | (go_at_call 6; refine (CN.out).mono ?_; rintro e w2 ⟨cb, v, rfl, hc2, hb2⟩; have H2 := Lib.hid (And.intro hc2 hb2); clear hc2 hb2)
          | (go_at_call 9; refine (CV.out _).mono ?_; rintro e w3 ⟨rfl, hv3, hb3⟩; have H3 := Lib.hid (And.intro hv3 hb3); clear hv3 hb3)
          | (go_at_call 8; refine (CR.out _ _ _ _ H2.out H3.out).mono ?_; rintro e w4 ⟨rfl, hb4⟩; have z4 : w4.cell? ⟨w1.heap.size, 4, none⟩ = some (.int .i32 z) := (hb4.cell (p := ⟨w1.heap.size, 4, none⟩) HLT.out).trans z0; have H4 := Lib.hid hb4; clear hb4)
          | (go_at_call 7; refine (CI.out _ H4.out).mono ?_; rintro e w5 ⟨rfl, hb5⟩; have H5 := Lib.hid (H4.out.trans (hb5.mono H4.out.size)); clear hb5))
        go_roundw
        case rel => exact SumI.next (k := 4) (by omega) HB.out HW.out HO.out HPW.out H5.out
        case measure => simp [RowKit.intOf]
      · go_wp2_with fail
        go_ret
        exact ⟨rfl, HB1.out.trans (HB.out.mono HB1.out.size)⟩
end Go.Proofs.YtgjebakjjgjojaaDoor
