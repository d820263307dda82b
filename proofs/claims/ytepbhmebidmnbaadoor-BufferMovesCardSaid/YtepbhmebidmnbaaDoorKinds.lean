/-
  What ucell's functions on single runes return, for every rune.
-/
import Derived.Test.YtepbhmebidmnbaaDoorProg
import Derived.Test.YtepbhmebidmnbaaDoorPlain
import Derived.WalkKit
import Derived.Lib.Hide
import Derived.Laws.Rows
namespace Go.Proofs.YtepbhmebidmnbaaDoor
open Go.RowKit

theorem ret_bool {a b : Bool} (h : a = b) : Ending.returned (.bool a) = .returned (.bool b) := by rw [h]

theorem control_any (r : Int) (w : World) :
    Calls Tryd.prog 80 #[.int .i32 r] w fun e w' => e = .returned (.bool (ctl r)) ∧ w = w' := by
  go_enter Tryd.func80, Tryd.ntmps80
  go_wp2
  all_goals go_ret
  all_goals exact ⟨ret_bool (by rw [Bool.eq_iff_iff]; simp [ctl]; omega), rfl⟩

theorem valid_any (r : Int) (w : World) :
    Calls Tryd.prog 85 #[.int .i32 r] w fun e w' => e = .returned (.bool (vld r)) ∧ w = w' := by
  go_enter Tryd.func85, Tryd.ntmps85
  go_wp2
  all_goals go_ret
  all_goals exact ⟨ret_bool (by rw [Bool.eq_iff_iff]; simp [vld]; omega), rfl⟩

theorem ret_i64 {a b : Int} (h : a = b) : Ending.returned (.int .i64 a) = .returned (.int .i64 b) := by rw [h]

theorem wid_index (k : Nat) (s : Int × Int × Int) (h : widT[k]? = some s) (w : World) :
    (Instr.index 90 (.agg widCells) (.int .i64 (k : Int))).run Tryd.prog w = .ok (.agg #[.int .i32 s.1, .int .i32 s.2.1, .int .i64 s.2.2]) w := by
  have hk : k < 29 := by have := (List.getElem?_eq_some_iff.1 h).1; rwa [widT_len] at this
  have e := widRow_at k s h
  have hz : (sizeOf 89).run Tryd.prog w = .ok 3 w := by kernel_rfl
  simp [Instr.index, asIntOf, run_underlying Tryd.underlying90, part, hz, e]
  omega

/-- the table of widths lies in its variable -/
def WidTab (w : World) : Prop := ∃ t fr, w.heap[0]? = some (.cells widCells t fr)

theorem width_loop (r : Int) (w : World) (hT : WidTab w) (hg : ctl r = false) (hv : vld r = true) :
    Calls Tryd.prog 79 #[.int .i32 r] w fun e w' => e = .returned (.int .i64 (widFrom widT r)) ∧ Below w.heap.size w w' := by
  have cc := control_any r w
  have cv := valid_any r w
  rw [hg] at cc
  rw [hv] at cv
  have CC := Lib.hid cc
  have CV := Lib.hid cv
  clear cc cv hg hv
  obtain ⟨t, fr, hw⟩ := hT
  have HW := Lib.hid hw
  clear hw
  go_enter Tryd.func79, Tryd.ntmps79
  go_wp2_with (first
    | (go_at_call 80; refine (CC.out).mono ?_; rintro e w' ⟨rfl, rfl⟩)
    | (go_at_call 85; refine (CV.out).mono ?_; rintro e w' ⟨rfl, rfl⟩)
    | (refine wpList_load_row rfl 90 _ rfl 0 rfl t widCells fr _ HW.out Tryd.underlying90 rfl (by kernel_rfl) ?_))
  go_loopw [13] (fun i wr => ∃ k : Nat, k ≤ 29 ∧ i = .int .i64 k ∧ widFrom (widT.drop k) r = widFrom widT r ∧ Below w.heap.size w wr) (fun i _ => 29 - (intOf i).toNat)
  case atStart => exact ⟨0, by omega, rfl, rfl, Below.refl _ _⟩
  case round =>
    obtain ⟨k, hk, rfl, hrest, hb⟩ := hrel
    have HR := Lib.hid hrest
    clear hrest HW
    by_cases hlt : k < 29
    · obtain ⟨s, hs⟩ : ∃ s, widT[k]? = some s := ⟨widT[k]'(by rw [widT_len]; exact hlt), List.getElem?_eq_getElem _⟩
      have hidx := wid_index k s hs
      have HF := Lib.hid (widFrom_at k s r hs)
      clear hs
      obtain ⟨lo, hi, c⟩ := s
      simp only at hidx HF
      have hsz := hb.size
      by_cases h1 : lo ≤ r
      · by_cases h2 : r ≤ hi
        · go_wp2
          go_ret
          exact ⟨ret_i64 (by rw [← HR.out, HF.out, if_pos ⟨h1, h2⟩]), (hb.alloc hsz _)⟩
        · go_wp2
          go_roundw
          case rel => exact ⟨k + 1, by omega, by go_num, by rw [← HR.out, HF.out, if_neg (by omega)], (hb.alloc hsz _)⟩
          case measure => simp [intOf]; omega
      · go_wp2
        go_roundw
        case rel => exact ⟨k + 1, by omega, by go_num, by rw [← HR.out, HF.out, if_neg (by omega)], (hb.alloc hsz _)⟩
        case measure => simp [intOf]; omega
    · go_wp2
      go_ret
      exact ⟨ret_i64 (by rw [← HR.out, List.drop_of_length_le (by rw [widT_len]; omega)]; rfl), hb⟩


theorem width_any (r : Int) (w : World) (hT : WidTab w) :
    Calls Tryd.prog 79 #[.int .i32 r] w fun e w' => e = .returned (.int .i64 (wid r)) ∧ Below w.heap.size w w' := by
  by_cases hg : ctl r = true
  · have hz : wid r = 0 := by simp [wid, hg]
    rw [hz]
    clear hz
    have cc := control_any r w
    rw [hg] at cc
    have CC := Lib.hid cc
    clear cc hg hT
    go_enter Tryd.func79, Tryd.ntmps79
    go_wp2_with (go_at_call 80; refine (CC.out).mono ?_; rintro e w' ⟨rfl, rfl⟩)
    go_ret
    exact ⟨rfl, Below.refl _ _⟩
  · have hg' : ctl r = false := by simpa using hg
    clear hg
    by_cases hv : vld r = true
    · have hz : wid r = widFrom widT r := by simp [wid, hg', hv]
      rw [hz]
      exact width_loop r w hT hg' hv
    · have hv' : vld r = false := by simpa using hv
      have hz : wid r = 0 := by simp [wid, hv']
      rw [hz]
      clear hz hv
      have cc := control_any r w
      have cv := valid_any r w
      rw [hg'] at cc
      rw [hv'] at cv
      have CC := Lib.hid cc
      have CV := Lib.hid cv
      clear cc cv hg' hv' hT
      go_enter Tryd.func79, Tryd.ntmps79
      go_wp2_with (first
        | (go_at_call 80; refine (CC.out).mono ?_; rintro e w' ⟨rfl, rfl⟩)
        | (go_at_call 85; refine (CV.out).mono ?_; rintro e w' ⟨rfl, rfl⟩))
      go_ret
      exact ⟨rfl, Below.refl _ _⟩

end Go.Proofs.YtepbhmebidmnbaaDoor
