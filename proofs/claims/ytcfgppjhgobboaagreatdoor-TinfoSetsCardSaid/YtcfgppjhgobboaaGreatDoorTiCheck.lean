/-
  What the parts of Check of package tinfo return.
-/
import Derived.Test.YtcfgppjhgobboaaGreatDoorTiCheckP
namespace Go.Proofs.YtcfgppjhgobboaaGreatDoor
open Go.RowKit Go.Shelf Go.Lib
attribute [local go_sem] Oper.semAt_some

theorem hasEnd_any (s : List UInt8) (w : World) : Calls Tryz.prog 145 #[str s] w fun e w' => e = .returned (.bool (hasEndP s)) ∧ w = w' := by
  have CC := Lib.hid (fun W => (Any.strings_Contains_one Tryz.layContains ⟨s.toArray⟩ 0 W).mono fun e w' (h : e = .returned (.bool (decide (0 ≤ indexByte s 0))) ∧ w' = W) => And.intro h.1 h.2.symm)
  go_enter Tryz.func145, Tryz.ntmps145
  go_wp2_with (go_at_call 156; refine (CC.out _).mono ?_; rintro e w' ⟨rfl, rfl⟩)
  go_ret
  exact ⟨rfl, rfl⟩
theorem isName_any (s : List UInt8) (w : World) : Calls Tryz.prog 128 #[str s] w fun e w' => e = .returned (.bool (isNameP s)) ∧ w = w' := by
  cases s with
  | nil =>
    go_enter Tryz.func128, Tryz.ntmps128
    go_wp2_with fail
    go_ret
    exact ⟨rfl, rfl⟩
  | cons c r =>
    have hne : (c :: r) ≠ [] := by simp
    have HV : Hid (isNameP (c :: r) = !hasEndP (c :: r)) := Lib.hid rfl
    have CH := Lib.hid (fun W => hasEnd_any (c :: r) W)
    generalize hasEndP (c :: r) = b at *
    generalize c :: r = s at *
    go_enter Tryz.func128, Tryz.ntmps128
    go_wp2_with (go_at_call 145; refine (CH.out _).mono ?_; rintro e w' ⟨rfl, rfl⟩)
    go_ret
    exact ⟨ret_bool (by rw [HV.out]; simp [hne]), rfl⟩
theorem maxNumber_any (b : Bool) (w : World) : Calls Tryz.prog 127 #[.bool b] w fun e w' => e = .returned (.int .i64 (topP b)) ∧ w = w' := by
  cases b
  all_goals
    go_enter Tryz.func127, Tryz.ntmps127
    go_wp2_with fail
    go_ret
    exact ⟨rfl, rfl⟩

/-- between two capabilities -/
def LoopB (w : World) (ok : Nat → Prop) (i : Value) (W : World) : Prop := ∃ k : Nat, i = .int .i64 k ∧ ok k ∧ Below w.heap.size w W
theorem any_next {α : Type} {l : List α} {f : α → Bool} {k : Nat} {x : α} (hx : l[k]? = some x) (h : (l.take k).any f = false) (hf : f x = false) : (l.take (k + 1)).any f = false := by
  rw [List.take_add_one, hx, List.any_append, h]
  simp [hf]
theorem any_at {α : Type} {l : List α} {f : α → Bool} {k : Nat} {x : α} (hx : l[k]? = some x) (hf : f x = true) : l.any f = true := List.any_eq_true.2 ⟨x, List.mem_of_getElem? hx, hf⟩
theorem any_end {α : Type} {l : List α} {f : α → Bool} {k : Nat} (hk : l.length ≤ k) (h : (l.take k).any f = false) : l.any f = false := by rwa [List.take_of_length_le hk] at h

set_option maxRecDepth 100000 in
theorem hasLong_any (w : World) (v : Value) (l : List CapD) (h : CapsV w v l) : Calls Tryz.prog 126 #[v] w fun e w' => e = .returned (.bool (longText l)) ∧ Below w.heap.size w w' := by
  obtain ⟨A, cap, rfl, hsm⟩ := h.form
  have H := Lib.hid h
  clear h
  obtain ⟨n, hn⟩ : ∃ n, l.length = n := ⟨_, rfl⟩
  have HN := Lib.hid hn
  rw [hn] at H hsm ⊢
  clear hn
  go_enter Tryz.func126, Tryz.ntmps126
  go_wp2_with fail
  go_loopw [7] (fun i wr => LoopB w (fun k => k ≤ n ∧ ((l.take k).any fun c => decide (1000 < c.text.length)) = false) i wr) (fun i _ => n - (RowKit.intOf i).toNat)
  case atStart => exact ⟨0, rfl, ⟨Nat.zero_le _, rfl⟩, Below.refl _ _⟩
  case round =>
    obtain ⟨k, rfl, ⟨hk, hno⟩, hb⟩ := hrel
    have HNO := Lib.hid hno
    have HB := Lib.hid hb
    clear hno hb
    by_cases hlt : k < n
    · obtain ⟨c, hc⟩ : ∃ c, l[k]? = some c := ⟨_, List.getElem?_eq_getElem (by rw [HN.out]; exact hlt)⟩
      obtain ⟨kb, off, rfl, hkb, g0, g1, g2⟩ := H.out.cells hc
      rw [← HB.out.cell (p := ⟨kb, off + k * 3, none⟩) hkb] at g0
      rw [← HB.out.cell (p := ⟨kb, off + k * 3 + 1, none⟩) hkb] at g1
      rw [← HB.out.cell (p := ⟨kb, off + k * 3 + 2, none⟩) hkb] at g2
      have HC := Lib.hid hc
      clear hc hkb
      by_cases hq : 1000 < c.text.length
      · have HQ := Lib.hid hq
        have hq' : (1000 : Int) < (c.text.length : Int) := by omega
        clear hq
        go_wp2_with fail
        go_ret
        exact ⟨ret_bool (by symm; exact any_at HC.out (by simpa using HQ.out)), HB.out.alloc HB.out.size _⟩
      · have HQ := Lib.hid hq
        have hq' : ¬ (1000 : Int) < (c.text.length : Int) := by omega
        clear hq
        go_wp2_with fail
        exact ⟨⟨k + 1, by go_num, ⟨hlt, any_next HC.out HNO.out (by simpa using HQ.out)⟩, HB.out.alloc HB.out.size _⟩, by simp [RowKit.intOf]; omega⟩
    · obtain rfl : k = n := by omega
      go_wp2_with fail
      go_ret
      exact ⟨ret_bool (by symm; exact any_end (Nat.le_of_eq HN.out) HNO.out), HB.out⟩

set_option maxRecDepth 100000 in
set_option maxHeartbeats 2000000 in
theorem fits_any (w : World) (c : CapD) (kind top : Int) : Calls Tryz.prog 146 #[capVal c, .int .i64 kind, .int .i64 top] w fun e w' => e = .returned (.bool (fitsP c kind top)) ∧ Below w.heap.size w w' := by
  obtain ⟨st, num, text⟩ := c
  have CH := Lib.hid (fun W => hasEnd_any text W)
  have HF : Hid (fitsP ⟨st, num, text⟩ kind top = fitsP ⟨st, num, text⟩ kind top) := Lib.hid rfl
  have HB := Lib.hid ((Below.refl _ w).alloc (Nat.le_refl _) (.cells #[.int .i64 st, .int .i64 num, str text] 37))
  go_enter Tryz.func146, Tryz.ntmps146
  go_wp2_with (go_at_call 145; refine (CH.out _).mono ?_; rintro e w' ⟨rfl, rfl⟩)
  all_goals
    go_ret
    refine ⟨ret_bool ?_, (Below.refl _ _).alloc (Nat.le_refl _) _⟩
    clear CH HF HB
    first
      | (simp [fitsP, bareP, *]; done)
      | (simp_all [fitsP, bareP]; done)
      | (have h2 : (st != 1) = false := by assumption
         have h3 : (kind == 0) = false := by assumption
         have h4 : (kind == 1) = true := by assumption
         simp only [bne_eq_false_iff_eq, beq_iff_eq, beq_eq_false_iff_ne, ne_eq] at h2 h3 h4
         symm
         unfold fitsP
         rw [if_pos h2, if_neg h3, if_pos h4]
         simp
         omega)

end Go.Proofs.YtcfgppjhgobboaaGreatDoor
