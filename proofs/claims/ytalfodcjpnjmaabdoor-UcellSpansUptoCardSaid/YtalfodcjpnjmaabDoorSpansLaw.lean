/-
  Proved here: the law UcellSpans returns true for every two slices of numbers and every column, where what it reads is of bulk at most 1048576, and leaves them as they were (two lists of runes one behind the other occupy as many cells as both).
  Conditions: those of the given card alone (that bound; the three tables lie as the program's text lays them).
-/
import Derived.Test.YtalfodcjpnjmaabDoorLive
import Derived.Test.YtalfodcjpnjmaabDoorWit
import Derived.Test.YtalfodcjpnjmaabDoorSpanP
namespace Go.Proofs.YtalfodcjpnjmaabDoor.lawSpans
open Go.ChangeShapes Go.WideShapes Go.ChangeAt Go.RowKit

theorem refRune (r : Int) (w : World) :
    Calls Tryd.prog 8 #[.int .i32 r] w fun e w' => e = .returned (.bool (vld r)) ∧ w = w' := by
  go_enter Tryd.func8, Tryd.ntmps8
  go_wp2
  all_goals go_ret
  all_goals exact ⟨ret_bool (by rw [Bool.eq_iff_iff]; simp [vld]; omega), rfl⟩

theorem runeVals_one (l : List Int) : ∀ u ∈ runeVals l, u.oneCell' = true := by
  intro u hu
  simp only [runeVals, List.mem_map] at hu
  obtain ⟨b, _, rfl⟩ := hu
  rfl
theorem runeVals_length (l : List Int) : (runeVals l).length = l.length := by simp [runeVals]

/-- outside of the columns that the law asks of -/
theorem walk_out (v0 v1 : Value) (n0 c0 : Nat) (A0 : Option Addr) (hv0 : v0 = .slice A0 n0 c0) (_hn0 : n0 ≤ 1048576) (col : Int) (w : World) (hT : Tabs w) (hcol : col < 0 ∨ 1073741824 < col) :
    Calls Tryd.prog 3 #[v0, v1, .int .i64 col] w fun e w' => e = .returned (.bool true) ∧ Below w.heap.size w w' := by
  subst hv0
  have CL := Lib.hid (live_any w hT)
  clear hT
  rcases hcol with hcol | hcol
  · go_enter Tryd.func3, Tryd.ntmps3
    go_wp2_with (go_at_call 6; refine (CL.out).mono ?_; rintro e w1 ⟨rfl, hb1⟩)
    go_ret
    exact ⟨rfl, hb1⟩
  · have h0 : ¬ col < 0 := by omega
    go_enter Tryd.func3, Tryd.ntmps3
    go_wp2_with (go_at_call 6; refine (CL.out).mono ?_; rintro e w1 ⟨rfl, hb1⟩)
    go_ret
    exact ⟨rfl, hb1⟩

theorem below_new (w : World) (o : Obj) : Below w.heap.size w (w.alloc o) := (Below.refl _ _).alloc (Nat.le_refl _) o
theorem own_empty (w : World) : (w.alloc (.cells #[] 21)).ownsRow w.heap.size 21 1 (.slice (some ⟨w.heap.size, 0, none⟩) 0 0) 0 [] :=
  ⟨rfl, .inr ⟨w.heap.size, 0, #[], rfl, Nat.le_refl _, heap_alloc_new w _, Nat.le_refl _, Nat.zero_le _, rfl, rfl⟩⟩
theorem start_add (col : Int) (n : Nat) (h : 0 ≤ col) : startOf (col + n) = (startOf col + n) % 8 := by
  unfold startOf
  omega

set_option maxHeartbeats 4000000 in
/-- the sums -/
theorem walk_sum (a b : List Int) (A0 A1 : Option Addr) (c0 c1 : Nat) (col : Int) (w : World) (hT : Tabs w) (h0 : Holds1 w (.slice A0 a.length c0) (runeVals a)) (h1 : Holds1 w (.slice A1 b.length c1) (runeVals b)) (hl0 : a.length ≤ 1048576) (hl1 : b.length ≤ 1048576)
    (hc0 : 0 ≤ col) (hc1 : col ≤ 1073741824) :
    Calls Tryd.prog 3 #[.slice A0 a.length c0, .slice A1 b.length c1, .int .i64 col] w fun e w' => e = .returned (.bool true) ∧ Below w.heap.size w w' := by
  obtain ⟨i0, hi, hz0, hz1, hz2⟩ := info_parts info_rune
  have CL := Lib.hid (live_any w hT)
  have HT := Lib.hid hT
  have H0 := Lib.hid h0
  have H1 := Lib.hid h1
  have hn := cellsP_length (startOf col) a
  have hT8 : Hid (∀ W, Below w.heap.size w W → Calls Tryd.prog 10 #[.slice A0 a.length c0, .int .i64 col] W fun e w' => e = .returned (.int .i64 (cellsP (startOf col) a).length) ∧ Below W.heap.size W w') :=
    Lib.hid fun W hW => span_any a _ col W (HT.out.below hW) (H0.out.below hW) (by omega)
  clear hT h0 h1
  by_cases hcomb : ∃ r rs, b = r :: rs ∧ ctl r = false ∧ vld r = true ∧ wid r = 0
  · obtain ⟨r, rs, rfl, q1, q2, q3⟩ := hcomb
    obtain ⟨_, _, e, _, hcells⟩ := H1.out
    injection e with e1 _ _
    subst e1
    obtain ⟨bb, off, rfl, hblk, hcell⟩ := hcells (by simp [runeVals])
    have hat : ∀ W, Below w.heap.size w W → W.cell? ⟨bb, off, none⟩ = some (.int .i32 r) := fun W hW => (hW.cell (p := ⟨bb, off, none⟩) hblk).trans (hcell 0 _ rfl)
    have HA := Lib.hid hat
    have CC := Lib.hid (fun W => control_any r W)
    have CR := Lib.hid (fun W => refRune r W)
    have CW := Lib.hid (fun W (hW : Below w.heap.size w W) => width_any r W (HT.out.below hW).d)
    rw [q1] at CC
    rw [q2] at CR
    rw [q3] at CW
    clear hat hcell hcells q1 q2 q3 hT8 hn H0 H1
    go_enter Tryd.func3, Tryd.ntmps3
    go_wp2_with (first
      | (go_at_call 6; refine (CL.out).mono ?_; rintro e w1 ⟨rfl, hb1⟩; have hcb := HA.out w1 hb1)
      | (go_at_call 7; refine (CC.out _).mono ?_; rintro e w' ⟨rfl, rfl⟩)
      | (go_at_call 8; refine (CR.out _).mono ?_; rintro e w' ⟨rfl, rfl⟩)
      | (go_at_call 9; refine (CW.out _ (by exact hb1)).mono ?_; rintro e w2 ⟨rfl, hb2⟩))
    go_ret
    exact ⟨rfl, hb1.trans (hb2.mono hb1.size)⟩
  · have hfirst : ∀ r rs, b = r :: rs → ctl r = true ∨ vld r = false ∨ ¬ wid r = 0 := fun r rs e => by
      by_cases k1 : ctl r = true
      · exact .inl k1
      · by_cases k2 : vld r = true
        · exact .inr (.inr fun k3 => hcomb ⟨r, rs, e, by simpa using k1, k2, k3⟩)
        · exact .inr (.inl (by simpa using k2))
    have hsum := span_two (startOf col) a b hfirst
    rw [← start_add col _ hc0] at hsum
    have CS := Lib.hid (fun v W (hW : Below w.heap.size w W) (hv : Holds1 W v (runeVals (a ++ b))) => span_any (a ++ b) v col W (HT.out.below hW) hv (by rw [List.length_append]; omega))
    have CB := Lib.hid (fun W (hW : Below w.heap.size w W) => span_any b _ (col + ((cellsP (startOf col) a).length : Int)) W (HT.out.below hW) (H1.out.below hW) (by omega))
    generalize (cellsP (startOf col) a).length = N at *
    have hTn := cellsP_length (startOf (col + (N : Int))) b
    generalize (cellsP (startOf (col + (N : Int))) b).length = T at *
    generalize (cellsP (startOf col) (a ++ b)).length = S at *
    have HSUM := Lib.hid hsum
    clear hcomb hsum
    rcases Nat.eq_zero_or_pos b.length with hbl | hbl
    · clear hfirst
      have hbl' : decide (0 < b.length) = false := by simp [hbl]
      clear hbl
      go_enter Tryd.func3, Tryd.ntmps3
      go_wp2_with (go_at_call 6; refine (CL.out).mono ?_; rintro e wX ⟨rfl, hbX⟩)
      refine (hT8.out wX hbX).mono ?_
      rintro e y1 ⟨rfl, hy1⟩
      have HY := Lib.hid (hbX.trans (hy1.mono hbX.size))
      clear hbX hy1
      have hys := HY.out.size
      have G0 := Lib.hid (H0.out.below (HY.out.trans ((below_new y1 (.cells #[] 21)).mono hys)))
      go_wp2_with (first
        | (at_builtin; refine append_holds (y1.alloc (.cells #[] 21)) rfl _ _ 22 rfl y1.heap.size 21 i0 (.int .i32 0) 4 Tryd.underlying22 hi hz0 hz1 hz2 rfl (.slice (some ⟨y1.heap.size, 0, none⟩) 0 0) 0 [] rfl (own_empty y1) (.slice A0 a.length c0) (runeVals a) (runeVals_one a) rfl G0.out (by rw [runeVals_length]; unfold maxLen; omega) (by rw [runeVals_length]; omega) (by simp) ?_; intro v1 z1 ho1 hz1'; have G1 := Lib.hid ho1; clear ho1; have G3 := Lib.hid ((below_new y1 (.cells #[] 21)).trans hz1'); have G2 := Lib.hid (HY.out.trans (G3.out.mono hys)); clear hz1')
        | (at_builtin; refine append_holds z1 rfl _ _ 22 rfl y1.heap.size 21 i0 (.int .i32 0) 4 Tryd.underlying22 hi hz0 hz1 hz2 rfl v1 (0 + (runeVals a).length) ([] ++ runeVals a) rfl G1.out _ (runeVals b) (runeVals_one b) rfl (by exact H1.out.below G2.out) (by rw [runeVals_length, runeVals_length]; unfold maxLen; omega) (by rw [runeVals_length, runeVals_length]; omega) G3.out.size ?_; intro v2 z2 ho2 hz2'; have G4 := Lib.hid ho2; clear ho2; have G5 := Lib.hid (G2.out.trans (hz2'.mono hys)); clear hz2'))
      refine (CS.out v2 z2 G5.out (by have := Holds1.of_own G4.out; rw [List.nil_append] at this; simpa [runeVals] using this)).mono ?_
      rintro e z3 ⟨rfl, hz3⟩
      have G6 := Lib.hid (G5.out.trans (hz3.mono G5.out.size))
      clear hz3
      go_wp2_with fail
      refine (CB.out z3 G6.out).mono ?_
      rintro e z4 ⟨rfl, hz4⟩
      have G7 := Lib.hid (G6.out.trans (hz4.mono G6.out.size))
      clear hz4
      go_wp2
      go_ret
      exact ⟨ret_bool (by have := HSUM.out; simp; omega), G7.out⟩
    · obtain ⟨r, rs, hb'⟩ : ∃ r rs, b = r :: rs := by
        cases b with
        | nil => simp at hbl
        | cons r rs => exact ⟨r, rs, rfl⟩
      have hr := hfirst r rs hb'
      clear hfirst
      obtain ⟨bb, off, hA1, hblk, hcell⟩ : ∃ bb off, A1 = some ⟨bb, off, none⟩ ∧ bb < w.heap.size ∧ ∀ j u, (runeVals b)[j]? = some u → w.cell? ⟨bb, off + j, none⟩ = some u := by
        obtain ⟨A', c', e, -, hcells⟩ := H1.out
        injection e with e1
        subst e1
        exact hcells (by rw [runeVals_length]; exact hbl)
      subst hA1
      have hat : ∀ W, Below w.heap.size w W → W.cell? ⟨bb, off, none⟩ = some (.int .i32 r) := fun W hW => (hW.cell (p := ⟨bb, off, none⟩) hblk).trans (hcell 0 _ (by rw [hb']; rfl))
      have HA := Lib.hid hat
      have CC := Lib.hid (fun W => control_any r W)
      have CR := Lib.hid (fun W => refRune r W)
      have CW := Lib.hid (fun W (hW : Below w.heap.size w W) => width_any r W (HT.out.below hW).d)
      clear hat hcell hb'
      by_cases k1 : ctl r = true
      · rw [k1] at CC
        clear hr k1 CR CW
        go_enter Tryd.func3, Tryd.ntmps3
        go_wp2_with (first
          | (go_at_call 6; refine (CL.out).mono ?_; rintro e wX ⟨rfl, hbX⟩; have hcb := HA.out wX hbX)
          | (go_at_call 7; refine (CC.out _).mono ?_; rintro e w' ⟨rfl, rfl⟩))
        refine (hT8.out wX hbX).mono ?_
        rintro e y1 ⟨rfl, hy1⟩
        have HY := Lib.hid (hbX.trans (hy1.mono hbX.size))
        clear hbX hy1
        have hys := HY.out.size
        have G0 := Lib.hid (H0.out.below (HY.out.trans ((below_new y1 (.cells #[] 21)).mono hys)))
        go_wp2_with (first
          | (at_builtin; refine append_holds (y1.alloc (.cells #[] 21)) rfl _ _ 22 rfl y1.heap.size 21 i0 (.int .i32 0) 4 Tryd.underlying22 hi hz0 hz1 hz2 rfl (.slice (some ⟨y1.heap.size, 0, none⟩) 0 0) 0 [] rfl (own_empty y1) (.slice A0 a.length c0) (runeVals a) (runeVals_one a) rfl G0.out (by rw [runeVals_length]; unfold maxLen; omega) (by rw [runeVals_length]; omega) (by simp) ?_; intro v1 z1 ho1 hz1'; have G1 := Lib.hid ho1; clear ho1; have G3 := Lib.hid ((below_new y1 (.cells #[] 21)).trans hz1'); have G2 := Lib.hid (HY.out.trans (G3.out.mono hys)); clear hz1')
          | (at_builtin; refine append_holds z1 rfl _ _ 22 rfl y1.heap.size 21 i0 (.int .i32 0) 4 Tryd.underlying22 hi hz0 hz1 hz2 rfl v1 (0 + (runeVals a).length) ([] ++ runeVals a) rfl G1.out _ (runeVals b) (runeVals_one b) rfl (by exact H1.out.below G2.out) (by rw [runeVals_length, runeVals_length]; unfold maxLen; omega) (by rw [runeVals_length, runeVals_length]; omega) G3.out.size ?_; intro v2 z2 ho2 hz2'; have G4 := Lib.hid ho2; clear ho2; have G5 := Lib.hid (G2.out.trans (hz2'.mono hys)); clear hz2'))
        refine (CS.out v2 z2 G5.out (by have := Holds1.of_own G4.out; rw [List.nil_append] at this; simpa [runeVals] using this)).mono ?_
        rintro e z3 ⟨rfl, hz3⟩
        have G6 := Lib.hid (G5.out.trans (hz3.mono G5.out.size))
        clear hz3
        go_wp2_with fail
        refine (CB.out z3 G6.out).mono ?_
        rintro e z4 ⟨rfl, hz4⟩
        have G7 := Lib.hid (G6.out.trans (hz4.mono G6.out.size))
        clear hz4
        go_wp2
        go_ret
        exact ⟨ret_bool (by have := HSUM.out; simp; omega), G7.out⟩
      · have k1' : ctl r = false := by simpa using k1
        rw [k1'] at CC
        by_cases k2 : vld r = true
        · have k3 : (wid r == 0) = false := by
            rw [beq_eq_false_iff_ne]
            rcases hr with h | h | h
            · exact absurd h k1
            · rw [k2] at h; cases h
            · exact h
          rw [k2] at CR
          clear hr k1 k1' k2
          generalize wid r = wd at *
          go_enter Tryd.func3, Tryd.ntmps3
          go_wp2_with (first
            | (go_at_call 6; refine (CL.out).mono ?_; rintro e wL ⟨rfl, hbL⟩; have hcb := HA.out wL hbL)
            | (go_at_call 7; refine (CC.out _).mono ?_; rintro e w' ⟨rfl, rfl⟩)
            | (go_at_call 8; refine (CR.out _).mono ?_; rintro e w' ⟨rfl, rfl⟩)
            | (go_at_call 9; refine (CW.out _ (by exact hbL)).mono ?_; rintro e wX ⟨rfl, hbW⟩; have hbX := hbL.trans (hbW.mono hbL.size); clear hbW))
          refine (hT8.out wX hbX).mono ?_
          rintro e y1 ⟨rfl, hy1⟩
          have HY := Lib.hid (hbX.trans (hy1.mono hbX.size))
          clear hbX hy1
          have hys := HY.out.size
          have G0 := Lib.hid (H0.out.below (HY.out.trans ((below_new y1 (.cells #[] 21)).mono hys)))
          go_wp2_with (first
            | (at_builtin; refine append_holds (y1.alloc (.cells #[] 21)) rfl _ _ 22 rfl y1.heap.size 21 i0 (.int .i32 0) 4 Tryd.underlying22 hi hz0 hz1 hz2 rfl (.slice (some ⟨y1.heap.size, 0, none⟩) 0 0) 0 [] rfl (own_empty y1) (.slice A0 a.length c0) (runeVals a) (runeVals_one a) rfl G0.out (by rw [runeVals_length]; unfold maxLen; omega) (by rw [runeVals_length]; omega) (by simp) ?_; intro v1 z1 ho1 hz1'; have G1 := Lib.hid ho1; clear ho1; have G3 := Lib.hid ((below_new y1 (.cells #[] 21)).trans hz1'); have G2 := Lib.hid (HY.out.trans (G3.out.mono hys)); clear hz1')
            | (at_builtin; refine append_holds z1 rfl _ _ 22 rfl y1.heap.size 21 i0 (.int .i32 0) 4 Tryd.underlying22 hi hz0 hz1 hz2 rfl v1 (0 + (runeVals a).length) ([] ++ runeVals a) rfl G1.out _ (runeVals b) (runeVals_one b) rfl (by exact H1.out.below G2.out) (by rw [runeVals_length, runeVals_length]; unfold maxLen; omega) (by rw [runeVals_length, runeVals_length]; omega) G3.out.size ?_; intro v2 z2 ho2 hz2'; have G4 := Lib.hid ho2; clear ho2; have G5 := Lib.hid (G2.out.trans (hz2'.mono hys)); clear hz2'))
          refine (CS.out v2 z2 G5.out (by have := Holds1.of_own G4.out; rw [List.nil_append] at this; simpa [runeVals] using this)).mono ?_
          rintro e z3 ⟨rfl, hz3⟩
          have G6 := Lib.hid (G5.out.trans (hz3.mono G5.out.size))
          clear hz3
          go_wp2_with fail
          refine (CB.out z3 G6.out).mono ?_
          rintro e z4 ⟨rfl, hz4⟩
          have G7 := Lib.hid (G6.out.trans (hz4.mono G6.out.size))
          clear hz4
          go_wp2
          go_ret
          exact ⟨ret_bool (by have := HSUM.out; simp; omega), G7.out⟩
        · have k2' : vld r = false := by simpa using k2
          rw [k2'] at CR
          clear hr k1 k1' k2 k2' CW
          go_enter Tryd.func3, Tryd.ntmps3
          go_wp2_with (first
            | (go_at_call 6; refine (CL.out).mono ?_; rintro e wX ⟨rfl, hbX⟩; have hcb := HA.out wX hbX)
            | (go_at_call 7; refine (CC.out _).mono ?_; rintro e w' ⟨rfl, rfl⟩)
            | (go_at_call 8; refine (CR.out _).mono ?_; rintro e w' ⟨rfl, rfl⟩))
          refine (hT8.out wX hbX).mono ?_
          rintro e y1 ⟨rfl, hy1⟩
          have HY := Lib.hid (hbX.trans (hy1.mono hbX.size))
          clear hbX hy1
          have hys := HY.out.size
          have G0 := Lib.hid (H0.out.below (HY.out.trans ((below_new y1 (.cells #[] 21)).mono hys)))
          go_wp2_with (first
            | (at_builtin; refine append_holds (y1.alloc (.cells #[] 21)) rfl _ _ 22 rfl y1.heap.size 21 i0 (.int .i32 0) 4 Tryd.underlying22 hi hz0 hz1 hz2 rfl (.slice (some ⟨y1.heap.size, 0, none⟩) 0 0) 0 [] rfl (own_empty y1) (.slice A0 a.length c0) (runeVals a) (runeVals_one a) rfl G0.out (by rw [runeVals_length]; unfold maxLen; omega) (by rw [runeVals_length]; omega) (by simp) ?_; intro v1 z1 ho1 hz1'; have G1 := Lib.hid ho1; clear ho1; have G3 := Lib.hid ((below_new y1 (.cells #[] 21)).trans hz1'); have G2 := Lib.hid (HY.out.trans (G3.out.mono hys)); clear hz1')
            | (at_builtin; refine append_holds z1 rfl _ _ 22 rfl y1.heap.size 21 i0 (.int .i32 0) 4 Tryd.underlying22 hi hz0 hz1 hz2 rfl v1 (0 + (runeVals a).length) ([] ++ runeVals a) rfl G1.out _ (runeVals b) (runeVals_one b) rfl (by exact H1.out.below G2.out) (by rw [runeVals_length, runeVals_length]; unfold maxLen; omega) (by rw [runeVals_length, runeVals_length]; omega) G3.out.size ?_; intro v2 z2 ho2 hz2'; have G4 := Lib.hid ho2; clear ho2; have G5 := Lib.hid (G2.out.trans (hz2'.mono hys)); clear hz2'))
          refine (CS.out v2 z2 G5.out (by have := Holds1.of_own G4.out; rw [List.nil_append] at this; simpa [runeVals] using this)).mono ?_
          rintro e z3 ⟨rfl, hz3⟩
          have G6 := Lib.hid (G5.out.trans (hz3.mono G5.out.size))
          clear hz3
          go_wp2_with fail
          refine (CB.out z3 G6.out).mono ?_
          rintro e z4 ⟨rfl, hz4⟩
          have G7 := Lib.hid (G6.out.trans (hz4.mono G6.out.size))
          clear hz4
          go_wp2
          go_ret
          exact ⟨ret_bool (by have := HSUM.out; simp; omega), G7.out⟩

theorem walk (a b : List Int) (A0 A1 : Option Addr) (n0 c0 n1 c1 : Nat) (col : Int) (w : World) (hT : Tabs w) (h0 : Holds1 w (.slice A0 n0 c0) (runeVals a)) (h1 : Holds1 w (.slice A1 n1 c1) (runeVals b)) (e0 : a.length = n0) (e1 : b.length = n1) (hl0 : a.length ≤ 1048576) (hl1 : b.length ≤ 1048576) :
    Calls Tryd.prog 3 #[.slice A0 n0 c0, .slice A1 n1 c1, .int .i64 col] w fun e w' => e = .returned (.bool true) ∧ Below w.heap.size w w' := by
  subst e0 e1
  by_cases h : 0 ≤ col ∧ col ≤ 1073741824
  · exact walk_sum a b A0 A1 c0 c1 col w hT h0 h1 hl0 hl1 h.1 h.2
  · exact walk_out _ _ a.length c0 A0 rfl hl0 col w hT (by omega)

theorem contract (H : Type) (enc : TypeId × Value → H) (W : World) (base : Nat) (args : Array Value) (ds gs : List (DataW H)) (before : List MemPlace)
    (hval : ∀ (j : Nat) t v, Tryd.f3.params[j]? = some t → args[j]? = some v → Value.okWide Tryd.prog W .any base t v)
    (hW : DataW.Whole enc Tryd.prog Tryd.f3.params.toList Rows.ucellSpansSpec.vars false W args.toList ds gs before)
    (hcond : Rows.uptoSmall H (ds ++ gs) = true) (hL : laidMetH Tryd.prog Rows.ucellSpansUptoRow.laid W) :
    Calls Tryd.prog 3 args W fun e W' => ∃ v, e = .returned v ∧ Rows.ucellSpansSpec.post enc Tryd.prog Tryd.f3 false true false false W args v W' := by
  have hW' := hW
  obtain ⟨p, q, hA0, hV, rfl, hfz, hnd⟩ := hW
  have hA : DataW.TrodAll enc Tryd.prog W 0 (fun _ => true) true Tryd.f3.params.toList args.toList ds p := hA0
  rw [Tryd.params3] at hA hval
  obtain ⟨v0, vs0, d0, ds0, p0, q0, hargs, rfl, rfl, h0, r0⟩ := trodAll_cons hA
  obtain ⟨v1, vs1, d1, ds1, p1, q1, rfl, rfl, rfl, h1, r1⟩ := trodAll_cons r0
  obtain ⟨v2, vs2, d2, ds2, p2, q2, rfl, rfl, rfl, h2, r2⟩ := trodAll_cons r1
  obtain ⟨rfl, rfl, rfl⟩ := trodAll_nil r2
  obtain rfl : args = #[v0, v1, v2] := by cases args; simp_all
  obtain ⟨rfl, rfl⟩ := trodVars_none hV
  have k0 := h0
  have lt0 : ∀ x ∈ p0, x.block < W.heap.size := by obtain ⟨m, hm⟩ := k0; exact DataW.trod_lt m _ _ _ hm
  obtain ⟨a0, len0, cap0, rfl⟩ := okWide_slice Tryd.underlying22 (hval 0 22 v0 rfl rfl)
  obtain ⟨z0, sp0, e0, m0, wf0, hh0, hd0⟩ := holds_of_slice Tryd.underlying22 Tryd.underlying21 (by kernel_rfl) h0
  have k1 := h1
  have lt1 : ∀ x ∈ p1, x.block < W.heap.size := by obtain ⟨m, hm⟩ := k1; exact DataW.trod_lt m _ _ _ hm
  obtain ⟨a1, len1, cap1, rfl⟩ := okWide_slice Tryd.underlying22 (hval 1 22 v1 rfl rfl)
  obtain ⟨z1, sp1, e1, m1, wf1, hh1, hd1⟩ := holds_of_slice Tryd.underlying22 Tryd.underlying21 (by kernel_rfl) h1
  have k2 := h2
  have lt2 : ∀ x ∈ p2, x.block < W.heap.size := by obtain ⟨m, hm⟩ := k2; exact DataW.trod_lt m _ _ _ hm
  obtain ⟨x2, rfl, rfl, rfl, wx2⟩ := open_int Tryd.underlying3 (hval 2 3 v2 rfl rfl) h2
  have hbulk := bulk_of hcond
  simp only [List.append_nil, Rows.uptoBulkAll] at hbulk
  have b0 : z0.length ≤ 1048576 := Nat.le_trans (bulk_slice hd0) (by omega)
  have b1 : z1.length ≤ 1048576 := Nat.le_trans (bulk_slice hd1) (by omega)
  clear hA0
  refine (walk z0 z1 a0 a1 len0 cap0 len1 cap1 x2 W (tabs_of hL) hh0 hh1 e0 e1 b0 b1).mono fun e W' ⟨he, bel⟩ => ?_
  subst he
  exact ⟨_, rfl, _, _, _, [], _, [], hW', trodAll_mk1 (shut_bool Tryd.underlying4 _), (trodAll_cons_mk (Below.trod laidOut (by kernel_rfl) (of_decide_eq_true (by kernel_rfl)) k0 bel lt0) (trodAll_cons_mk (Below.trod laidOut (by kernel_rfl) (of_decide_eq_true (by kernel_rfl)) k1 bel lt1) (trodAll_cons_mk (Below.trod laidOut (by kernel_rfl) (of_decide_eq_true (by kernel_rfl)) k2 bel lt2) trodAll_mk0))), rfl, bel.frame _, fun h => by cases h⟩

theorem laid_met (os : Os) : laidMet Tryd.prog Rows.ucellSpansUptoRow.laid ((laidWorld os).forCall (fun _ _ => 0) ⟨#[], #[.slice none 0 0, .slice none 0 0, .int .i64 0], []⟩).memory :=
  laidMet_of_run' 8 (by kernel_rfl) (by kernel_rfl)
theorem reads (os : Os) {H : Type} (enc : TypeId × Value → H) : ∃ places, DataW.whole enc Tryd.prog ((laidWorld os).forCall (fun _ _ => 0) ⟨#[], #[.slice none 0 0, .slice none 0 0, .int .i64 0], []⟩).memory Tryd.f3.params.toList Rows.ucellSpansSpec.vars false #[Value.slice none 0 0, Value.slice none 0 0, Value.int .i64 0].toList 8 = some ([.nil, .nil, .lit (.int .i64 0)], [], places) :=
  ⟨[], by kernel_rfl⟩

set_option maxRecDepth 100000 in
theorem lifted (os : Os) (started : os.Started) (H : Type) (enc : TypeId × Value → H) (F : Stop.Interp) :
    ReturnsInHanded {} Tryd.checked os 3 .any ((Rows.OpenSpec.upto Rows.ucellSpansSpec).preRow enc Tryd.prog Tryd.f3 Rows.ucellSpansUptoRow.domain false Rows.ucellSpansUptoRow.laid) (((Rows.OpenSpec.upto Rows.ucellSpansSpec).at F).post enc Tryd.prog Tryd.f3 false true false false) := by
  obtain ⟨places, hx⟩ := reads os enc
  refine returnsInHanded_of_row (C := Tryd.checked) (s := Rows.OpenSpec.upto Rows.ucellSpansSpec) own started (by kernel_rfl) Tryd.func3
    (witness_row_at (enc := enc) (C := Tryd.checked) false (laidWorld os) #[.slice none 0 0, .slice none 0 0, .int .i64 0] rfl (by kernel_rfl) (by kernel_rfl) (by kernel_rfl)
      (OpenSpec.preRow_of_cond 8 hx (by kernel_rfl) (fun k hk => by cases hk; kernel_rfl) (by kernel_rfl) (laid_met os))) ?_
  intro W base args ds gs before hval hW _ hcond _ hL _ _
  exact contract H enc W base args ds gs before hval hW (hcond _ rfl) hL

theorem said : Rows.UcellSpansUptoSaid :=
  OpenClaim.holds_of_cond 3 Tryd.f3 rfl rfl rfl rfl rfl rfl rfl ⟨rfl, rfl, rfl, rfl, rfl⟩ rfl rfl rfl rfl rfl (by kernel_rfl) Tryd.func3 (by kernel_rfl)
    (of_decide_eq_true (by kernel_rfl)) (by unfold Func.isWrapper; first | (rw [if_pos (by decide +kernel)]; kernel_rfl) | (rw [if_neg (by decide +kernel)]; exact ⟨rfl, rfl⟩))
    (fun os started H enc _ F => by rw [OpenClaim.pre_eq_preRow]; exact lifted os started H enc F)

theorem plain (f : FuncId) (fn : Func) (hf : Tryd.pinned.checked.prog.funcNamed "lanyard/lanyardlaw01.UcellSpans" = some f) (hfn : Tryd.pinned.checked.prog.funcs[f]? = some fn) :
    false = Tryd.pinned.checked.prog.looks [] ∧ ∀ (j : Nat) t, fn.params[j]? = some t → Tryd.pinned.checked.prog.wantsStandIn t = false := by
  obtain rfl : f = 3 := Option.some.inj ((show Tryd.prog.funcNamed "lanyard/lanyardlaw01.UcellSpans" = some 3 by kernel_rfl).symm.trans hf) |>.symm
  obtain rfl : fn = Tryd.f3 := (Option.some.inj (Tryd.func3.symm.trans hfn)).symm
  refine ⟨by kernel_rfl, fun j t ht => ?_⟩
  rw [Tryd.params3] at ht
  have ht' := Array.mem_of_getElem? ht
  simp at ht'
  rcases ht' with rfl | rfl
  · exact (show Tryd.prog.wantsStandIn 22 = false by kernel_rfl)
  · exact (show Tryd.prog.wantsStandIn 3 = false by kernel_rfl)

theorem card : Rows.UcellSpansUptoCardSaid :=
  Claim7.holds_tied_plain_at .later [] _ _ _ _ said (fun _ h => by cases h) (by kernel_rfl) (fun _ h => by cases h) ucellSpansUpto_row_tie rfl ⟨rfl, rfl⟩ (by kernel_rfl) rfl plain (by kernel_rfl)


end Go.Proofs.YtalfodcjpnjmaabDoor.lawSpans
