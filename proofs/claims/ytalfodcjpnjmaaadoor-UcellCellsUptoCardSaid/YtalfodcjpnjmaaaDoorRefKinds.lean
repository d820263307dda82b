/-
  What the document's own functions on single runes return, and ucell's Letter, Upper and Lower, for every rune.
-/
import Derived.Test.YtalfodcjpnjmaaaDoorMem
namespace Go.Proofs.YtalfodcjpnjmaaaDoor
open Go.RowKit

/-- whether a number lies in one of some ranges -/
def inP : List Int → Int → Bool
  | a :: b :: l, r => decide (a ≤ r ∧ r ≤ b) || inP l r
  | _, _ => false
/-- rows of one width -/
def rowsOf (c : Int) : List Int → List (Int × Int × Int)
  | a :: b :: l => (a, b, c) :: rowsOf c l
  | _ => []
def zeroL : List Int := [768, 879, 1155, 1161, 1425, 1469, 1552, 1562, 1611, 1631, 3633, 3633, 3636, 3642, 3655, 3662, 6832, 6911, 7616, 7679, 8203, 8207, 8400, 8447, 12441, 12442, 65024, 65039, 65056, 65071]
def wideL : List Int := [4352, 4447, 11904, 12350, 12353, 13311, 13312, 19903, 19968, 40959, 40960, 42191, 44032, 55203, 63744, 64255, 65072, 65135, 65280, 65376, 65504, 65510, 127744, 128591, 129280, 129535, 131072, 262141]
theorem widT_rows : widT = rowsOf 0 zeroL ++ rowsOf 2 wideL := rfl
theorem widFrom_rows (c r : Int) (m : List (Int × Int × Int)) : ∀ (n : Nat) (l : List Int), l.length = 2 * n → widFrom (rowsOf c l ++ m) r = if inP l r = true then c else widFrom m r := by
  intro n
  induction n with
  | zero =>
    intro l hl
    obtain rfl : l = [] := List.eq_nil_of_length_eq_zero (by omega)
    simp [rowsOf, inP]
  | succ n ih =>
    intro l hl
    match l, hl with
    | a :: b :: l, hl =>
      have := ih l (by simp at hl; omega)
      by_cases h : a ≤ r ∧ r ≤ b
      · simp [rowsOf, inP, widFrom, h]
      · simp only [rowsOf, inP, List.cons_append, widFrom, this]
        rw [if_neg h]
        simp [h]
    | [_], hl => simp at hl; omega
    | [], hl => simp at hl
theorem wid_in (r : Int) : widFrom widT r = if inP zeroL r = true then 0 else if inP wideL r = true then 2 else 1 := by
  rw [widT_rows, widFrom_rows 0 r _ 15 zeroL rfl]
  have := widFrom_rows 2 r [] 14 wideL rfl
  rw [List.append_nil] at this
  rw [this]
  rfl

theorem refRune_any (r : Int) (w : World) :
    Calls Tryd.prog 36 #[.int .i32 r] w fun e w' => e = .returned (.bool (vld r)) ∧ w = w' := by
  go_enter Tryd.func36, Tryd.ntmps36
  go_wp2
  all_goals go_ret
  all_goals exact ⟨ret_bool (by rw [Bool.eq_iff_iff]; simp [vld]; omega), rfl⟩

theorem refControl_any (r : Int) (w : World) :
    Calls Tryd.prog 19 #[.int .i32 r] w fun e w' => e = .returned (.bool (ctl r)) ∧ w = w' := by
  go_enter Tryd.func19, Tryd.ntmps19
  go_wp2
  all_goals go_ret
  all_goals exact ⟨ret_bool (by rw [Bool.eq_iff_iff]; simp [ctl]; omega), rfl⟩

theorem inP_step (l : List Int) (r : Int) (k : Nat) (h : 2 * k + 1 < l.length) : inP (l.drop (2 * k)) r = (decide (l[2 * k] ≤ r ∧ r ≤ l[2 * k + 1]) || inP (l.drop (2 * (k + 1))) r) := by
  rw [List.drop_eq_getElem_cons (by omega), List.drop_eq_getElem_cons (i := 2 * k + 1) h]
  rfl
theorem inP_stop (l : List Int) (r : Int) (k : Nat) (h : ¬ 2 * k + 1 < l.length) : inP (l.drop (2 * k)) r = false := by
  have : (l.drop (2 * k)).length ≤ 1 := by rw [List.length_drop]; omega
  match l.drop (2 * k), this with
  | [], _ => rfl
  | [_], _ => rfl

theorem in_any (r : Int) (l : List Int) (v : Value) (w : World) (hv : Holds1 w v (runeVals l)) (hl : l.length ≤ 1000000) :
    Calls Tryd.prog 43 #[.int .i32 r, v] w fun e w' => e = .returned (.bool (inP l r)) ∧ w = w' := by
  obtain ⟨A, c, hvv, hc, h⟩ := hv
  have e : (runeVals l).length = l.length := by simp [runeVals]
  rw [e] at hvv h
  subst hvv
  have H := Lib.hid h
  clear h e hc
  go_enter Tryd.func43, Tryd.ntmps43
  go_wp2
  go_loop [5] (fun i => ∃ k : Nat, 2 * k ≤ l.length + 1 ∧ i = .int .i64 ((2 * k : Nat) : Int) ∧ inP (l.drop (2 * k)) r = inP l r) (fun i => l.length + 2 - (intOf i).toNat)
  case atStart => exact ⟨0, by omega, rfl, rfl⟩
  case round =>
    obtain ⟨k, hk, rfl, hin⟩ := hrel
    have HI := Lib.hid hin
    clear hin
    by_cases hlt : 2 * k + 1 < l.length
    · obtain ⟨b, off, rfl, _, hcell⟩ := H.out (by omega)
      have h1 := hcell (2 * k) (.int .i32 l[2 * k]) (by simp [runeVals, show 2 * k < l.length by omega])
      have h2 := hcell (2 * k + 1) (.int .i32 l[2 * k + 1]) (by simp [runeVals, hlt])
      have HS := Lib.hid (inP_step l r k hlt)
      clear hcell H
      generalize l[2 * k] = x at *
      generalize l[2 * k + 1] = y at *
      generalize hj : 2 * k = j at *
      have HJ := Lib.hid hj
      clear hj
      by_cases hx : x ≤ r
      · by_cases hy : r ≤ y
        · go_wp2
          go_ret
          exact ⟨ret_bool (by rw [← HI.out, HS.out]; simp [hx, hy]), rfl⟩
        · go_wp2
          go_round
          case rel => exact ⟨k + 1, by have := HJ.out; omega, by have := HJ.out; rw [← this]; go_num, by rw [← HI.out, HS.out]; simp [hy]⟩
          case measure => simp [intOf]; omega
      · go_wp2
        go_round
        case rel => exact ⟨k + 1, by have := HJ.out; omega, by have := HJ.out; rw [← this]; go_num, by rw [← HI.out, HS.out]; simp [hx]⟩
        case measure => simp [intOf]; omega
    · have HZ := Lib.hid (inP_stop l r k hlt)
      have hge : ¬ (((2 * k : Nat) : Int) + 1 < (l.length : Int)) := by omega
      go_wp2
      go_ret
      exact ⟨ret_bool (by rw [← HI.out, HZ.out]), rfl⟩

theorem below_one (w : World) (o : Obj) : Below w.heap.size w (w.alloc o) := (Below.refl _ _).alloc (Nat.le_refl _) o
theorem below_two (w : World) (o o' : Obj) : Below w.heap.size w ((w.alloc o).alloc o') := (below_one w o).alloc (by simp) o'

theorem zero_cells : (runeVals zeroL).toArray = #[.int .i32 768, .int .i32 879, .int .i32 1155, .int .i32 1161, .int .i32 1425, .int .i32 1469, .int .i32 1552, .int .i32 1562, .int .i32 1611, .int .i32 1631, .int .i32 3633, .int .i32 3633, .int .i32 3636, .int .i32 3642, .int .i32 3655, .int .i32 3662, .int .i32 6832, .int .i32 6911, .int .i32 7616, .int .i32 7679, .int .i32 8203, .int .i32 8207, .int .i32 8400, .int .i32 8447, .int .i32 12441, .int .i32 12442, .int .i32 65024, .int .i32 65039, .int .i32 65056, .int .i32 65071] := by kernel_rfl
theorem wide_cells : (runeVals wideL).toArray = #[.int .i32 4352, .int .i32 4447, .int .i32 11904, .int .i32 12350, .int .i32 12353, .int .i32 13311, .int .i32 13312, .int .i32 19903, .int .i32 19968, .int .i32 40959, .int .i32 40960, .int .i32 42191, .int .i32 44032, .int .i32 55203, .int .i32 63744, .int .i32 64255, .int .i32 65072, .int .i32 65135, .int .i32 65280, .int .i32 65376, .int .i32 65504, .int .i32 65510, .int .i32 127744, .int .i32 128591, .int .i32 129280, .int .i32 129535, .int .i32 131072, .int .i32 262141] := by kernel_rfl

theorem refWidth_any (r : Int) (w : World) :
    Calls Tryd.prog 17 #[.int .i32 r] w fun e w' => e = .returned (.int .i64 (wid r)) ∧ Below w.heap.size w w' := by
  have CR := Lib.hid (refRune_any r w)
  have CC := Lib.hid (refControl_any r w)
  by_cases hv : vld r = true
  · by_cases hc : ctl r = true
    · have e : wid r = 0 := by simp [wid, hc]
      rw [e]
      rw [hv] at CR
      rw [hc] at CC
      clear e hv hc
      go_enter Tryd.func17, Tryd.ntmps17
      go_wp2_with (first
        | (go_at_call 36; refine (CR.out).mono ?_; rintro e w' ⟨rfl, rfl⟩)
        | (go_at_call 19; refine (CC.out).mono ?_; rintro e w' ⟨rfl, rfl⟩))
      go_ret
      exact ⟨rfl, Below.refl _ _⟩
    · have hc' : ctl r = false := by simpa using hc
      have e : wid r = if inP zeroL r = true then 0 else if inP wideL r = true then 2 else 1 := by rw [← wid_in]; simp [wid, hv, hc']
      rw [e]
      rw [hv] at CR
      rw [hc'] at CC
      clear e hv hc hc'
      have c1 := in_any r zeroL (.slice (some ⟨w.heap.size, 0, none⟩) 30 30) (w.alloc (.cells (runeVals zeroL).toArray 21)) (Holds1.built (xs := runeVals zeroL)) (by decide)
      have c2 := in_any r wideL (.slice (some ⟨(w.alloc (.cells (runeVals zeroL).toArray 21)).heap.size, 0, none⟩) 28 28) ((w.alloc (.cells (runeVals zeroL).toArray 21)).alloc (.cells (runeVals wideL).toArray 21)) (Holds1.built (xs := runeVals wideL)) (by decide)
      rw [zero_cells] at c1 c2
      rw [wide_cells] at c2
      simp only [World.size_alloc] at c2
      generalize inP zeroL r = z at *
      generalize inP wideL r = y at *
      have C1 := Lib.hid c1
      have C2 := Lib.hid c2
      clear c1 c2
      go_enter Tryd.func17, Tryd.ntmps17
      go_wp2_with (first
        | (go_at_call 36; refine (CR.out).mono ?_; rintro e w' ⟨rfl, rfl⟩)
        | (go_at_call 19; refine (CC.out).mono ?_; rintro e w' ⟨rfl, rfl⟩))
      refine (C1.out).mono ?_
      rintro e w' ⟨rfl, rfl⟩
      cases z
      · go_wp2_with fail
        refine (C2.out).mono ?_
        rintro e w' ⟨rfl, rfl⟩
        cases y
        · go_wp2
          go_ret
          exact ⟨rfl, below_two _ _ _⟩
        · go_wp2
          go_ret
          exact ⟨rfl, below_two _ _ _⟩
      · go_wp2
        go_ret
        exact ⟨rfl, below_one _ _⟩
  · have hv' : vld r = false := by simpa using hv
    have e : wid r = 0 := by simp [wid, hv']
    rw [e]
    rw [hv'] at CR
    clear e hv hv'
    go_enter Tryd.func17, Tryd.ntmps17
    go_wp2_with (go_at_call 36; refine (CR.out).mono ?_; rintro e w' ⟨rfl, rfl⟩)
    go_ret
    exact ⟨rfl, Below.refl _ _⟩

/-- a letter, x being the rune's width -/
def letQ (r x : Int) : Bool :=
  decide ((48 ≤ r ∧ r ≤ 57 ∨ 65 ≤ r ∧ r ≤ 90 ∨ 97 ≤ r ∧ r ≤ 122) ∨
    192 ≤ r ∧ r ≠ 215 ∧ r ≠ 247 ∧ r ≠ 65533 ∧ ¬ (8192 ≤ r ∧ r ≤ 8303) ∧ ¬ (12288 ≤ r ∧ r ≤ 12351) ∧ ¬ (65280 ≤ r ∧ r ≤ 65295) ∧ x ≠ 0)

set_option maxHeartbeats 1000000 in
theorem letter_any (r : Int) (w : World) (hT : WidTab w) :
    Calls Tryd.prog 20 #[.int .i32 r] w fun e w' => e = .returned (.bool (letQ r (wid r))) ∧ Below w.heap.size w w' := by
  have CW := Lib.hid (width_any r w hT)
  clear hT
  generalize wid r = x at *
  go_enter Tryd.func20, Tryd.ntmps20
  go_wp2_with (go_at_call 16; refine (CW.out).mono ?_; rintro e w1 ⟨rfl, hb1⟩)
  all_goals go_ret
  all_goals (try simp only [beq_iff_eq, beq_eq_false_iff_ne, ne_eq] at *)
  all_goals first
    | exact ⟨ret_bool (by rw [Bool.eq_iff_iff]; simp [letQ]; omega), Below.refl _ _⟩
    | exact ⟨ret_bool (by rw [Bool.eq_iff_iff]; simp [letQ]; omega), by assumption⟩

def asciiL : List Int := [48, 57, 65, 90, 97, 122]
def notL : List Int := [215, 215, 247, 247, 8192, 8303, 12288, 12351, 65280, 65295, 65533, 65533]
theorem ascii_cells : (runeVals asciiL).toArray = #[.int .i32 48, .int .i32 57, .int .i32 65, .int .i32 90, .int .i32 97, .int .i32 122] := by kernel_rfl
theorem not_cells : (runeVals notL).toArray = #[.int .i32 215, .int .i32 215, .int .i32 247, .int .i32 247, .int .i32 8192, .int .i32 8303, .int .i32 12288, .int .i32 12351, .int .i32 65280, .int .i32 65295, .int .i32 65533, .int .i32 65533] := by kernel_rfl

theorem let_yes {r x : Int} (h : inP asciiL r = true) : letQ r x = true := by
  simp [inP, asciiL] at h
  simp [letQ]
  omega
theorem let_small {r x : Int} (h : inP asciiL r = false) (h1 : r < 192) : letQ r x = false := by
  simp [inP, asciiL] at h
  simp [letQ]
  omega
theorem let_zero {r : Int} (h : inP asciiL r = false) : letQ r 0 = false := by
  simp [inP, asciiL] at h
  simp [letQ]
  omega
theorem let_rest {r x : Int} (h : inP asciiL r = false) (h1 : 192 ≤ r) (h2 : ¬ x = 0) : letQ r x = !inP notL r := by
  simp [inP, asciiL] at h
  rw [Bool.eq_iff_iff]
  simp [letQ, inP, notL]
  omega

set_option maxHeartbeats 1000000 in
theorem refLetter_any (r : Int) (w : World) :
    Calls Tryd.prog 21 #[.int .i32 r] w fun e w' => e = .returned (.bool (letQ r (wid r))) ∧ Below w.heap.size w w' := by
  have c1 := in_any r asciiL (.slice (some ⟨w.heap.size, 0, none⟩) 6 6) (w.alloc (.cells (runeVals asciiL).toArray 21)) (Holds1.built (xs := runeVals asciiL)) (by decide)
  rw [ascii_cells] at c1
  by_cases h1 : inP asciiL r = true
  · rw [let_yes h1]
    rw [h1] at c1
    have C1 := Lib.hid c1
    clear c1 h1
    go_enter Tryd.func21, Tryd.ntmps21
    go_wp2_with (go_at_call 43; refine (C1.out).mono ?_; rintro e w' ⟨rfl, rfl⟩)
    go_ret
    exact ⟨rfl, below_one _ _⟩
  · have h1' : inP asciiL r = false := by simpa using h1
    rw [h1'] at c1
    have C1 := Lib.hid c1
    clear c1 h1
    by_cases h2 : r < 192
    · rw [let_small h1' h2]
      clear h1'
      go_enter Tryd.func21, Tryd.ntmps21
      go_wp2_with (go_at_call 43; refine (C1.out).mono ?_; rintro e w' ⟨rfl, rfl⟩)
      go_ret
      exact ⟨rfl, below_one _ _⟩
    · have h2' : 192 ≤ r := by omega
      have cr := refRune_any r (w.alloc (.cells #[.int .i32 48, .int .i32 57, .int .i32 65, .int .i32 90, .int .i32 97, .int .i32 122] 21))
      by_cases hv : vld r = true
      · rw [hv] at cr
        have CR := Lib.hid cr
        have cw := refWidth_any r (w.alloc (.cells #[.int .i32 48, .int .i32 57, .int .i32 65, .int .i32 90, .int .i32 97, .int .i32 122] 21))
        by_cases hz : wid r = 0
        · rw [hz, let_zero h1']
          rw [hz] at cw
          have CW := Lib.hid cw
          clear cw cr hv hz h1' h2
          go_enter Tryd.func21, Tryd.ntmps21
          go_wp2_with (first
            | (go_at_call 43; refine (C1.out).mono ?_; rintro e w' ⟨rfl, rfl⟩)
            | (go_at_call 36; refine (CR.out).mono ?_; rintro e w' ⟨rfl, rfl⟩)
            | (go_at_call 17; refine (CW.out).mono ?_; rintro e w1 ⟨rfl, hb1⟩))
          go_ret
          exact ⟨rfl, (below_one _ _).trans (hb1.mono (by simp))⟩
        · rw [let_rest h1' h2' hz]
          have hz' : (wid r == 0) = false := by simp [hz]
          have CW := Lib.hid cw
          clear cw cr hv hz h1' h2
          generalize wid r = x at *
          have c2 := fun W : World => in_any r notL (.slice (some ⟨W.heap.size, 0, none⟩) 12 12) (W.alloc (.cells (runeVals notL).toArray 21)) (Holds1.built (xs := runeVals notL)) (by decide)
          rw [not_cells] at c2
          generalize inP notL r = y at *
          have C2 := Lib.hid c2
          clear c2
          go_enter Tryd.func21, Tryd.ntmps21
          go_wp2_with (first
            | (go_at_call 43; refine (C1.out).mono ?_; rintro e w' ⟨rfl, rfl⟩)
            | (go_at_call 36; refine (CR.out).mono ?_; rintro e w' ⟨rfl, rfl⟩)
            | (go_at_call 17; refine (CW.out).mono ?_; rintro e w1 ⟨rfl, hb1⟩; clear C1))
          refine (C2.out _).mono ?_
          rintro e w2 ⟨rfl, rfl⟩
          go_wp2
          go_ret
          exact ⟨rfl, ((below_one _ _).trans (hb1.mono (by simp))).alloc (by have := hb1.size; simp at this; omega) _⟩
      · have hv' : vld r = false := by simpa using hv
        have hz : wid r = 0 := by simp [wid, hv']
        rw [hz, let_zero h1']
        rw [hv'] at cr
        have CR := Lib.hid cr
        clear cr hv hv' hz h1' h2
        go_enter Tryd.func21, Tryd.ntmps21
        go_wp2_with (first
          | (go_at_call 43; refine (C1.out).mono ?_; rintro e w' ⟨rfl, rfl⟩)
          | (go_at_call 36; refine (CR.out).mono ?_; rintro e w' ⟨rfl, rfl⟩))
        go_ret
        exact ⟨rfl, below_one _ _⟩

theorem ret_i32 {a b : Int} (h : a = b) : Ending.returned (.int .i32 a) = .returned (.int .i32 b) := by rw [h]
/-- the capital -/
def upP (r : Int) : Int := if 97 ≤ r ∧ r ≤ 122 ∨ 224 ≤ r ∧ r ≤ 254 ∧ r ≠ 247 then r - 32 else r
/-- the small one -/
def lowP (r : Int) : Int := if 65 ≤ r ∧ r ≤ 90 ∨ 192 ≤ r ∧ r ≤ 222 ∧ r ≠ 215 then r + 32 else r

theorem upper_any (r : Int) (w : World) :
    Calls Tryd.prog 22 #[.int .i32 r] w fun e w' => e = .returned (.int .i32 (upP r)) ∧ w = w' := by
  go_enter Tryd.func22, Tryd.ntmps22
  go_wp2
  all_goals go_ret
  all_goals exact ⟨ret_i32 (by (try simp only [bne_iff_ne, bne_eq_false_iff_eq, ne_eq] at *); unfold upP; split <;> omega), rfl⟩

theorem lower_any (r : Int) (w : World) :
    Calls Tryd.prog 24 #[.int .i32 r] w fun e w' => e = .returned (.int .i32 (lowP r)) ∧ w = w' := by
  go_enter Tryd.func24, Tryd.ntmps24
  go_wp2
  all_goals go_ret
  all_goals exact ⟨ret_i32 (by (try simp only [bne_iff_ne, bne_eq_false_iff_eq, ne_eq] at *); unfold lowP; split <;> omega), rfl⟩

def upL : List Int := [97, 122, 224, 246, 248, 254]
theorem up_cells : (runeVals upL).toArray = #[.int .i32 97, .int .i32 122, .int .i32 224, .int .i32 246, .int .i32 248, .int .i32 254] := by kernel_rfl
theorem refUpper_any (r : Int) (w : World) :
    Calls Tryd.prog 23 #[.int .i32 r] w fun e w' => e = .returned (.int .i32 (upP r)) ∧ Below w.heap.size w w' := by
  have c1 := in_any r upL (.slice (some ⟨w.heap.size, 0, none⟩) 6 6) (w.alloc (.cells (runeVals upL).toArray 21)) (Holds1.built (xs := runeVals upL)) (by decide)
  rw [up_cells] at c1
  by_cases h1 : inP upL r = true
  · have hr := h1
    simp [inP, upL] at hr
    rw [show upP r = r - 32 from by unfold upP; rw [if_pos (by omega)]]
    rw [h1] at c1
    have C1 := Lib.hid c1
    clear c1 h1
    go_enter Tryd.func23, Tryd.ntmps23
    go_wp2_with (go_at_call 43; refine (C1.out).mono ?_; rintro e w' ⟨rfl, rfl⟩)
    go_ret
    exact ⟨rfl, below_one _ _⟩
  · have h1' : inP upL r = false := by simpa using h1
    have hr := h1'
    simp [inP, upL] at hr
    rw [show upP r = r from by unfold upP; rw [if_neg (by omega)]]
    rw [h1'] at c1
    have C1 := Lib.hid c1
    clear c1 h1 h1' hr
    go_enter Tryd.func23, Tryd.ntmps23
    go_wp2_with (go_at_call 43; refine (C1.out).mono ?_; rintro e w' ⟨rfl, rfl⟩)
    go_ret
    exact ⟨rfl, below_one _ _⟩

def lowL : List Int := [65, 90, 192, 214, 216, 222]
theorem low_cells : (runeVals lowL).toArray = #[.int .i32 65, .int .i32 90, .int .i32 192, .int .i32 214, .int .i32 216, .int .i32 222] := by kernel_rfl
theorem refLower_any (r : Int) (w : World) :
    Calls Tryd.prog 25 #[.int .i32 r] w fun e w' => e = .returned (.int .i32 (lowP r)) ∧ Below w.heap.size w w' := by
  have c1 := in_any r lowL (.slice (some ⟨w.heap.size, 0, none⟩) 6 6) (w.alloc (.cells (runeVals lowL).toArray 21)) (Holds1.built (xs := runeVals lowL)) (by decide)
  rw [low_cells] at c1
  by_cases h1 : inP lowL r = true
  · have hr := h1
    simp [inP, lowL] at hr
    rw [show lowP r = r + 32 from by unfold lowP; rw [if_pos (by omega)]]
    rw [h1] at c1
    have C1 := Lib.hid c1
    clear c1 h1
    go_enter Tryd.func25, Tryd.ntmps25
    go_wp2_with (go_at_call 43; refine (C1.out).mono ?_; rintro e w' ⟨rfl, rfl⟩)
    go_ret
    exact ⟨rfl, below_one _ _⟩
  · have h1' : inP lowL r = false := by simpa using h1
    have hr := h1'
    simp [inP, lowL] at hr
    rw [show lowP r = r from by unfold lowP; rw [if_neg (by omega)]]
    rw [h1'] at c1
    have C1 := Lib.hid c1
    clear c1 h1 h1' hr
    go_enter Tryd.func25, Tryd.ntmps25
    go_wp2_with (go_at_call 43; refine (C1.out).mono ?_; rintro e w' ⟨rfl, rfl⟩)
    go_ret
    exact ⟨rfl, below_one _ _⟩

end Go.Proofs.YtalfodcjpnjmaaaDoor
