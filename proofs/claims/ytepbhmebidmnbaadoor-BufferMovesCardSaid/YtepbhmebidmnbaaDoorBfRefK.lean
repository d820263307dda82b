/-
  What the document's own functions on single runes return, for every rune.
-/
import Derived.Test.YtepbhmebidmnbaaDoorBfMot
namespace Go.Proofs.YtepbhmebidmnbaaDoor
open Go.RowKit

/-- whether a number lies in one of some ranges -/
def inP : List Int → Int → Bool
  | a :: b :: l, r => decide (a ≤ r ∧ r ≤ b) || inP l r
  | _, _ => false
/-- rows of one width -/
def rowsOf (c : Int) : List Int → List (Int × Int × Int)
  | a :: b :: l => (a, b, c) :: rowsOf c l
  | _ => []
def zeroL : List Int := [768, 879, 1155, 1161, 1425, 1469, 1552, 1562, 1611, 1631, 3633, 3633, 3636, 3642, 3655, 3662, 6832, 6911, 7616, 7679, 8203, 8207, 8400, 8447, 12441, 12442, 65024, 65039, 65056, 65071]
def wideL : List Int := [4352, 4447, 11904, 12350, 12353, 13311, 13312, 19903, 19968, 40959, 40960, 42191, 44032, 55203, 63744, 64255, 65072, 65135, 65280, 65376, 65504, 65510, 127744, 128591, 129280, 129535, 131072, 262141]
theorem widT_rows : widT = rowsOf 0 zeroL ++ rowsOf 2 wideL := rfl
theorem widFrom_rows (c r : Int) (m : List (Int × Int × Int)) : ∀ (n : Nat) (l : List Int), l.length = 2 * n → widFrom (rowsOf c l ++ m) r = if inP l r = true then c else widFrom m r := by
  intro n
  induction n with
  | zero =>
    intro l hl
    obtain rfl : l = [] := List.eq_nil_of_length_eq_zero (by omega)
    simp [rowsOf, inP]
  | succ n ih =>
    intro l hl
    match l, hl with
    | a :: b :: l, hl =>
      have := ih l (by simp at hl; omega)
      by_cases h : a ≤ r ∧ r ≤ b
      · simp [rowsOf, inP, widFrom, h]
      · simp only [rowsOf, inP, List.cons_append, widFrom, this]
        rw [if_neg h]
        simp [h]
    | [_], hl => simp at hl; omega
    | [], hl => simp at hl
theorem wid_in (r : Int) : widFrom widT r = if inP zeroL r = true then 0 else if inP wideL r = true then 2 else 1 := by
  rw [widT_rows, widFrom_rows 0 r _ 15 zeroL rfl]
  have := widFrom_rows 2 r [] 14 wideL rfl
  rw [List.append_nil] at this
  rw [this]
  rfl

theorem refRune_any (r : Int) (w : World) :
    Calls Tryd.prog 84 #[.int .i32 r] w fun e w' => e = .returned (.bool (vld r)) ∧ w = w' := by
  go_enter Tryd.func84, Tryd.ntmps84
  go_wp2
  all_goals go_ret
  all_goals exact ⟨ret_bool (by rw [Bool.eq_iff_iff]; simp [vld]; omega), rfl⟩

theorem refControl_any (r : Int) (w : World) :
    Calls Tryd.prog 81 #[.int .i32 r] w fun e w' => e = .returned (.bool (ctl r)) ∧ w = w' := by
  go_enter Tryd.func81, Tryd.ntmps81
  go_wp2
  all_goals go_ret
  all_goals exact ⟨ret_bool (by rw [Bool.eq_iff_iff]; simp [ctl]; omega), rfl⟩

theorem inP_step (l : List Int) (r : Int) (k : Nat) (h : 2 * k + 1 < l.length) : inP (l.drop (2 * k)) r = (decide (l[2 * k] ≤ r ∧ r ≤ l[2 * k + 1]) || inP (l.drop (2 * (k + 1))) r) := by
  rw [List.drop_eq_getElem_cons (by omega), List.drop_eq_getElem_cons (i := 2 * k + 1) h]
  rfl
theorem inP_stop (l : List Int) (r : Int) (k : Nat) (h : ¬ 2 * k + 1 < l.length) : inP (l.drop (2 * k)) r = false := by
  have : (l.drop (2 * k)).length ≤ 1 := by rw [List.length_drop]; omega
  match l.drop (2 * k), this with
  | [], _ => rfl
  | [_], _ => rfl

theorem in_any (r : Int) (l : List Int) (v : Value) (w : World) (hv : Holds1 w v (runeVals l)) (hl : l.length ≤ 1000000) :
    Calls Tryd.prog 83 #[.int .i32 r, v] w fun e w' => e = .returned (.bool (inP l r)) ∧ w = w' := by
  obtain ⟨A, c, hvv, hc, h⟩ := hv
  have e : (runeVals l).length = l.length := by simp [runeVals]
  rw [e] at hvv h
  subst hvv
  have H := Lib.hid h
  clear h e hc
  go_enter Tryd.func83, Tryd.ntmps83
  go_wp2
  go_loop [5] (fun i => ∃ k : Nat, 2 * k ≤ l.length + 1 ∧ i = .int .i64 ((2 * k : Nat) : Int) ∧ inP (l.drop (2 * k)) r = inP l r) (fun i => l.length + 2 - (intOf i).toNat)
  case atStart => exact ⟨0, by omega, rfl, rfl⟩
  case round =>
    obtain ⟨k, hk, rfl, hin⟩ := hrel
    have HI := Lib.hid hin
    clear hin
    by_cases hlt : 2 * k + 1 < l.length
    · obtain ⟨b, off, rfl, _, hcell⟩ := H.out (by omega)
      have h1 := hcell (2 * k) (.int .i32 l[2 * k]) (by simp [runeVals, show 2 * k < l.length by omega])
      have h2 := hcell (2 * k + 1) (.int .i32 l[2 * k + 1]) (by simp [runeVals, hlt])
      have HS := Lib.hid (inP_step l r k hlt)
      clear hcell H
      generalize l[2 * k] = x at *
      generalize l[2 * k + 1] = y at *
      generalize hj : 2 * k = j at *
      have HJ := Lib.hid hj
      clear hj
      by_cases hx : x ≤ r
      · by_cases hy : r ≤ y
        · go_wp2
          go_ret
          exact ⟨ret_bool (by rw [← HI.out, HS.out]; simp [hx, hy]), rfl⟩
        · go_wp2
          go_round
          case rel => exact ⟨k + 1, by have := HJ.out; omega, by have := HJ.out; rw [← this]; go_num, by rw [← HI.out, HS.out]; simp [hy]⟩
          case measure => simp [intOf]; omega
      · go_wp2
        go_round
        case rel => exact ⟨k + 1, by have := HJ.out; omega, by have := HJ.out; rw [← this]; go_num, by rw [← HI.out, HS.out]; simp [hx]⟩
        case measure => simp [intOf]; omega
    · have HZ := Lib.hid (inP_stop l r k hlt)
      have hge : ¬ (((2 * k : Nat) : Int) + 1 < (l.length : Int)) := by omega
      go_wp2
      go_ret
      exact ⟨ret_bool (by rw [← HI.out, HZ.out]), rfl⟩

theorem below_one (w : World) (o : Obj) : Below w.heap.size w (w.alloc o) := (Below.refl _ _).alloc (Nat.le_refl _) o
theorem below_two (w : World) (o o' : Obj) : Below w.heap.size w ((w.alloc o).alloc o') := (below_one w o).alloc (by simp) o'

theorem zero_cells : (runeVals zeroL).toArray = #[.int .i32 768, .int .i32 879, .int .i32 1155, .int .i32 1161, .int .i32 1425, .int .i32 1469, .int .i32 1552, .int .i32 1562, .int .i32 1611, .int .i32 1631, .int .i32 3633, .int .i32 3633, .int .i32 3636, .int .i32 3642, .int .i32 3655, .int .i32 3662, .int .i32 6832, .int .i32 6911, .int .i32 7616, .int .i32 7679, .int .i32 8203, .int .i32 8207, .int .i32 8400, .int .i32 8447, .int .i32 12441, .int .i32 12442, .int .i32 65024, .int .i32 65039, .int .i32 65056, .int .i32 65071] := by kernel_rfl
theorem wide_cells : (runeVals wideL).toArray = #[.int .i32 4352, .int .i32 4447, .int .i32 11904, .int .i32 12350, .int .i32 12353, .int .i32 13311, .int .i32 13312, .int .i32 19903, .int .i32 19968, .int .i32 40959, .int .i32 40960, .int .i32 42191, .int .i32 44032, .int .i32 55203, .int .i32 63744, .int .i32 64255, .int .i32 65072, .int .i32 65135, .int .i32 65280, .int .i32 65376, .int .i32 65504, .int .i32 65510, .int .i32 127744, .int .i32 128591, .int .i32 129280, .int .i32 129535, .int .i32 131072, .int .i32 262141] := by kernel_rfl

theorem refWidth_any (r : Int) (w : World) :
    Calls Tryd.prog 82 #[.int .i32 r] w fun e w' => e = .returned (.int .i64 (wid r)) ∧ Below w.heap.size w w' := by
  have CR := Lib.hid (refRune_any r w)
  have CC := Lib.hid (refControl_any r w)
  by_cases hv : vld r = true
  · by_cases hc : ctl r = true
    · have e : wid r = 0 := by simp [wid, hc]
      rw [e]
      rw [hv] at CR
      rw [hc] at CC
      clear e hv hc
      go_enter Tryd.func82, Tryd.ntmps82
      go_wp2_with (first
        | (go_at_call 84; refine (CR.out).mono ?_; rintro e w' ⟨rfl, rfl⟩)
        | (go_at_call 81; refine (CC.out).mono ?_; rintro e w' ⟨rfl, rfl⟩))
      go_ret
      exact ⟨rfl, Below.refl _ _⟩
    · have hc' : ctl r = false := by simpa using hc
      have e : wid r = if inP zeroL r = true then 0 else if inP wideL r = true then 2 else 1 := by rw [← wid_in]; simp [wid, hv, hc']
      rw [e]
      rw [hv] at CR
      rw [hc'] at CC
      clear e hv hc hc'
      have c1 := in_any r zeroL (.slice (some ⟨w.heap.size, 0, none⟩) 30 30) (w.alloc (.cells (runeVals zeroL).toArray 21)) (Holds1.built (xs := runeVals zeroL)) (by decide)
      have c2 := in_any r wideL (.slice (some ⟨(w.alloc (.cells (runeVals zeroL).toArray 21)).heap.size, 0, none⟩) 28 28) ((w.alloc (.cells (runeVals zeroL).toArray 21)).alloc (.cells (runeVals wideL).toArray 21)) (Holds1.built (xs := runeVals wideL)) (by decide)
      rw [zero_cells] at c1 c2
      rw [wide_cells] at c2
      simp only [World.size_alloc] at c2
      generalize inP zeroL r = z at *
      generalize inP wideL r = y at *
      have C1 := Lib.hid c1
      have C2 := Lib.hid c2
      clear c1 c2
      go_enter Tryd.func82, Tryd.ntmps82
      go_wp2_with (first
        | (go_at_call 84; refine (CR.out).mono ?_; rintro e w' ⟨rfl, rfl⟩)
        | (go_at_call 81; refine (CC.out).mono ?_; rintro e w' ⟨rfl, rfl⟩))
      refine (C1.out).mono ?_
      rintro e w' ⟨rfl, rfl⟩
      cases z
      · go_wp2_with fail
        refine (C2.out).mono ?_
        rintro e w' ⟨rfl, rfl⟩
        cases y
        · go_wp2
          go_ret
          exact ⟨rfl, below_two _ _ _⟩
        · go_wp2
          go_ret
          exact ⟨rfl, below_two _ _ _⟩
      · go_wp2
        go_ret
        exact ⟨rfl, below_one _ _⟩
  · have hv' : vld r = false := by simpa using hv
    have e : wid r = 0 := by simp [wid, hv']
    rw [e]
    rw [hv'] at CR
    clear e hv hv'
    go_enter Tryd.func82, Tryd.ntmps82
    go_wp2_with (go_at_call 84; refine (CR.out).mono ?_; rintro e w' ⟨rfl, rfl⟩)
    go_ret
    exact ⟨rfl, Below.refl _ _⟩

/-- a letter, x being the rune's width -/
def letQ (r x : Int) : Bool :=
  decide ((48 ≤ r ∧ r ≤ 57 ∨ 65 ≤ r ∧ r ≤ 90 ∨ 97 ≤ r ∧ r ≤ 122) ∨
    192 ≤ r ∧ r ≠ 215 ∧ r ≠ 247 ∧ r ≠ 65533 ∧ ¬ (8192 ≤ r ∧ r ≤ 8303) ∧ ¬ (12288 ≤ r ∧ r ≤ 12351) ∧ ¬ (65280 ≤ r ∧ r ≤ 65295) ∧ x ≠ 0)

def asciiL : List Int := [48, 57, 65, 90, 97, 122]
def notL : List Int := [215, 215, 247, 247, 8192, 8303, 12288, 12351, 65280, 65295, 65533, 65533]
theorem ascii_cells : (runeVals asciiL).toArray = #[.int .i32 48, .int .i32 57, .int .i32 65, .int .i32 90, .int .i32 97, .int .i32 122] := by kernel_rfl
theorem not_cells : (runeVals notL).toArray = #[.int .i32 215, .int .i32 215, .int .i32 247, .int .i32 247, .int .i32 8192, .int .i32 8303, .int .i32 12288, .int .i32 12351, .int .i32 65280, .int .i32 65295, .int .i32 65533, .int .i32 65533] := by kernel_rfl

theorem let_yes {r x : Int} (h : inP asciiL r = true) : letQ r x = true := by
  simp [inP, asciiL] at h
  simp [letQ]
  omega
theorem let_small {r x : Int} (h : inP asciiL r = false) (h1 : r < 192) : letQ r x = false := by
  simp [inP, asciiL] at h
  simp [letQ]
  omega
theorem let_zero {r : Int} (h : inP asciiL r = false) : letQ r 0 = false := by
  simp [inP, asciiL] at h
  simp [letQ]
  omega
theorem let_rest {r x : Int} (h : inP asciiL r = false) (h1 : 192 ≤ r) (h2 : ¬ x = 0) : letQ r x = !inP notL r := by
  simp [inP, asciiL] at h
  rw [Bool.eq_iff_iff]
  simp [letQ, inP, notL]
  omega

set_option maxHeartbeats 1000000 in
theorem refLetter_any (r : Int) (w : World) :
    Calls Tryd.prog 70 #[.int .i32 r] w fun e w' => e = .returned (.bool (letQ r (wid r))) ∧ Below w.heap.size w w' := by
  have c1 := in_any r asciiL (.slice (some ⟨w.heap.size, 0, none⟩) 6 6) (w.alloc (.cells (runeVals asciiL).toArray 21)) (Holds1.built (xs := runeVals asciiL)) (by decide)
  rw [ascii_cells] at c1
  by_cases h1 : inP asciiL r = true
  · rw [let_yes h1]
    rw [h1] at c1
    have C1 := Lib.hid c1
    clear c1 h1
    go_enter Tryd.func70, Tryd.ntmps70
    go_wp2_with (go_at_call 83; refine (C1.out).mono ?_; rintro e w' ⟨rfl, rfl⟩)
    go_ret
    exact ⟨rfl, below_one _ _⟩
  · have h1' : inP asciiL r = false := by simpa using h1
    rw [h1'] at c1
    have C1 := Lib.hid c1
    clear c1 h1
    by_cases h2 : r < 192
    · rw [let_small h1' h2]
      clear h1'
      go_enter Tryd.func70, Tryd.ntmps70
      go_wp2_with (go_at_call 83; refine (C1.out).mono ?_; rintro e w' ⟨rfl, rfl⟩)
      go_ret
      exact ⟨rfl, below_one _ _⟩
    · have h2' : 192 ≤ r := by omega
      have cr := refRune_any r (w.alloc (.cells #[.int .i32 48, .int .i32 57, .int .i32 65, .int .i32 90, .int .i32 97, .int .i32 122] 21))
      by_cases hv : vld r = true
      · rw [hv] at cr
        have CR := Lib.hid cr
        have cw := refWidth_any r (w.alloc (.cells #[.int .i32 48, .int .i32 57, .int .i32 65, .int .i32 90, .int .i32 97, .int .i32 122] 21))
        by_cases hz : wid r = 0
        · rw [hz, let_zero h1']
          rw [hz] at cw
          have CW := Lib.hid cw
          clear cw cr hv hz h1' h2
          go_enter Tryd.func70, Tryd.ntmps70
          go_wp2_with (first
            | (go_at_call 83; refine (C1.out).mono ?_; rintro e w' ⟨rfl, rfl⟩)
            | (go_at_call 84; refine (CR.out).mono ?_; rintro e w' ⟨rfl, rfl⟩)
            | (go_at_call 82; refine (CW.out).mono ?_; rintro e w1 ⟨rfl, hb1⟩))
          go_ret
          exact ⟨rfl, (below_one _ _).trans (hb1.mono (by simp))⟩
        · rw [let_rest h1' h2' hz]
          have hz' : (wid r == 0) = false := by simp [hz]
          have CW := Lib.hid cw
          clear cw cr hv hz h1' h2
          generalize wid r = x at *
          have c2 := fun W : World => in_any r notL (.slice (some ⟨W.heap.size, 0, none⟩) 12 12) (W.alloc (.cells (runeVals notL).toArray 21)) (Holds1.built (xs := runeVals notL)) (by decide)
          rw [not_cells] at c2
          generalize inP notL r = y at *
          have C2 := Lib.hid c2
          clear c2
          go_enter Tryd.func70, Tryd.ntmps70
          go_wp2_with (first
            | (go_at_call 83; refine (C1.out).mono ?_; rintro e w' ⟨rfl, rfl⟩)
            | (go_at_call 84; refine (CR.out).mono ?_; rintro e w' ⟨rfl, rfl⟩)
            | (go_at_call 82; refine (CW.out).mono ?_; rintro e w1 ⟨rfl, hb1⟩; clear C1))
          refine (C2.out _).mono ?_
          rintro e w2 ⟨rfl, rfl⟩
          go_wp2
          go_ret
          exact ⟨rfl, ((below_one _ _).trans (hb1.mono (by simp))).alloc (by have := hb1.size; simp at this; omega) _⟩
      · have hv' : vld r = false := by simpa using hv
        have hz : wid r = 0 := by simp [wid, hv']
        rw [hz, let_zero h1']
        rw [hv'] at cr
        have CR := Lib.hid cr
        clear cr hv hv' hz h1' h2
        go_enter Tryd.func70, Tryd.ntmps70
        go_wp2_with (first
          | (go_at_call 83; refine (C1.out).mono ?_; rintro e w' ⟨rfl, rfl⟩)
          | (go_at_call 84; refine (CR.out).mono ?_; rintro e w' ⟨rfl, rfl⟩))
        go_ret
        exact ⟨rfl, below_one _ _⟩
theorem letter_letQ (r : Int) : letter r = letQ r (wid r) := by
  unfold letter letQ
  split
  · rename_i h
    symm
    rw [decide_eq_true_iff]
    exact .inl h
  · rename_i h
    split
    · rename_i h2
      symm
      rw [decide_eq_false_iff_not]
      omega
    · rename_i h2
      split
      · rename_i h3
        symm
        rw [decide_eq_false_iff_not]
        omega
      · rename_i h3
        rw [Bool.eq_iff_iff, decide_eq_true_iff, decide_eq_true_iff]
        omega
end Go.Proofs.YtepbhmebidmnbaaDoor
