/-
  Function values that tell of a rune; Letter, blank, begins, not; place.
-/
import Derived.Test.YtepbhmebidmnbaaDoorBfNew
namespace Go.Proofs.YtepbhmebidmnbaaDoor
open Go.RowKit Go.Shelf Go.Lib
attribute [local go_sem] Oper.semAt_some

/-- a letter -/
def letter (r : Int) : Bool :=
  if (48 ≤ r ∧ r ≤ 57) ∨ (65 ≤ r ∧ r ≤ 90) ∨ (97 ≤ r ∧ r ≤ 122) then true
  else if r < 192 ∨ r = 215 ∨ r = 247 ∨ r = 65533 then false
  else if (8192 ≤ r ∧ r ≤ 8303) ∨ (12288 ≤ r ∧ r ≤ 12351) ∨ (65280 ≤ r ∧ r ≤ 65295) then false
  else decide (wid r ≠ 0)
theorem WidTab.below {w w' : World} (h : WidTab w) (hb : Below w.heap.size w w') : WidTab w' := by
  obtain ⟨t, fr, h⟩ := h
  exact ⟨t, fr, (hb.block _ (Array.getElem?_eq_some_iff.1 h).1).trans h⟩
theorem WidTab.touch {w w' : World} {T : Nat → Prop} (h : WidTab w) (ht : Touch T w w') (hT : ¬ T 0) : WidTab w' := by
  obtain ⟨t, fr, h⟩ := h
  exact ⟨t, fr, (ht.block _ (Array.getElem?_eq_some_iff.1 h).1 hT).trans h⟩
def OneTo (p : Int → Bool) (f : Nat) (cap : Array Value) (w : World) : Prop := ∀ W, Below w.heap.size w W → ∀ r : Int, Calls Tryd.prog f (#[.int .i32 r] ++ cap) W fun e w' => e = .returned (.bool (p r)) ∧ Below W.heap.size W w'
/-- v is a function value that tells p -/
def FV (w : World) (v : Value) (p : Int → Bool) : Prop := ∃ f cap, v = .func (.func f) #[] cap ∧ (∀ args W, (callFunc f args).run Tryd.prog W = .ok (.enter f args) W) ∧ OneTo p f cap w
theorem FV.below {w w' : World} {v : Value} {p : Int → Bool} (h : FV w v p) (hb : Below w.heap.size w w') : FV w' v p := by
  obtain ⟨f, cap, e, h1, h2⟩ := h
  exact ⟨f, cap, e, h1, fun W hW => h2 W (hb.trans (hW.mono hb.size))⟩

set_option maxRecDepth 1000000 in
set_option maxHeartbeats 4000000 in
theorem letter_any (w : World) (hT : WidTab w) (r : Int) : Calls Tryd.prog 69 #[.int .i32 r] w fun e w' => e = .returned (.bool (letter r)) ∧ Below w.heap.size w w' := by
  have CW := Lib.hid (width_any r w hT)
  have hcase : (r < 48) ∨ (48 ≤ r ∧ r < 58) ∨ (58 ≤ r ∧ r < 65) ∨ (65 ≤ r ∧ r < 91) ∨ (91 ≤ r ∧ r < 97) ∨ (97 ≤ r ∧ r < 123) ∨ (123 ≤ r ∧ r < 192) ∨ (192 ≤ r ∧ r < 215) ∨ (215 ≤ r ∧ r < 216) ∨ (216 ≤ r ∧ r < 247) ∨ (247 ≤ r ∧ r < 248) ∨ (248 ≤ r ∧ r < 8192) ∨ (8192 ≤ r ∧ r < 8304) ∨ (8304 ≤ r ∧ r < 12288) ∨ (12288 ≤ r ∧ r < 12352) ∨ (12352 ≤ r ∧ r < 65280) ∨ (65280 ≤ r ∧ r < 65296) ∨ (65296 ≤ r ∧ r < 65533) ∨ (65533 ≤ r ∧ r < 65534) ∨ (65534 ≤ r) := by omega
  rcases hcase with h | h | h | h | h | h | h | h | h | h | h | h | h | h | h | h | h | h | h | h
  · have a0 : ((48 : Int) ≤ r) = False := by simp; omega
    have a1 : ((65 : Int) ≤ r) = False := by simp; omega
    have a2 : ((97 : Int) ≤ r) = False := by simp; omega
    have a3 : ((8192 : Int) ≤ r) = False := by simp; omega
    have a4 : ((12288 : Int) ≤ r) = False := by simp; omega
    have a5 : ((65280 : Int) ≤ r) = False := by simp; omega
    have b0 : (r ≤ (57 : Int)) = True := by simp; omega
    have b1 : (r ≤ (90 : Int)) = True := by simp; omega
    have b2 : (r ≤ (122 : Int)) = True := by simp; omega
    have b3 : (r ≤ (8303 : Int)) = True := by simp; omega
    have b4 : (r ≤ (12351 : Int)) = True := by simp; omega
    have b5 : (r ≤ (65295 : Int)) = True := by simp; omega
    have c0 : (r < (192 : Int)) = True := by simp; omega
    have d0 : (r = (215 : Int)) = False := by simp; omega
    have e0 : (r == (215 : Int)) = false := by simp; omega
    have d1 : (r = (247 : Int)) = False := by simp; omega
    have e1 : (r == (247 : Int)) = false := by simp; omega
    have d2 : (r = (65533 : Int)) = False := by simp; omega
    have e2 : (r == (65533 : Int)) = false := by simp; omega
    have hl : Hid (letter r = false) := Lib.hid (by unfold letter; simp only [a0, a1, a2, a3, a4, a5, b0, b1, b2, b3, b4, b5, c0, d0, d1, d2]; simp)
    generalize wid r = q at *
    clear h
    go_enter Tryd.func69, Tryd.ntmps69
    go_wp2_with (go_at_call 79; refine (CW.out).mono ?_; rintro e w1 ⟨rfl, hb1⟩)
    go_ret
    refine ⟨?_, Below.refl _ _⟩
    rw [hl.out]
    rfl
  · have a0 : ((48 : Int) ≤ r) = True := by simp; omega
    have a1 : ((65 : Int) ≤ r) = False := by simp; omega
    have a2 : ((97 : Int) ≤ r) = False := by simp; omega
    have a3 : ((8192 : Int) ≤ r) = False := by simp; omega
    have a4 : ((12288 : Int) ≤ r) = False := by simp; omega
    have a5 : ((65280 : Int) ≤ r) = False := by simp; omega
    have b0 : (r ≤ (57 : Int)) = True := by simp; omega
    have b1 : (r ≤ (90 : Int)) = True := by simp; omega
    have b2 : (r ≤ (122 : Int)) = True := by simp; omega
    have b3 : (r ≤ (8303 : Int)) = True := by simp; omega
    have b4 : (r ≤ (12351 : Int)) = True := by simp; omega
    have b5 : (r ≤ (65295 : Int)) = True := by simp; omega
    have c0 : (r < (192 : Int)) = True := by simp; omega
    have d0 : (r = (215 : Int)) = False := by simp; omega
    have e0 : (r == (215 : Int)) = false := by simp; omega
    have d1 : (r = (247 : Int)) = False := by simp; omega
    have e1 : (r == (247 : Int)) = false := by simp; omega
    have d2 : (r = (65533 : Int)) = False := by simp; omega
    have e2 : (r == (65533 : Int)) = false := by simp; omega
    have hl : Hid (letter r = true) := Lib.hid (by unfold letter; simp only [a0, a1, a2, a3, a4, a5, b0, b1, b2, b3, b4, b5, c0, d0, d1, d2]; simp)
    generalize wid r = q at *
    clear h
    go_enter Tryd.func69, Tryd.ntmps69
    go_wp2_with (go_at_call 79; refine (CW.out).mono ?_; rintro e w1 ⟨rfl, hb1⟩)
    go_ret
    refine ⟨?_, Below.refl _ _⟩
    rw [hl.out]
    rfl
  · have a0 : ((48 : Int) ≤ r) = True := by simp; omega
    have a1 : ((65 : Int) ≤ r) = False := by simp; omega
    have a2 : ((97 : Int) ≤ r) = False := by simp; omega
    have a3 : ((8192 : Int) ≤ r) = False := by simp; omega
    have a4 : ((12288 : Int) ≤ r) = False := by simp; omega
    have a5 : ((65280 : Int) ≤ r) = False := by simp; omega
    have b0 : (r ≤ (57 : Int)) = False := by simp; omega
    have b1 : (r ≤ (90 : Int)) = True := by simp; omega
    have b2 : (r ≤ (122 : Int)) = True := by simp; omega
    have b3 : (r ≤ (8303 : Int)) = True := by simp; omega
    have b4 : (r ≤ (12351 : Int)) = True := by simp; omega
    have b5 : (r ≤ (65295 : Int)) = True := by simp; omega
    have c0 : (r < (192 : Int)) = True := by simp; omega
    have d0 : (r = (215 : Int)) = False := by simp; omega
    have e0 : (r == (215 : Int)) = false := by simp; omega
    have d1 : (r = (247 : Int)) = False := by simp; omega
    have e1 : (r == (247 : Int)) = false := by simp; omega
    have d2 : (r = (65533 : Int)) = False := by simp; omega
    have e2 : (r == (65533 : Int)) = false := by simp; omega
    have hl : Hid (letter r = false) := Lib.hid (by unfold letter; simp only [a0, a1, a2, a3, a4, a5, b0, b1, b2, b3, b4, b5, c0, d0, d1, d2]; simp)
    generalize wid r = q at *
    clear h
    go_enter Tryd.func69, Tryd.ntmps69
    go_wp2_with (go_at_call 79; refine (CW.out).mono ?_; rintro e w1 ⟨rfl, hb1⟩)
    go_ret
    refine ⟨?_, Below.refl _ _⟩
    rw [hl.out]
    rfl
  · have a0 : ((48 : Int) ≤ r) = True := by simp; omega
    have a1 : ((65 : Int) ≤ r) = True := by simp; omega
    have a2 : ((97 : Int) ≤ r) = False := by simp; omega
    have a3 : ((8192 : Int) ≤ r) = False := by simp; omega
    have a4 : ((12288 : Int) ≤ r) = False := by simp; omega
    have a5 : ((65280 : Int) ≤ r) = False := by simp; omega
    have b0 : (r ≤ (57 : Int)) = False := by simp; omega
    have b1 : (r ≤ (90 : Int)) = True := by simp; omega
    have b2 : (r ≤ (122 : Int)) = True := by simp; omega
    have b3 : (r ≤ (8303 : Int)) = True := by simp; omega
    have b4 : (r ≤ (12351 : Int)) = True := by simp; omega
    have b5 : (r ≤ (65295 : Int)) = True := by simp; omega
    have c0 : (r < (192 : Int)) = True := by simp; omega
    have d0 : (r = (215 : Int)) = False := by simp; omega
    have e0 : (r == (215 : Int)) = false := by simp; omega
    have d1 : (r = (247 : Int)) = False := by simp; omega
    have e1 : (r == (247 : Int)) = false := by simp; omega
    have d2 : (r = (65533 : Int)) = False := by simp; omega
    have e2 : (r == (65533 : Int)) = false := by simp; omega
    have hl : Hid (letter r = true) := Lib.hid (by unfold letter; simp only [a0, a1, a2, a3, a4, a5, b0, b1, b2, b3, b4, b5, c0, d0, d1, d2]; simp)
    generalize wid r = q at *
    clear h
    go_enter Tryd.func69, Tryd.ntmps69
    go_wp2_with (go_at_call 79; refine (CW.out).mono ?_; rintro e w1 ⟨rfl, hb1⟩)
    go_ret
    refine ⟨?_, Below.refl _ _⟩
    rw [hl.out]
    rfl
  · have a0 : ((48 : Int) ≤ r) = True := by simp; omega
    have a1 : ((65 : Int) ≤ r) = True := by simp; omega
    have a2 : ((97 : Int) ≤ r) = False := by simp; omega
    have a3 : ((8192 : Int) ≤ r) = False := by simp; omega
    have a4 : ((12288 : Int) ≤ r) = False := by simp; omega
    have a5 : ((65280 : Int) ≤ r) = False := by simp; omega
    have b0 : (r ≤ (57 : Int)) = False := by simp; omega
    have b1 : (r ≤ (90 : Int)) = False := by simp; omega
    have b2 : (r ≤ (122 : Int)) = True := by simp; omega
    have b3 : (r ≤ (8303 : Int)) = True := by simp; omega
    have b4 : (r ≤ (12351 : Int)) = True := by simp; omega
    have b5 : (r ≤ (65295 : Int)) = True := by simp; omega
    have c0 : (r < (192 : Int)) = True := by simp; omega
    have d0 : (r = (215 : Int)) = False := by simp; omega
    have e0 : (r == (215 : Int)) = false := by simp; omega
    have d1 : (r = (247 : Int)) = False := by simp; omega
    have e1 : (r == (247 : Int)) = false := by simp; omega
    have d2 : (r = (65533 : Int)) = False := by simp; omega
    have e2 : (r == (65533 : Int)) = false := by simp; omega
    have hl : Hid (letter r = false) := Lib.hid (by unfold letter; simp only [a0, a1, a2, a3, a4, a5, b0, b1, b2, b3, b4, b5, c0, d0, d1, d2]; simp)
    generalize wid r = q at *
    clear h
    go_enter Tryd.func69, Tryd.ntmps69
    go_wp2_with (go_at_call 79; refine (CW.out).mono ?_; rintro e w1 ⟨rfl, hb1⟩)
    go_ret
    refine ⟨?_, Below.refl _ _⟩
    rw [hl.out]
    rfl
  · have a0 : ((48 : Int) ≤ r) = True := by simp; omega
    have a1 : ((65 : Int) ≤ r) = True := by simp; omega
    have a2 : ((97 : Int) ≤ r) = True := by simp; omega
    have a3 : ((8192 : Int) ≤ r) = False := by simp; omega
    have a4 : ((12288 : Int) ≤ r) = False := by simp; omega
    have a5 : ((65280 : Int) ≤ r) = False := by simp; omega
    have b0 : (r ≤ (57 : Int)) = False := by simp; omega
    have b1 : (r ≤ (90 : Int)) = False := by simp; omega
    have b2 : (r ≤ (122 : Int)) = True := by simp; omega
    have b3 : (r ≤ (8303 : Int)) = True := by simp; omega
    have b4 : (r ≤ (12351 : Int)) = True := by simp; omega
    have b5 : (r ≤ (65295 : Int)) = True := by simp; omega
    have c0 : (r < (192 : Int)) = True := by simp; omega
    have d0 : (r = (215 : Int)) = False := by simp; omega
    have e0 : (r == (215 : Int)) = false := by simp; omega
    have d1 : (r = (247 : Int)) = False := by simp; omega
    have e1 : (r == (247 : Int)) = false := by simp; omega
    have d2 : (r = (65533 : Int)) = False := by simp; omega
    have e2 : (r == (65533 : Int)) = false := by simp; omega
    have hl : Hid (letter r = true) := Lib.hid (by unfold letter; simp only [a0, a1, a2, a3, a4, a5, b0, b1, b2, b3, b4, b5, c0, d0, d1, d2]; simp)
    generalize wid r = q at *
    clear h
    go_enter Tryd.func69, Tryd.ntmps69
    go_wp2_with (go_at_call 79; refine (CW.out).mono ?_; rintro e w1 ⟨rfl, hb1⟩)
    go_ret
    refine ⟨?_, Below.refl _ _⟩
    rw [hl.out]
    rfl
  · have a0 : ((48 : Int) ≤ r) = True := by simp; omega
    have a1 : ((65 : Int) ≤ r) = True := by simp; omega
    have a2 : ((97 : Int) ≤ r) = True := by simp; omega
    have a3 : ((8192 : Int) ≤ r) = False := by simp; omega
    have a4 : ((12288 : Int) ≤ r) = False := by simp; omega
    have a5 : ((65280 : Int) ≤ r) = False := by simp; omega
    have b0 : (r ≤ (57 : Int)) = False := by simp; omega
    have b1 : (r ≤ (90 : Int)) = False := by simp; omega
    have b2 : (r ≤ (122 : Int)) = False := by simp; omega
    have b3 : (r ≤ (8303 : Int)) = True := by simp; omega
    have b4 : (r ≤ (12351 : Int)) = True := by simp; omega
    have b5 : (r ≤ (65295 : Int)) = True := by simp; omega
    have c0 : (r < (192 : Int)) = True := by simp; omega
    have d0 : (r = (215 : Int)) = False := by simp; omega
    have e0 : (r == (215 : Int)) = false := by simp; omega
    have d1 : (r = (247 : Int)) = False := by simp; omega
    have e1 : (r == (247 : Int)) = false := by simp; omega
    have d2 : (r = (65533 : Int)) = False := by simp; omega
    have e2 : (r == (65533 : Int)) = false := by simp; omega
    have hl : Hid (letter r = false) := Lib.hid (by unfold letter; simp only [a0, a1, a2, a3, a4, a5, b0, b1, b2, b3, b4, b5, c0, d0, d1, d2]; simp)
    generalize wid r = q at *
    clear h
    go_enter Tryd.func69, Tryd.ntmps69
    go_wp2_with (go_at_call 79; refine (CW.out).mono ?_; rintro e w1 ⟨rfl, hb1⟩)
    go_ret
    refine ⟨?_, Below.refl _ _⟩
    rw [hl.out]
    rfl
  · have a0 : ((48 : Int) ≤ r) = True := by simp; omega
    have a1 : ((65 : Int) ≤ r) = True := by simp; omega
    have a2 : ((97 : Int) ≤ r) = True := by simp; omega
    have a3 : ((8192 : Int) ≤ r) = False := by simp; omega
    have a4 : ((12288 : Int) ≤ r) = False := by simp; omega
    have a5 : ((65280 : Int) ≤ r) = False := by simp; omega
    have b0 : (r ≤ (57 : Int)) = False := by simp; omega
    have b1 : (r ≤ (90 : Int)) = False := by simp; omega
    have b2 : (r ≤ (122 : Int)) = False := by simp; omega
    have b3 : (r ≤ (8303 : Int)) = True := by simp; omega
    have b4 : (r ≤ (12351 : Int)) = True := by simp; omega
    have b5 : (r ≤ (65295 : Int)) = True := by simp; omega
    have c0 : (r < (192 : Int)) = False := by simp; omega
    have d0 : (r = (215 : Int)) = False := by simp; omega
    have e0 : (r == (215 : Int)) = false := by simp; omega
    have d1 : (r = (247 : Int)) = False := by simp; omega
    have e1 : (r == (247 : Int)) = false := by simp; omega
    have d2 : (r = (65533 : Int)) = False := by simp; omega
    have e2 : (r == (65533 : Int)) = false := by simp; omega
    have hl : Hid (letter r = decide (wid r ≠ 0)) := Lib.hid (by unfold letter; simp only [a0, a1, a2, a3, a4, a5, b0, b1, b2, b3, b4, b5, c0, d0, d1, d2]; simp)
    generalize wid r = q at *
    clear h
    go_enter Tryd.func69, Tryd.ntmps69
    go_wp2_with (go_at_call 79; refine (CW.out).mono ?_; rintro e w1 ⟨rfl, hb1⟩)
    go_ret
    refine ⟨?_, hb1⟩
    rw [hl.out]
    by_cases hq : q = 0
    · subst hq
      rfl
    · exact ret_bool (by simp [hq])
  · have a0 : ((48 : Int) ≤ r) = True := by simp; omega
    have a1 : ((65 : Int) ≤ r) = True := by simp; omega
    have a2 : ((97 : Int) ≤ r) = True := by simp; omega
    have a3 : ((8192 : Int) ≤ r) = False := by simp; omega
    have a4 : ((12288 : Int) ≤ r) = False := by simp; omega
    have a5 : ((65280 : Int) ≤ r) = False := by simp; omega
    have b0 : (r ≤ (57 : Int)) = False := by simp; omega
    have b1 : (r ≤ (90 : Int)) = False := by simp; omega
    have b2 : (r ≤ (122 : Int)) = False := by simp; omega
    have b3 : (r ≤ (8303 : Int)) = True := by simp; omega
    have b4 : (r ≤ (12351 : Int)) = True := by simp; omega
    have b5 : (r ≤ (65295 : Int)) = True := by simp; omega
    have c0 : (r < (192 : Int)) = False := by simp; omega
    have d0 : (r = (215 : Int)) = True := by simp; omega
    have e0 : (r == (215 : Int)) = true := by simp; omega
    have d1 : (r = (247 : Int)) = False := by simp; omega
    have e1 : (r == (247 : Int)) = false := by simp; omega
    have d2 : (r = (65533 : Int)) = False := by simp; omega
    have e2 : (r == (65533 : Int)) = false := by simp; omega
    have hl : Hid (letter r = false) := Lib.hid (by unfold letter; simp only [a0, a1, a2, a3, a4, a5, b0, b1, b2, b3, b4, b5, c0, d0, d1, d2]; simp)
    generalize wid r = q at *
    clear h
    go_enter Tryd.func69, Tryd.ntmps69
    go_wp2_with (go_at_call 79; refine (CW.out).mono ?_; rintro e w1 ⟨rfl, hb1⟩)
    go_ret
    refine ⟨?_, Below.refl _ _⟩
    rw [hl.out]
    rfl
  · have a0 : ((48 : Int) ≤ r) = True := by simp; omega
    have a1 : ((65 : Int) ≤ r) = True := by simp; omega
    have a2 : ((97 : Int) ≤ r) = True := by simp; omega
    have a3 : ((8192 : Int) ≤ r) = False := by simp; omega
    have a4 : ((12288 : Int) ≤ r) = False := by simp; omega
    have a5 : ((65280 : Int) ≤ r) = False := by simp; omega
    have b0 : (r ≤ (57 : Int)) = False := by simp; omega
    have b1 : (r ≤ (90 : Int)) = False := by simp; omega
    have b2 : (r ≤ (122 : Int)) = False := by simp; omega
    have b3 : (r ≤ (8303 : Int)) = True := by simp; omega
    have b4 : (r ≤ (12351 : Int)) = True := by simp; omega
    have b5 : (r ≤ (65295 : Int)) = True := by simp; omega
    have c0 : (r < (192 : Int)) = False := by simp; omega
    have d0 : (r = (215 : Int)) = False := by simp; omega
    have e0 : (r == (215 : Int)) = false := by simp; omega
    have d1 : (r = (247 : Int)) = False := by simp; omega
    have e1 : (r == (247 : Int)) = false := by simp; omega
    have d2 : (r = (65533 : Int)) = False := by simp; omega
    have e2 : (r == (65533 : Int)) = false := by simp; omega
    have hl : Hid (letter r = decide (wid r ≠ 0)) := Lib.hid (by unfold letter; simp only [a0, a1, a2, a3, a4, a5, b0, b1, b2, b3, b4, b5, c0, d0, d1, d2]; simp)
    generalize wid r = q at *
    clear h
    go_enter Tryd.func69, Tryd.ntmps69
    go_wp2_with (go_at_call 79; refine (CW.out).mono ?_; rintro e w1 ⟨rfl, hb1⟩)
    go_ret
    refine ⟨?_, hb1⟩
    rw [hl.out]
    by_cases hq : q = 0
    · subst hq
      rfl
    · exact ret_bool (by simp [hq])
  · have a0 : ((48 : Int) ≤ r) = True := by simp; omega
    have a1 : ((65 : Int) ≤ r) = True := by simp; omega
    have a2 : ((97 : Int) ≤ r) = True := by simp; omega
    have a3 : ((8192 : Int) ≤ r) = False := by simp; omega
    have a4 : ((12288 : Int) ≤ r) = False := by simp; omega
    have a5 : ((65280 : Int) ≤ r) = False := by simp; omega
    have b0 : (r ≤ (57 : Int)) = False := by simp; omega
    have b1 : (r ≤ (90 : Int)) = False := by simp; omega
    have b2 : (r ≤ (122 : Int)) = False := by simp; omega
    have b3 : (r ≤ (8303 : Int)) = True := by simp; omega
    have b4 : (r ≤ (12351 : Int)) = True := by simp; omega
    have b5 : (r ≤ (65295 : Int)) = True := by simp; omega
    have c0 : (r < (192 : Int)) = False := by simp; omega
    have d0 : (r = (215 : Int)) = False := by simp; omega
    have e0 : (r == (215 : Int)) = false := by simp; omega
    have d1 : (r = (247 : Int)) = True := by simp; omega
    have e1 : (r == (247 : Int)) = true := by simp; omega
    have d2 : (r = (65533 : Int)) = False := by simp; omega
    have e2 : (r == (65533 : Int)) = false := by simp; omega
    have hl : Hid (letter r = false) := Lib.hid (by unfold letter; simp only [a0, a1, a2, a3, a4, a5, b0, b1, b2, b3, b4, b5, c0, d0, d1, d2]; simp)
    generalize wid r = q at *
    clear h
    go_enter Tryd.func69, Tryd.ntmps69
    go_wp2_with (go_at_call 79; refine (CW.out).mono ?_; rintro e w1 ⟨rfl, hb1⟩)
    go_ret
    refine ⟨?_, Below.refl _ _⟩
    rw [hl.out]
    rfl
  · have a0 : ((48 : Int) ≤ r) = True := by simp; omega
    have a1 : ((65 : Int) ≤ r) = True := by simp; omega
    have a2 : ((97 : Int) ≤ r) = True := by simp; omega
    have a3 : ((8192 : Int) ≤ r) = False := by simp; omega
    have a4 : ((12288 : Int) ≤ r) = False := by simp; omega
    have a5 : ((65280 : Int) ≤ r) = False := by simp; omega
    have b0 : (r ≤ (57 : Int)) = False := by simp; omega
    have b1 : (r ≤ (90 : Int)) = False := by simp; omega
    have b2 : (r ≤ (122 : Int)) = False := by simp; omega
    have b3 : (r ≤ (8303 : Int)) = True := by simp; omega
    have b4 : (r ≤ (12351 : Int)) = True := by simp; omega
    have b5 : (r ≤ (65295 : Int)) = True := by simp; omega
    have c0 : (r < (192 : Int)) = False := by simp; omega
    have d0 : (r = (215 : Int)) = False := by simp; omega
    have e0 : (r == (215 : Int)) = false := by simp; omega
    have d1 : (r = (247 : Int)) = False := by simp; omega
    have e1 : (r == (247 : Int)) = false := by simp; omega
    have d2 : (r = (65533 : Int)) = False := by simp; omega
    have e2 : (r == (65533 : Int)) = false := by simp; omega
    have hl : Hid (letter r = decide (wid r ≠ 0)) := Lib.hid (by unfold letter; simp only [a0, a1, a2, a3, a4, a5, b0, b1, b2, b3, b4, b5, c0, d0, d1, d2]; simp)
    generalize wid r = q at *
    clear h
    go_enter Tryd.func69, Tryd.ntmps69
    go_wp2_with (go_at_call 79; refine (CW.out).mono ?_; rintro e w1 ⟨rfl, hb1⟩)
    go_ret
    refine ⟨?_, hb1⟩
    rw [hl.out]
    by_cases hq : q = 0
    · subst hq
      rfl
    · exact ret_bool (by simp [hq])
  · have a0 : ((48 : Int) ≤ r) = True := by simp; omega
    have a1 : ((65 : Int) ≤ r) = True := by simp; omega
    have a2 : ((97 : Int) ≤ r) = True := by simp; omega
    have a3 : ((8192 : Int) ≤ r) = True := by simp; omega
    have a4 : ((12288 : Int) ≤ r) = False := by simp; omega
    have a5 : ((65280 : Int) ≤ r) = False := by simp; omega
    have b0 : (r ≤ (57 : Int)) = False := by simp; omega
    have b1 : (r ≤ (90 : Int)) = False := by simp; omega
    have b2 : (r ≤ (122 : Int)) = False := by simp; omega
    have b3 : (r ≤ (8303 : Int)) = True := by simp; omega
    have b4 : (r ≤ (12351 : Int)) = True := by simp; omega
    have b5 : (r ≤ (65295 : Int)) = True := by simp; omega
    have c0 : (r < (192 : Int)) = False := by simp; omega
    have d0 : (r = (215 : Int)) = False := by simp; omega
    have e0 : (r == (215 : Int)) = false := by simp; omega
    have d1 : (r = (247 : Int)) = False := by simp; omega
    have e1 : (r == (247 : Int)) = false := by simp; omega
    have d2 : (r = (65533 : Int)) = False := by simp; omega
    have e2 : (r == (65533 : Int)) = false := by simp; omega
    have hl : Hid (letter r = false) := Lib.hid (by unfold letter; simp only [a0, a1, a2, a3, a4, a5, b0, b1, b2, b3, b4, b5, c0, d0, d1, d2]; simp)
    generalize wid r = q at *
    clear h
    go_enter Tryd.func69, Tryd.ntmps69
    go_wp2_with (go_at_call 79; refine (CW.out).mono ?_; rintro e w1 ⟨rfl, hb1⟩)
    go_ret
    refine ⟨?_, Below.refl _ _⟩
    rw [hl.out]
    rfl
  · have a0 : ((48 : Int) ≤ r) = True := by simp; omega
    have a1 : ((65 : Int) ≤ r) = True := by simp; omega
    have a2 : ((97 : Int) ≤ r) = True := by simp; omega
    have a3 : ((8192 : Int) ≤ r) = True := by simp; omega
    have a4 : ((12288 : Int) ≤ r) = False := by simp; omega
    have a5 : ((65280 : Int) ≤ r) = False := by simp; omega
    have b0 : (r ≤ (57 : Int)) = False := by simp; omega
    have b1 : (r ≤ (90 : Int)) = False := by simp; omega
    have b2 : (r ≤ (122 : Int)) = False := by simp; omega
    have b3 : (r ≤ (8303 : Int)) = False := by simp; omega
    have b4 : (r ≤ (12351 : Int)) = True := by simp; omega
    have b5 : (r ≤ (65295 : Int)) = True := by simp; omega
    have c0 : (r < (192 : Int)) = False := by simp; omega
    have d0 : (r = (215 : Int)) = False := by simp; omega
    have e0 : (r == (215 : Int)) = false := by simp; omega
    have d1 : (r = (247 : Int)) = False := by simp; omega
    have e1 : (r == (247 : Int)) = false := by simp; omega
    have d2 : (r = (65533 : Int)) = False := by simp; omega
    have e2 : (r == (65533 : Int)) = false := by simp; omega
    have hl : Hid (letter r = decide (wid r ≠ 0)) := Lib.hid (by unfold letter; simp only [a0, a1, a2, a3, a4, a5, b0, b1, b2, b3, b4, b5, c0, d0, d1, d2]; simp)
    generalize wid r = q at *
    clear h
    go_enter Tryd.func69, Tryd.ntmps69
    go_wp2_with (go_at_call 79; refine (CW.out).mono ?_; rintro e w1 ⟨rfl, hb1⟩)
    go_ret
    refine ⟨?_, hb1⟩
    rw [hl.out]
    by_cases hq : q = 0
    · subst hq
      rfl
    · exact ret_bool (by simp [hq])
  · have a0 : ((48 : Int) ≤ r) = True := by simp; omega
    have a1 : ((65 : Int) ≤ r) = True := by simp; omega
    have a2 : ((97 : Int) ≤ r) = True := by simp; omega
    have a3 : ((8192 : Int) ≤ r) = True := by simp; omega
    have a4 : ((12288 : Int) ≤ r) = True := by simp; omega
    have a5 : ((65280 : Int) ≤ r) = False := by simp; omega
    have b0 : (r ≤ (57 : Int)) = False := by simp; omega
    have b1 : (r ≤ (90 : Int)) = False := by simp; omega
    have b2 : (r ≤ (122 : Int)) = False := by simp; omega
    have b3 : (r ≤ (8303 : Int)) = False := by simp; omega
    have b4 : (r ≤ (12351 : Int)) = True := by simp; omega
    have b5 : (r ≤ (65295 : Int)) = True := by simp; omega
    have c0 : (r < (192 : Int)) = False := by simp; omega
    have d0 : (r = (215 : Int)) = False := by simp; omega
    have e0 : (r == (215 : Int)) = false := by simp; omega
    have d1 : (r = (247 : Int)) = False := by simp; omega
    have e1 : (r == (247 : Int)) = false := by simp; omega
    have d2 : (r = (65533 : Int)) = False := by simp; omega
    have e2 : (r == (65533 : Int)) = false := by simp; omega
    have hl : Hid (letter r = false) := Lib.hid (by unfold letter; simp only [a0, a1, a2, a3, a4, a5, b0, b1, b2, b3, b4, b5, c0, d0, d1, d2]; simp)
    generalize wid r = q at *
    clear h
    go_enter Tryd.func69, Tryd.ntmps69
    go_wp2_with (go_at_call 79; refine (CW.out).mono ?_; rintro e w1 ⟨rfl, hb1⟩)
    go_ret
    refine ⟨?_, Below.refl _ _⟩
    rw [hl.out]
    rfl
  · have a0 : ((48 : Int) ≤ r) = True := by simp; omega
    have a1 : ((65 : Int) ≤ r) = True := by simp; omega
    have a2 : ((97 : Int) ≤ r) = True := by simp; omega
    have a3 : ((8192 : Int) ≤ r) = True := by simp; omega
    have a4 : ((12288 : Int) ≤ r) = True := by simp; omega
    have a5 : ((65280 : Int) ≤ r) = False := by simp; omega
    have b0 : (r ≤ (57 : Int)) = False := by simp; omega
    have b1 : (r ≤ (90 : Int)) = False := by simp; omega
    have b2 : (r ≤ (122 : Int)) = False := by simp; omega
    have b3 : (r ≤ (8303 : Int)) = False := by simp; omega
    have b4 : (r ≤ (12351 : Int)) = False := by simp; omega
    have b5 : (r ≤ (65295 : Int)) = True := by simp; omega
    have c0 : (r < (192 : Int)) = False := by simp; omega
    have d0 : (r = (215 : Int)) = False := by simp; omega
    have e0 : (r == (215 : Int)) = false := by simp; omega
    have d1 : (r = (247 : Int)) = False := by simp; omega
    have e1 : (r == (247 : Int)) = false := by simp; omega
    have d2 : (r = (65533 : Int)) = False := by simp; omega
    have e2 : (r == (65533 : Int)) = false := by simp; omega
    have hl : Hid (letter r = decide (wid r ≠ 0)) := Lib.hid (by unfold letter; simp only [a0, a1, a2, a3, a4, a5, b0, b1, b2, b3, b4, b5, c0, d0, d1, d2]; simp)
    generalize wid r = q at *
    clear h
    go_enter Tryd.func69, Tryd.ntmps69
    go_wp2_with (go_at_call 79; refine (CW.out).mono ?_; rintro e w1 ⟨rfl, hb1⟩)
    go_ret
    refine ⟨?_, hb1⟩
    rw [hl.out]
    by_cases hq : q = 0
    · subst hq
      rfl
    · exact ret_bool (by simp [hq])
  · have a0 : ((48 : Int) ≤ r) = True := by simp; omega
    have a1 : ((65 : Int) ≤ r) = True := by simp; omega
    have a2 : ((97 : Int) ≤ r) = True := by simp; omega
    have a3 : ((8192 : Int) ≤ r) = True := by simp; omega
    have a4 : ((12288 : Int) ≤ r) = True := by simp; omega
    have a5 : ((65280 : Int) ≤ r) = True := by simp; omega
    have b0 : (r ≤ (57 : Int)) = False := by simp; omega
    have b1 : (r ≤ (90 : Int)) = False := by simp; omega
    have b2 : (r ≤ (122 : Int)) = False := by simp; omega
    have b3 : (r ≤ (8303 : Int)) = False := by simp; omega
    have b4 : (r ≤ (12351 : Int)) = False := by simp; omega
    have b5 : (r ≤ (65295 : Int)) = True := by simp; omega
    have c0 : (r < (192 : Int)) = False := by simp; omega
    have d0 : (r = (215 : Int)) = False := by simp; omega
    have e0 : (r == (215 : Int)) = false := by simp; omega
    have d1 : (r = (247 : Int)) = False := by simp; omega
    have e1 : (r == (247 : Int)) = false := by simp; omega
    have d2 : (r = (65533 : Int)) = False := by simp; omega
    have e2 : (r == (65533 : Int)) = false := by simp; omega
    have hl : Hid (letter r = false) := Lib.hid (by unfold letter; simp only [a0, a1, a2, a3, a4, a5, b0, b1, b2, b3, b4, b5, c0, d0, d1, d2]; simp)
    generalize wid r = q at *
    clear h
    go_enter Tryd.func69, Tryd.ntmps69
    go_wp2_with (go_at_call 79; refine (CW.out).mono ?_; rintro e w1 ⟨rfl, hb1⟩)
    go_ret
    refine ⟨?_, Below.refl _ _⟩
    rw [hl.out]
    rfl
  · have a0 : ((48 : Int) ≤ r) = True := by simp; omega
    have a1 : ((65 : Int) ≤ r) = True := by simp; omega
    have a2 : ((97 : Int) ≤ r) = True := by simp; omega
    have a3 : ((8192 : Int) ≤ r) = True := by simp; omega
    have a4 : ((12288 : Int) ≤ r) = True := by simp; omega
    have a5 : ((65280 : Int) ≤ r) = True := by simp; omega
    have b0 : (r ≤ (57 : Int)) = False := by simp; omega
    have b1 : (r ≤ (90 : Int)) = False := by simp; omega
    have b2 : (r ≤ (122 : Int)) = False := by simp; omega
    have b3 : (r ≤ (8303 : Int)) = False := by simp; omega
    have b4 : (r ≤ (12351 : Int)) = False := by simp; omega
    have b5 : (r ≤ (65295 : Int)) = False := by simp; omega
    have c0 : (r < (192 : Int)) = False := by simp; omega
    have d0 : (r = (215 : Int)) = False := by simp; omega
    have e0 : (r == (215 : Int)) = false := by simp; omega
    have d1 : (r = (247 : Int)) = False := by simp; omega
    have e1 : (r == (247 : Int)) = false := by simp; omega
    have d2 : (r = (65533 : Int)) = False := by simp; omega
    have e2 : (r == (65533 : Int)) = false := by simp; omega
    have hl : Hid (letter r = decide (wid r ≠ 0)) := Lib.hid (by unfold letter; simp only [a0, a1, a2, a3, a4, a5, b0, b1, b2, b3, b4, b5, c0, d0, d1, d2]; simp)
    generalize wid r = q at *
    clear h
    go_enter Tryd.func69, Tryd.ntmps69
    go_wp2_with (go_at_call 79; refine (CW.out).mono ?_; rintro e w1 ⟨rfl, hb1⟩)
    go_ret
    refine ⟨?_, hb1⟩
    rw [hl.out]
    by_cases hq : q = 0
    · subst hq
      rfl
    · exact ret_bool (by simp [hq])
  · have a0 : ((48 : Int) ≤ r) = True := by simp; omega
    have a1 : ((65 : Int) ≤ r) = True := by simp; omega
    have a2 : ((97 : Int) ≤ r) = True := by simp; omega
    have a3 : ((8192 : Int) ≤ r) = True := by simp; omega
    have a4 : ((12288 : Int) ≤ r) = True := by simp; omega
    have a5 : ((65280 : Int) ≤ r) = True := by simp; omega
    have b0 : (r ≤ (57 : Int)) = False := by simp; omega
    have b1 : (r ≤ (90 : Int)) = False := by simp; omega
    have b2 : (r ≤ (122 : Int)) = False := by simp; omega
    have b3 : (r ≤ (8303 : Int)) = False := by simp; omega
    have b4 : (r ≤ (12351 : Int)) = False := by simp; omega
    have b5 : (r ≤ (65295 : Int)) = False := by simp; omega
    have c0 : (r < (192 : Int)) = False := by simp; omega
    have d0 : (r = (215 : Int)) = False := by simp; omega
    have e0 : (r == (215 : Int)) = false := by simp; omega
    have d1 : (r = (247 : Int)) = False := by simp; omega
    have e1 : (r == (247 : Int)) = false := by simp; omega
    have d2 : (r = (65533 : Int)) = True := by simp; omega
    have e2 : (r == (65533 : Int)) = true := by simp; omega
    have hl : Hid (letter r = false) := Lib.hid (by unfold letter; simp only [a0, a1, a2, a3, a4, a5, b0, b1, b2, b3, b4, b5, c0, d0, d1, d2]; simp)
    generalize wid r = q at *
    clear h
    go_enter Tryd.func69, Tryd.ntmps69
    go_wp2_with (go_at_call 79; refine (CW.out).mono ?_; rintro e w1 ⟨rfl, hb1⟩)
    go_ret
    refine ⟨?_, Below.refl _ _⟩
    rw [hl.out]
    rfl
  · have a0 : ((48 : Int) ≤ r) = True := by simp; omega
    have a1 : ((65 : Int) ≤ r) = True := by simp; omega
    have a2 : ((97 : Int) ≤ r) = True := by simp; omega
    have a3 : ((8192 : Int) ≤ r) = True := by simp; omega
    have a4 : ((12288 : Int) ≤ r) = True := by simp; omega
    have a5 : ((65280 : Int) ≤ r) = True := by simp; omega
    have b0 : (r ≤ (57 : Int)) = False := by simp; omega
    have b1 : (r ≤ (90 : Int)) = False := by simp; omega
    have b2 : (r ≤ (122 : Int)) = False := by simp; omega
    have b3 : (r ≤ (8303 : Int)) = False := by simp; omega
    have b4 : (r ≤ (12351 : Int)) = False := by simp; omega
    have b5 : (r ≤ (65295 : Int)) = False := by simp; omega
    have c0 : (r < (192 : Int)) = False := by simp; omega
    have d0 : (r = (215 : Int)) = False := by simp; omega
    have e0 : (r == (215 : Int)) = false := by simp; omega
    have d1 : (r = (247 : Int)) = False := by simp; omega
    have e1 : (r == (247 : Int)) = false := by simp; omega
    have d2 : (r = (65533 : Int)) = False := by simp; omega
    have e2 : (r == (65533 : Int)) = false := by simp; omega
    have hl : Hid (letter r = decide (wid r ≠ 0)) := Lib.hid (by unfold letter; simp only [a0, a1, a2, a3, a4, a5, b0, b1, b2, b3, b4, b5, c0, d0, d1, d2]; simp)
    generalize wid r = q at *
    clear h
    go_enter Tryd.func69, Tryd.ntmps69
    go_wp2_with (go_at_call 79; refine (CW.out).mono ?_; rintro e w1 ⟨rfl, hb1⟩)
    go_ret
    refine ⟨?_, hb1⟩
    rw [hl.out]
    by_cases hq : q = 0
    · subst hq
      rfl
    · exact ret_bool (by simp [hq])
set_option maxRecDepth 1000000 in
set_option maxHeartbeats 4000000 in
theorem not1_any (w : World) (p : Int → Bool) (v : Value) (b : Nat) (hv : FV w v p) (hb : w.cell? ⟨b, 0, none⟩ = some v) (r : Int) : Calls Tryd.prog 78 #[.int .i32 r, .pointer (some ⟨b, 0, none⟩)] w fun e w' => e = .returned (.bool (!p r)) ∧ Below w.heap.size w w' := by
  obtain ⟨f, cap, rfl, eg, h2⟩ := hv
  have C := Lib.hid (h2 w (Below.refl _ _) r)
  clear h2
  go_enter Tryd.func78, Tryd.ntmps78
  go_wp2_with (with_reducible refine (C.out).mono ?_; rintro e w1 ⟨rfl, hb1⟩)
  go_ret
  exact ⟨rfl, hb1⟩
set_option maxRecDepth 1000000 in
theorem not_any (w : World) (p : Int → Bool) (v : Value) (hv : FV w v p) : Calls Tryd.prog 66 #[v] w fun e w' => ∃ v', e = .returned v' ∧ FV w' v' (fun r => !p r) ∧ Below w.heap.size w w' := by
  have hb : Below w.heap.size w (w.alloc (.cells #[v] 79)) := (Below.refl _ _).alloc (Nat.le_refl _) _
  have HV := Lib.hid (hv.below hb)
  have HB := Lib.hid hb
  have HC : Hid ((w.alloc (.cells #[v] 79)).heap[w.heap.size]? = some (.cells #[v] 79 (0, 0))) := Lib.hid (alloc_new _ _)
  obtain ⟨f, cap, rfl, eg, h2⟩ := hv
  clear h2 hb
  go_enter Tryd.func66, Tryd.ntmps66
  go_wp2
  go_ret
  refine ⟨_, rfl, ⟨78, #[.pointer (some ⟨w.heap.size, 0, none⟩)], rfl, enters_of Tryd.func78 (by kernel_rfl) rfl, fun W hW r => ?_⟩, HB.out⟩
  exact not1_any W p _ w.heap.size (HV.out.below hW) (cell_of_row W w.heap.size 0 _ _ _ ((hW.block _ (by simp)).trans HC.out)) r
/-- the letters' function value -/
theorem FV.letter {w : World} (hT : WidTab w) : FV w (.func (.func 69) #[] #[]) letter :=
  ⟨69, #[], rfl, enters_of Tryd.func69 (by kernel_rfl) rfl, fun W hW r => letter_any W (hT.below hW) r⟩
def placeN (n : Nat) (k : Int) : Nat := (min (max k 0) (n : Int)).toNat
theorem placeN_le (n : Nat) (k : Int) : placeN n k ≤ n := by unfold placeN; omega
set_option maxRecDepth 1000000 in
theorem place_any (w : World) (A : Option Addr) (n c : Nat) (k : Int) : Calls Tryd.prog 63 #[.slice A n c, .int .i64 k] w fun e w' => e = .returned (.int .i64 (placeN n k : Int)) ∧ w = w' := by
  have h1 : min (max k 0) (n : Int) = (placeN n k : Int) := by unfold placeN; omega
  go_enter Tryd.func63, Tryd.ntmps63
  go_wp2
  go_ret
  exact ⟨by rw [← h1]; rfl, rfl⟩
end Go.Proofs.YtepbhmebidmnbaaDoor
