/-
  Apply, where its runes go beyond the line's end; Apply, for whatever edit.
-/
import Derived.Test.YtepbhmebidmnbaaDoorBfApply
namespace Go.Proofs.YtepbhmebidmnbaaDoor
open Go.RowKit Go.Shelf Go.Lib
attribute [local go_sem] Oper.semAt_some

set_option maxRecDepth 1000000 in
theorem length_q (w : World) (g : Nat) (R : BR) (h : BRAt w g R) (ok : BROk R) : Calls Tryd.prog 52 #[.pointer (some ⟨g, 0, none⟩)] w fun e w' => e = .returned (.int .i64 ((R.u + R.v : Nat) : Int)) ∧ ∃ m, w' = w.drewN m := by
  have c0 := (h.cells ok).c0
  have c1 := (h.cells ok).c1
  have hw : wrap64 ((R.u : Int) + (R.v : Int)) = ((R.u + R.v : Nat) : Int) := by have := ok.sum; unfold wrap64; omega
  clear h ok
  go_enter Tryd.func52, Tryd.ntmps52
  go_wp2
  go_region
  go_wp2
  go_ret
  exact ⟨by rw [hw]; rfl, 1, rfl⟩
set_option maxRecDepth 1000000 in
theorem hasB_q (w : World) (g : Nat) (S : BS) (h : BufAt w g S) (at' : Int) : Calls Tryd.prog 51 #[.pointer (some ⟨g, 0, none⟩), .int .i64 at'] w fun e w' => e = .returned (.bool (placeP S at')) ∧ ∃ m, w' = w.drewN m := by
  obtain ⟨R, ok, hR, rfl, _⟩ := h
  have C := Lib.hid (length_q w g R hR ok)
  unfold placeP
  rw [show R.S.l.length = R.u + R.v from gapLine_length ok.len ok.sum]
  generalize R.u + R.v = n at *
  clear hR ok
  by_cases h0 : 0 ≤ at'
  · have i0 : (0 ≤ at') = True := by simp; exact h0
    have HE : Hid (decide (0 ≤ at' ∧ at' ≤ (n : Int)) = decide (at' ≤ (n : Int))) := Lib.hid (by rw [Bool.eq_iff_iff]; simp; omega)
    clear h0
    go_enter Tryd.func51, Tryd.ntmps51
    go_wp2_with (go_at_call 52; refine (C.out).mono ?_; rintro e w1 ⟨rfl, m, rfl⟩)
    go_ret
    exact ⟨by rw [HE.out]; rfl, m, rfl⟩
  · have i0 : (0 ≤ at') = False := by simp; omega
    have HE : Hid (decide (0 ≤ at' ∧ at' ≤ (n : Int)) = false) := Lib.hid (by simp; omega)
    clear h0
    go_enter Tryd.func51, Tryd.ntmps51
    go_wp2
    go_ret
    exact ⟨by rw [HE.out]; rfl, 0, rfl⟩
set_option maxRecDepth 1000000 in
set_option maxHeartbeats 8000000 in
theorem apply_over (w : World) (g : Nat) (S : BS) (h : BufAt w g S) (p : Int) (d i : List Int) (dv iv : Value) (hd : Holds1 w dv (runeVals d)) (hi : OffR w g iv i) (hdl : d.length ≤ 35184372088832) (_hil : i.length ≤ 35184372088832) (hcase : placeP S p = true → placeP S (p + d.length) = false) :
    Calls Tryd.prog 36 #[.pointer (some ⟨g, 0, none⟩), editV p dv iv] w (OpPost w g (applyS S p d i) (applyErr S p d i)) := by
  obtain ⟨A1, c1, rfl, _⟩ := id hd
  obtain ⟨A2, c2, rfl⟩ := hi.form
  rw [runeVals_length] at hd ⊢
  obtain ⟨w1, hw1⟩ : ∃ w1, w1 = w.alloc (.cells #[.int .i64 p, .slice A1 d.length c1, .slice A2 i.length c2] 33) := ⟨_, rfl⟩
  have b1 : Below w.heap.size w w1 := by rw [hw1]; exact (Below.refl _ _).alloc (Nat.le_refl _) _
  have X : Hid (EBox w1 w.heap.size #[.int .i64 p, .slice A1 d.length c1, .slice A2 i.length c2]) := Lib.hid (by rw [hw1]; exact alloc_new _ _)
  have B := Lib.hid b1
  have H := Lib.hid (h.below b1)
  have HG := Lib.hid h.lt
  have okS := h.ok
  have CU := Lib.hid fun W (h : BufAt W g S) => usableB_any W g S h
  have CH := Lib.hid fun W (h : BufAt W g S) k => hasB_any W g S h k
  have HW1 := Lib.hid hw1
  have x0 := X.out.cell 0
  have x1 := X.out.cell 1
  have x2 := X.out.cell 2
  by_cases hp : placeP S p = true
  case neg =>
    have hp' : placeP S p = false := by simpa using hp
    have e1 : applyErr S p d i = 70 := if_pos hp'
    have e2 : applyS S p d i = S := if_neg (by rw [e1]; decide)
    rw [e1, e2]
    have CH1 : Hid (Calls Tryd.prog 51 #[.pointer (some ⟨g, 0, none⟩), .int .i64 p] w1 fun e w' => e = .returned (.bool false) ∧ Below w1.heap.size w1 w') := Lib.hid (by have := CH.out w1 H.out p; rwa [hp'] at this)
    clear hcase hd hi hp hp' e1 e2 okS h b1 hw1 hdl
    go_enter Tryd.func36, Tryd.ntmps36
    go_wp2_with fail
    rw [← HW1.out]
    go_wp2_with (first
      | (go_at_call 50; refine (CU.out _ H.out).mono ?_; rintro e w2 ⟨rfl, rfl⟩)
      | (go_at_call 51; refine (CH1.out).mono ?_; rintro e w2 ⟨rfl, hb⟩; have B := Lib.hid (B.out.trans (hb.mono B.out.size)); have H := Lib.hid (H.out.below hb); clear hb))
    go_ret
    exact ⟨rfl, H.out, Touch.of_below B.out⟩
  obtain ⟨q, rfl⟩ : ∃ q : Nat, p = q := ⟨p.toNat, by have := place_range hp; omega⟩
  have hq : q ≤ S.l.length := by have := place_range hp; omega
  have hS := okS.len
  have CH1 : Hid (∀ W, BufAt W g S → Calls Tryd.prog 51 #[.pointer (some ⟨g, 0, none⟩), .int .i64 (q : Int)] W fun e w' => e = .returned (.bool true) ∧ Below W.heap.size W w') := Lib.hid fun W h => by have := CH.out W h q; rwa [hp] at this
  obtain ⟨t, et⟩ : ∃ t, t = q + d.length := ⟨_, rfl⟩
  have i1 : IntKind.i64.wrap ((q : Int) + (d.length : Int)) = (t : Int) := by rw [IntWalk.i64_in _ (by omega)]; omega
  have ec : ((q : Int) + (d.length : Int)) = (t : Int) := by omega
  have ht : ¬ placeP S (t : Int) = true := by rw [← ec, hcase hp]; decide
  have ht' : placeP S (t : Int) = false := by simpa using ht
  have e1 : applyErr S q d i = 71 := by unfold applyErr; rw [if_neg (by rw [hp]; decide), ec, if_pos ht']
  have e2 : applyS S q d i = S := if_neg (by rw [e1]; decide)
  rw [e1, e2]
  have CH2 : Hid (∀ W, BufAt W g S → Calls Tryd.prog 51 #[.pointer (some ⟨g, 0, none⟩), .int .i64 (t : Int)] W fun e w' => e = .returned (.bool false) ∧ ∃ m, w' = W.drewN m) := Lib.hid fun W h => by have := hasB_q W g S h t; rwa [ht'] at this
  have tok1 : True := trivial
  clear hcase hd hi hp ht ht' e1 e2 okS h b1 hw1 hdl hq hS et ec
  go_enter Tryd.func36, Tryd.ntmps36
  go_wp2_with fail
  rw [← HW1.out]
  go_wp2_with (first
    | (go_at_call 50; refine (CU.out _ H.out).mono ?_; rintro e w2 ⟨rfl, rfl⟩)
    | (go_at_call 51; have tk := tok1; refine (CH1.out _ H.out).mono ?_; rintro e wa ⟨rfl, hb⟩; have B := Lib.hid (B.out.trans (hb.mono B.out.size)); have H := Lib.hid (H.out.below hb); have X := Lib.hid (X.out.below hb); have x0 := X.out.cell 0; have x1 := X.out.cell 1; have x2 := X.out.cell 2; clear hb tok1 tk))
  have HQ : Hid (∀ n, BufAt (wa.drewN n) g S) := Lib.hid fun n => H.out.same rfl
  go_quiet (first
    | (go_at_call 51; exact Calls.quiet_of (CH2.out _ (HQ.out _))))
  have Dn : Below wa.heap.size wa (wa.drewN nq) := ⟨rfl, rfl, rfl, Nat.le_refl _, fun _ _ => rfl⟩
  have B := Lib.hid (B.out.trans (Dn.mono B.out.size))
  have H := Lib.hid (H.out.below Dn)
  go_wp2
  go_ret
  exact ⟨rfl, H.out, Touch.of_below B.out⟩
theorem apply_any (w : World) (g : Nat) (S : BS) (h : BufAt w g S) (p : Int) (d i : List Int) (dv iv : Value) (hd : Holds1 w dv (runeVals d)) (hi : OffR w g iv i) (hdl : d.length ≤ 35184372088832) (hil : i.length ≤ 35184372088832) :
    Calls Tryd.prog 36 #[.pointer (some ⟨g, 0, none⟩), editV p dv iv] w (OpPost w g (applyS S p d i) (applyErr S p d i)) := by
  by_cases hc : placeP S (p + d.length) = true
  · exact apply_fits w g S h p d i dv iv hd hi hdl hil fun _ => hc
  · exact apply_over w g S h p d i dv iv hd hi hdl hil fun _ => by simpa using hc
end Go.Proofs.YtepbhmebidmnbaaDoor
