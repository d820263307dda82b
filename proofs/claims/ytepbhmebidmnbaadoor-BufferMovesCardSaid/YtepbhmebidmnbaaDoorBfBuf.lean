/-
  What the small methods of a buffer answer: usable, has, Point, Len, Mark, Text, Line; slices.Clone; how a change moves point and mark.
-/
import Derived.Test.YtepbhmebidmnbaaDoorBfMove
namespace Go.Proofs.YtepbhmebidmnbaaDoor
open Go.RowKit Go.Shelf Go.Lib
attribute [local go_sem] Oper.semAt_some

set_option maxRecDepth 1000000 in
theorem cloneR_any (w : World) (v : Value) (x : List Int) (hx : Holds1 w v (runeVals x)) (hl : x.length ≤ 500000000) : Calls Tryd.prog 54 #[v] w fun e w' => ∃ v', e = .returned v' ∧ w'.ownsRow w.heap.size 21 1 v' x.length (runeVals x) ∧ Below w.heap.size w w' := by
  obtain ⟨A, c, rfl, ⟨hc, hn⟩, hcell⟩ := id hx
  rw [runeVals_length] at hx hc ⊢
  have qn : ∀ (W : World) (a : Option Addr) (n c n' c' : Nat), (binOp .eql 22 (.slice a n c) (.slice none n' c')).run Tryd.prog W = .ok (.bool a.isNone) W := fun W a n c n' c' => Lib.run_eql_slice_nil W _ _ a n c n' c' Tryd.underlying22
  cases A with
  | none =>
    obtain rfl := hn rfl
    have h0 : x.length = 0 := by omega
    obtain rfl : x = [] := List.eq_nil_of_length_eq_zero h0
    clear hx hc hn hcell hl
    go_enter Tryd.func54, Tryd.ntmps54
    go_wp2
    go_ret
    exact ⟨_, rfl, World.ownsRow_nil _ _ _ _, Below.refl _ _⟩
  | some a =>
    have H := Lib.hid hx
    have HL := Lib.hid hl
    have HB : Hid (Below w.heap.size w (w.alloc (.cells #[] 21))) := Lib.hid ((Below.refl _ _).alloc (Nat.le_refl _) _)
    have HX : Hid (Holds1 (w.alloc (.cells #[] 21)) (.slice (some a) x.length c) (runeVals x)) := Lib.hid (H.out.below HB.out)
    have HO : Hid ((w.alloc (.cells #[] 21)).ownsRow w.heap.size 21 1 (.slice (some ⟨w.heap.size, 0, none⟩) 0 0) ([] : List Int).length (runeVals [])) := Lib.hid ⟨rfl, .inr ⟨w.heap.size, 0, #[], rfl, Nat.le_refl _, alloc_new _ _, Nat.le_refl _, by simp, by simp, by simp [runeVals]⟩⟩
    clear hx hc hn hcell hl
    go_enter Tryd.func54, Tryd.ntmps54
    go_wp2_with (at_builtin; refine wpList_append_runes (by rfl) _ _ (by rfl) w.heap.size (.slice (some ⟨w.heap.size, 0, none⟩) 0 0) [] (by rfl) HO.out (some a) x.length c x (by rfl) HX.out (by have := HL.out; simp only [List.length_nil]; omega) (by simp) ?_; intro v2 w2 h2 hb2 hg2; have H2 := Lib.hid h2; have B2 := Lib.hid (HB.out.trans hb2); clear h2 hb2 hg2)
    go_ret
    exact ⟨_, rfl, H2.out, B2.out⟩

section
variable {w : World} {g : Nat} {R : BR}
set_option maxRecDepth 1000000 in
theorem usable_any (w : World) (g : Nat) (R : BR) (h : BRAt w g R) (ok : BROk R) : Calls Tryd.prog 50 #[.pointer (some ⟨g, 0, none⟩)] w fun e w' => e = .returned (.bool true) ∧ w = w' := by
  have c0 := (h.cells ok).c2
  clear h ok
  go_enter Tryd.func50, Tryd.ntmps50
  go_wp2
  go_ret
  exact ⟨rfl, rfl⟩
set_option maxRecDepth 1000000 in
theorem has_any (w : World) (g : Nat) (R : BR) (h : BRAt w g R) (ok : BROk R) (at' : Int) : Calls Tryd.prog 51 #[.pointer (some ⟨g, 0, none⟩), .int .i64 at'] w fun e w' => e = .returned (.bool (decide (0 ≤ at' ∧ at' ≤ ((R.u + R.v : Nat) : Int)))) ∧ Below w.heap.size w w' := by
  have C := Lib.hid (length_any w g R h ok)
  generalize R.u + R.v = n at *
  clear h ok
  by_cases h0 : 0 ≤ at'
  · have i0 : (0 ≤ at') = True := by simp; exact h0
    have HE : Hid (decide (0 ≤ at' ∧ at' ≤ (n : Int)) = decide (at' ≤ (n : Int))) := Lib.hid (by rw [Bool.eq_iff_iff]; simp; omega)
    clear h0
    go_enter Tryd.func51, Tryd.ntmps51
    go_wp2_with (go_at_call 52; refine (C.out).mono ?_; rintro e w1 ⟨rfl, hb⟩)
    go_ret
    exact ⟨by rw [HE.out]; rfl, hb⟩
  · have i0 : (0 ≤ at') = False := by simp; omega
    have HE : Hid (decide (0 ≤ at' ∧ at' ≤ (n : Int)) = false) := Lib.hid (by simp; omega)
    clear h0
    go_enter Tryd.func51, Tryd.ntmps51
    go_wp2_with (go_at_call 52; refine (C.out).mono ?_; rintro e w1 ⟨rfl, hb⟩)
    go_ret
    exact ⟨by rw [HE.out]; rfl, Below.refl _ _⟩
set_option maxRecDepth 1000000 in
theorem point_any (w : World) (g : Nat) (R : BR) (h : BRAt w g R) (ok : BROk R) : Calls Tryd.prog 35 #[.pointer (some ⟨g, 0, none⟩)] w fun e w' => e = .returned (.int .i64 (R.pt : Int)) ∧ w = w' := by
  have C := Lib.hid (usable_any w g R h ok)
  have c3 := (h.cells ok).c3
  clear h ok
  go_enter Tryd.func35, Tryd.ntmps35
  go_wp2_with (go_at_call 50; refine (C.out).mono ?_; rintro e w1 ⟨rfl, rfl⟩)
  go_ret
  exact ⟨rfl, rfl⟩
set_option maxRecDepth 1000000 in
theorem mark_any (w : World) (g : Nat) (R : BR) (h : BRAt w g R) (ok : BROk R) : Calls Tryd.prog 46 #[.pointer (some ⟨g, 0, none⟩)] w fun e w' => e = .returned (.int .i64 R.mr) ∧ w = w' := by
  have C := Lib.hid (usable_any w g R h ok)
  have c3 := (h.cells ok).c4
  clear h ok
  go_enter Tryd.func46, Tryd.ntmps46
  go_wp2_with (go_at_call 50; refine (C.out).mono ?_; rintro e w1 ⟨rfl, rfl⟩)
  go_ret
  exact ⟨rfl, rfl⟩
set_option maxRecDepth 1000000 in
theorem len_any (w : World) (g : Nat) (R : BR) (h : BRAt w g R) (ok : BROk R) : Calls Tryd.prog 45 #[.pointer (some ⟨g, 0, none⟩)] w fun e w' => e = .returned (.int .i64 ((R.u + R.v : Nat) : Int)) ∧ Below w.heap.size w w' := by
  have C := Lib.hid (usable_any w g R h ok)
  have L := Lib.hid (length_any w g R h ok)
  generalize R.u + R.v = n at *
  clear h ok
  go_enter Tryd.func45, Tryd.ntmps45
  go_wp2_with (first
    | (go_at_call 50; refine (C.out).mono ?_; rintro e w1 ⟨rfl, rfl⟩)
    | (go_at_call 52; refine (L.out).mono ?_; rintro e w1 ⟨rfl, hb⟩))
  go_ret
  exact ⟨rfl, hb⟩
set_option maxRecDepth 1000000 in
theorem text_any (w : World) (g : Nat) (R : BR) (h : BRAt w g R) (ok : BROk R) : Calls Tryd.prog 34 #[.pointer (some ⟨g, 0, none⟩)] w fun e w' => ∃ v, e = .returned v ∧ w'.ownsRow w.heap.size 21 1 v (R.u + R.v) (runeVals (gapLine R.A R.u R.v)) ∧ Below w.heap.size w w' := by
  have C := Lib.hid (usable_any w g R h ok)
  have hd : BRAt w.drew g R := h
  have L := Lib.hid (length_any w.drew g R hd ok)
  have HP : Hid (∀ W, Below w.heap.size w W → Calls Tryd.prog 53 #[.pointer (some ⟨g, 0, none⟩), .int .i64 0, .int .i64 ((R.u + R.v : Nat) : Int)] W fun e w' => ∃ v, e = .returned v ∧ w'.ownsRow W.heap.size 21 1 v (R.u + R.v) (runeVals (gapLine R.A R.u R.v)) ∧ Below W.heap.size W w') := Lib.hid fun W hW => by
    have := part_any W g R (h.below hW) ok (Nat.zero_le (R.u + R.v)) (Nat.le_refl _)
    rw [Nat.sub_zero, show partP (gapLine R.A R.u R.v) 0 (R.u + R.v) = gapLine R.A R.u R.v by rw [← gapLine_length ok.len ok.sum]; exact partP_all _] at this
    exact this
  have B0 : Hid (Below w.heap.size w w.drew) := Lib.hid ⟨rfl, rfl, rfl, Nat.le_refl _, fun _ _ => rfl⟩
  generalize R.u + R.v = n at *
  clear h ok hd
  go_enter Tryd.func34, Tryd.ntmps34
  go_wp2_with (go_at_call 50; refine (C.out).mono ?_; rintro e w1 ⟨rfl, rfl⟩)
  go_region_with (first
    | (go_at_call 52; refine (L.out).mono ?_; rintro e w1 ⟨rfl, hb1⟩; have B1 := Lib.hid (B0.out.trans hb1); clear hb1)
    | (go_at_call 53; refine (HP.out _ B1.out).mono ?_; rintro e w2 ⟨v, rfl, hr, hb2⟩; have HR := Lib.hid (own_less hr B1.out.size); have B2 := Lib.hid (B1.out.trans (hb2.mono B1.out.size)); clear hr hb2))
  all_goals
    go_wp2
    go_ret
    exact ⟨_, rfl, HR.out, B2.out⟩

set_option maxRecDepth 1000000 in
set_option maxHeartbeats 4000000 in
theorem follow_any (w : World) (g : Nat) (R : BR) (h : BRAt w g R) (ok : BROk R) {a b n : Nat} (hab : a ≤ b) (hb : b ≤ 1024) (hn : n ≤ 1024) (hp : R.pt ≤ 1024) (hm0 : -1 ≤ R.mr) (hm : R.mr ≤ 1024) :
    Calls Tryd.prog 56 #[.pointer (some ⟨g, 0, none⟩), .int .i64 (a : Int), .int .i64 (b : Int), .int .i64 (n : Int)] w fun e w' => e = .returned (.tuple #[]) ∧ BRAt w' g { R with pt := pointP R.pt a b n, mr := markP R.mr a b n } ∧ Touch (Only g) w w' := by
  have c3 := (h.cells ok).c3
  have c4 := (h.cells ok).c4
  have f3 := h.frozen 1027
  have f4 := h.frozen 1028
  obtain ⟨d, ed⟩ : ∃ d : Int, d = (n : Int) - ((b : Int) - a) := ⟨_, rfl⟩
  have i1 : IntKind.i64.wrap ((b : Int) - (a : Int)) = (b : Int) - a := IntWalk.i64_in _ (by omega)
  have i2 : IntKind.i64.wrap ((n : Int) - ((b : Int) - (a : Int))) = d := by rw [IntWalk.i64_in _ (by omega)]; omega
  have H := Lib.hid h
  have OK := Lib.hid ok
  obtain ⟨p', hp'⟩ : ∃ p', p' = pointP R.pt a b n := ⟨_, rfl⟩
  obtain ⟨m', hm'⟩ : ∃ m', m' = markP R.mr a b n := ⟨_, rfl⟩
  rw [← hp', ← hm']
  unfold pointP at hp'
  unfold markP at hm'
  have hpc : (b < R.pt ∧ (p' : Int) = (R.pt : Int) + d) ∨ (¬ b < R.pt ∧ a ≤ R.pt ∧ p' = a + n) ∨ (¬ b < R.pt ∧ ¬ a ≤ R.pt ∧ p' = R.pt) := by
    split at hp'
    · exact .inl ⟨by assumption, by omega⟩
    · split at hp'
      · exact .inr (.inl ⟨by assumption, by assumption, hp'⟩)
      · exact .inr (.inr ⟨by assumption, by assumption, hp'⟩)
  have hmc : ((b : Int) < R.mr ∧ m' = R.mr + d) ∨ (¬ (b : Int) < R.mr ∧ (a : Int) < R.mr ∧ m' = a) ∨ (¬ (b : Int) < R.mr ∧ ¬ (a : Int) < R.mr ∧ m' = R.mr) := by
    split at hm'
    · exact .inl ⟨by assumption, by omega⟩
    · split at hm'
      · exact .inr (.inl ⟨by assumption, by assumption, hm'⟩)
      · exact .inr (.inr ⟨by assumption, by assumption, hm'⟩)
  have i3 : IntKind.i64.wrap ((a : Int) + (n : Int)) = ((a + n : Nat) : Int) := by rw [IntWalk.i64_in _ (by omega)]; omega
  clear hp' hm' h ok
  rcases hpc with hpc | hpc | hpc <;> rcases hmc with hmc | hmc | hmc
  · obtain ⟨x1, x2⟩ := hpc
    have y1 : ((b : Int) < (R.pt : Int)) = True := by simp; exact x1
    have y2 : IntKind.i64.wrap ((R.pt : Int) + d) = (p' : Int) := by rw [IntWalk.i64_in _ (by omega)]; omega
    clear x1 x2
    obtain ⟨z1, z2⟩ := hmc
    have v1 : ((b : Int) < R.mr) = True := by simp; exact z1
    have v2 : IntKind.i64.wrap (R.mr + d) = m' := by rw [IntWalk.i64_in _ (by omega)]; omega
    clear z1 z2
    clear hp hm0 hm hab hb hn ed
    go_enter Tryd.func56, Tryd.ntmps56
    go_wp2
    go_end0
    exact ⟨rfl, (H.out.setPt OK.out p').setMr ⟨OK.out.len, OK.out.sum⟩ _, touch_two _ _ _ _ _ _⟩
  · obtain ⟨x1, x2⟩ := hpc
    have y1 : ((b : Int) < (R.pt : Int)) = True := by simp; exact x1
    have y2 : IntKind.i64.wrap ((R.pt : Int) + d) = (p' : Int) := by rw [IntWalk.i64_in _ (by omega)]; omega
    clear x1 x2
    obtain ⟨z1, z2, z3⟩ := hmc
    have v1 : ((b : Int) < R.mr) = False := by simp; omega
    have v2 : ((a : Int) < R.mr) = True := by simp; exact z2
    subst z3
    clear z1 z2
    clear hp hm0 hm hab hb hn ed
    go_enter Tryd.func56, Tryd.ntmps56
    go_wp2
    go_end0
    exact ⟨rfl, (H.out.setPt OK.out p').setMr ⟨OK.out.len, OK.out.sum⟩ _, touch_two _ _ _ _ _ _⟩
  · obtain ⟨x1, x2⟩ := hpc
    have y1 : ((b : Int) < (R.pt : Int)) = True := by simp; exact x1
    have y2 : IntKind.i64.wrap ((R.pt : Int) + d) = (p' : Int) := by rw [IntWalk.i64_in _ (by omega)]; omega
    clear x1 x2
    obtain ⟨z1, z2, z3⟩ := hmc
    have v1 : ((b : Int) < R.mr) = False := by simp; omega
    have v2 : ((a : Int) < R.mr) = False := by simp; omega
    subst z3
    clear z1 z2
    clear hp hm0 hm hab hb hn ed
    go_enter Tryd.func56, Tryd.ntmps56
    go_wp2
    go_end0
    exact ⟨rfl, H.out.setPt OK.out p', only_set _ _ _ _⟩
  · obtain ⟨x1, x2, x3⟩ := hpc
    have y1 : ((b : Int) < (R.pt : Int)) = False := by simp; omega
    have y2 : ((a : Int) ≤ (R.pt : Int)) = True := by simp; exact x2
    rw [← x3] at i3
    clear x1 x2 x3
    obtain ⟨z1, z2⟩ := hmc
    have v1 : ((b : Int) < R.mr) = True := by simp; exact z1
    have v2 : IntKind.i64.wrap (R.mr + d) = m' := by rw [IntWalk.i64_in _ (by omega)]; omega
    clear z1 z2
    clear hp hm0 hm hab hb hn ed
    go_enter Tryd.func56, Tryd.ntmps56
    go_wp2
    go_end0
    exact ⟨rfl, (H.out.setPt OK.out p').setMr ⟨OK.out.len, OK.out.sum⟩ _, touch_two _ _ _ _ _ _⟩
  · obtain ⟨x1, x2, x3⟩ := hpc
    have y1 : ((b : Int) < (R.pt : Int)) = False := by simp; omega
    have y2 : ((a : Int) ≤ (R.pt : Int)) = True := by simp; exact x2
    rw [← x3] at i3
    clear x1 x2 x3
    obtain ⟨z1, z2, z3⟩ := hmc
    have v1 : ((b : Int) < R.mr) = False := by simp; omega
    have v2 : ((a : Int) < R.mr) = True := by simp; exact z2
    subst z3
    clear z1 z2
    clear hp hm0 hm hab hb hn ed
    go_enter Tryd.func56, Tryd.ntmps56
    go_wp2
    go_end0
    exact ⟨rfl, (H.out.setPt OK.out p').setMr ⟨OK.out.len, OK.out.sum⟩ _, touch_two _ _ _ _ _ _⟩
  · obtain ⟨x1, x2, x3⟩ := hpc
    have y1 : ((b : Int) < (R.pt : Int)) = False := by simp; omega
    have y2 : ((a : Int) ≤ (R.pt : Int)) = True := by simp; exact x2
    rw [← x3] at i3
    clear x1 x2 x3
    obtain ⟨z1, z2, z3⟩ := hmc
    have v1 : ((b : Int) < R.mr) = False := by simp; omega
    have v2 : ((a : Int) < R.mr) = False := by simp; omega
    subst z3
    clear z1 z2
    clear hp hm0 hm hab hb hn ed
    go_enter Tryd.func56, Tryd.ntmps56
    go_wp2
    go_end0
    exact ⟨rfl, H.out.setPt OK.out p', only_set _ _ _ _⟩
  · obtain ⟨x1, x2, x3⟩ := hpc
    have y1 : ((b : Int) < (R.pt : Int)) = False := by simp; omega
    have y2 : ((a : Int) ≤ (R.pt : Int)) = False := by simp; omega
    subst x3
    clear x1 x2
    obtain ⟨z1, z2⟩ := hmc
    have v1 : ((b : Int) < R.mr) = True := by simp; exact z1
    have v2 : IntKind.i64.wrap (R.mr + d) = m' := by rw [IntWalk.i64_in _ (by omega)]; omega
    clear z1 z2
    clear hp hm0 hm hab hb hn ed
    go_enter Tryd.func56, Tryd.ntmps56
    go_wp2
    go_end0
    exact ⟨rfl, H.out.setMr OK.out _, only_set _ _ _ _⟩
  · obtain ⟨x1, x2, x3⟩ := hpc
    have y1 : ((b : Int) < (R.pt : Int)) = False := by simp; omega
    have y2 : ((a : Int) ≤ (R.pt : Int)) = False := by simp; omega
    subst x3
    clear x1 x2
    obtain ⟨z1, z2, z3⟩ := hmc
    have v1 : ((b : Int) < R.mr) = False := by simp; omega
    have v2 : ((a : Int) < R.mr) = True := by simp; exact z2
    subst z3
    clear z1 z2
    clear hp hm0 hm hab hb hn ed
    go_enter Tryd.func56, Tryd.ntmps56
    go_wp2
    go_end0
    exact ⟨rfl, H.out.setMr OK.out _, only_set _ _ _ _⟩
  · obtain ⟨x1, x2, x3⟩ := hpc
    have y1 : ((b : Int) < (R.pt : Int)) = False := by simp; omega
    have y2 : ((a : Int) ≤ (R.pt : Int)) = False := by simp; omega
    subst x3
    clear x1 x2
    obtain ⟨z1, z2, z3⟩ := hmc
    have v1 : ((b : Int) < R.mr) = False := by simp; omega
    have v2 : ((a : Int) < R.mr) = False := by simp; omega
    subst z3
    clear z1 z2
    clear hp hm0 hm hab hb hn ed
    go_enter Tryd.func56, Tryd.ntmps56
    go_wp2
    go_end0
    exact ⟨rfl, H.out, Touch.refl _ _⟩
end
end Go.Proofs.YtepbhmebidmnbaaDoor
