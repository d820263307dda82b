/-
  Reverse and Apply.
-/
import Derived.Test.YtepbhmebidmnbaaDoorBfEq
namespace Go.Proofs.YtepbhmebidmnbaaDoor
open Go.RowKit Go.Shelf Go.Lib
attribute [local go_sem] Oper.semAt_some

/-- the answer's edit, alone, lies in a box of its own -/
theorem ret_edit1 {fn : Func} {Q : Ending → World → Prop} {a : Act} {W : World} {p : Tmp} {cs : Array Value} {g : Nat} {t : TypeId} {fr : Nat × Nat} (h : fn.results = #[.cell p 33]) (hd : a.defers = []) (hp : a.tmps.getD p undef = .pointer (some ⟨g, 0, none⟩))
    (hg : W.heap[g]? = some (.cells cs t fr)) (h3 : cs.size = 3) (hR : Q (.returned (.agg cs)) W) : bodyPost Tryd.prog fn Q .ret a W :=
  bodyPost_ret (results_cell_row h _ _ g t cs fr _ hp hg Tryd.underlying33 rfl (by rw [h3]; kernel_rfl)) hd hR
set_option maxRecDepth 1000000 in
set_option maxHeartbeats 4000000 in
theorem reverse_any (w : World) (p : Int) (x y : List Int) (v1 v2 : Value) (h1 : Holds1 w v1 (runeVals x)) (h2 : Holds1 w v2 (runeVals y)) (hx : x.length ≤ 500000000) (hy : y.length ≤ 500000000) :
    Calls Tryd.prog 37 #[editV p v1 v2] w fun e w' => ∃ u1 u2, e = .returned (editV p u1 u2) ∧ RRow w' w.heap.size u1 y ∧ RRow w' w.heap.size u2 x ∧ Below w.heap.size w w' := by
  obtain ⟨A1, c1, e1, _⟩ := id h1
  obtain ⟨A2, c2, e2, _⟩ := id h2
  obtain ⟨w1, hw1⟩ : ∃ w1, w1 = (w.alloc (.cells #[.int .i64 p, v1, v2] 33)).alloc (.cells edit0 33) := ⟨_, rfl⟩
  have b1 : Below w.heap.size w (w.alloc (.cells #[.int .i64 p, v1, v2] 33)) := (Below.refl _ _).alloc (Nat.le_refl _) _
  have b2 : Below (w.alloc (.cells #[.int .i64 p, v1, v2] 33)).heap.size (w.alloc (.cells #[.int .i64 p, v1, v2] 33)) w1 := by rw [hw1]; exact (Below.refl _ _).alloc (Nat.le_refl _) _
  have b3 : Below w1.heap.size w1 w1.drew := (Below.refl _ _).drew
  have B := Lib.hid ((b1.trans (b2.mono b1.size)).trans (b3.mono (b1.trans (b2.mono b1.size)).size))
  have X : Hid (EBox w1.drew w.heap.size #[.int .i64 p, v1, v2]) := Lib.hid (show EBox w1 w.heap.size #[.int .i64 p, v1, v2] from EBox.below (alloc_new _ _) b2)
  have Y : Hid (EBox w1.drew (w.heap.size + 1) edit0) := Lib.hid (by
    have := alloc_new (w.alloc (.cells #[.int .i64 p, v1, v2] 33)) (.cells edit0 33)
    rw [← hw1] at this
    rw [show (w.alloc (.cells #[.int .i64 p, v1, v2] 33)).heap.size = w.heap.size + 1 by simp] at this
    exact this)
  have C1 : Hid (∀ W, Below w.heap.size w W → Calls Tryd.prog 54 #[v2] W fun e w' => ∃ v', e = .returned v' ∧ RRow w' W.heap.size v' y ∧ Below W.heap.size W w') := Lib.hid fun W hb => cloneR_any W v2 y (h2.below hb) hy
  have C2 : Hid (∀ W, Below w.heap.size w W → Calls Tryd.prog 54 #[v1] W fun e w' => ∃ v', e = .returned v' ∧ RRow w' W.heap.size v' x ∧ Below W.heap.size W w') := Lib.hid fun W hb => cloneR_any W v1 x (h1.below hb) hx
  have hT0 : w1.drew.cell? ⟨w.heap.size, 0, none⟩ = some (.int .i64 p) ∧ w1.drew.cell? ⟨w.heap.size, 1, none⟩ = some v1 ∧ w1.drew.cell? ⟨w.heap.size, 2, none⟩ = some v2 := ⟨X.out.cell 0, X.out.cell 1, X.out.cell 2⟩
  have HW1 := Lib.hid hw1
  have tok1 : True := trivial
  clear h1 h2 b1 b2 b3 hw1 hx hy
  subst e1 e2
  generalize (runeVals x).length = n1 at *
  generalize (runeVals y).length = n2 at *
  go_enter Tryd.func37, Tryd.ntmps37
  go_wp2_with fail
  rw [← HW1.out]
  go_region_held3 (fun W => W.cell? ⟨w.heap.size, 0, none⟩ = some (.int .i64 p) ∧ W.cell? ⟨w.heap.size, 1, none⟩ = some (.slice A1 n1 c1) ∧ W.cell? ⟨w.heap.size, 2, none⟩ = some (.slice A2 n2 c2)) (first | with_reducible exact hT2 | with_reducible exact hT1 | with_reducible exact hT0 | go_keep | fail) (first
    | (go_at_call 54; have tk := tok1; refine (C1.out _ B.out).mono ?_; rintro e w2 ⟨u1, rfl, hr, hb⟩; obtain ⟨Au, nu, cu, rfl⟩ := hr.form3; have R1 := Lib.hid (hr.less B.out.size); have B := Lib.hid (B.out.trans (hb.mono B.out.size)); have X := Lib.hid (X.out.below hb); have Y := Lib.hid (Y.out.below hb); have hT1 : w2.cell? ⟨w.heap.size, 0, none⟩ = some (.int .i64 p) ∧ w2.cell? ⟨w.heap.size, 1, none⟩ = some (.slice A1 n1 c1) ∧ w2.cell? ⟨w.heap.size, 2, none⟩ = some (.slice A2 n2 c2) := ⟨X.out.cell 0, X.out.cell 1, X.out.cell 2⟩; have tok2 : True := trivial; clear hr hb tk tok1)
    | (go_at_call 54; have tk := tok2; refine (C2.out _ B.out).mono ?_; rintro e w3 ⟨u2, rfl, hr, hb⟩; obtain ⟨Av, nv, cv, rfl⟩ := hr.form3; have R2 := Lib.hid (hr.less B.out.size); have R1 := Lib.hid (R1.out.below hb); have B := Lib.hid (B.out.trans (hb.mono B.out.size)); have X := Lib.hid (X.out.below hb); have Y := Lib.hid (Y.out.below hb); have hT2 : w3.cell? ⟨w.heap.size, 0, none⟩ = some (.int .i64 p) ∧ w3.cell? ⟨w.heap.size, 1, none⟩ = some (.slice A1 n1 c1) ∧ w3.cell? ⟨w.heap.size, 2, none⟩ = some (.slice A2 n2 c2) := ⟨X.out.cell 0, X.out.cell 1, X.out.cell 2⟩; have y0 := Y.out.cell 0; have y1 := Y.out.cell 1; have y2 := Y.out.cell 2; have z0 := Y.out.frozen 0; have z1 := Y.out.frozen 1; have z2 := Y.out.frozen 2; clear hr hb tk tok2))
  all_goals
    go_wp2
    refine ret_edit1 rfl rfl rfl Y.out.set rfl ?_
    exact ⟨_, _, rfl, R1.out.three Y.out, R2.out.three Y.out, below_three w _ (w.heap.size + 1) (Nat.le_succ _) _ _ _ B.out⟩
/-- what Apply answers, and the line behind it -/
def applyErr (S : BS) (p : Int) (d i : List Int) : Int :=
  if placeP S p = false then 70 else if placeP S (p + d.length) = false then 71 else if partP S.l p.toNat (p.toNat + d.length) = d then replErr S p (p + d.length) i.length else 71
def applyS (S : BS) (p : Int) (d i : List Int) : BS := if applyErr S p d i = 0 then replP S p.toNat (p.toNat + d.length) i else S
theorem place_range {S : BS} {p : Int} (h : placeP S p = true) : 0 ≤ p ∧ p ≤ (S.l.length : Int) := by simpa [placeP] using h
set_option maxRecDepth 1000000 in
set_option maxHeartbeats 8000000 in
theorem apply_fits (w : World) (g : Nat) (S : BS) (h : BufAt w g S) (p : Int) (d i : List Int) (dv iv : Value) (hd : Holds1 w dv (runeVals d)) (hi : OffR w g iv i) (hdl : d.length ≤ 35184372088832) (hil : i.length ≤ 35184372088832) (hcase : placeP S p = true → placeP S (p + d.length) = true) :
    Calls Tryd.prog 36 #[.pointer (some ⟨g, 0, none⟩), editV p dv iv] w (OpPost w g (applyS S p d i) (applyErr S p d i)) := by
  obtain ⟨A1, c1, rfl, _⟩ := id hd
  obtain ⟨A2, c2, rfl⟩ := hi.form
  rw [runeVals_length] at hd ⊢
  obtain ⟨w1, hw1⟩ : ∃ w1, w1 = w.alloc (.cells #[.int .i64 p, .slice A1 d.length c1, .slice A2 i.length c2] 33) := ⟨_, rfl⟩
  have b1 : Below w.heap.size w w1 := by rw [hw1]; exact (Below.refl _ _).alloc (Nat.le_refl _) _
  have X : Hid (EBox w1 w.heap.size #[.int .i64 p, .slice A1 d.length c1, .slice A2 i.length c2]) := Lib.hid (by rw [hw1]; exact alloc_new _ _)
  have B := Lib.hid b1
  have H := Lib.hid (h.below b1)
  have HG := Lib.hid h.lt
  have okS := h.ok
  have CU := Lib.hid fun W (h : BufAt W g S) => usableB_any W g S h
  have CH := Lib.hid fun W (h : BufAt W g S) k => hasB_any W g S h k
  have HW1 := Lib.hid hw1
  have x0 := X.out.cell 0
  have x1 := X.out.cell 1
  have x2 := X.out.cell 2
  by_cases hp : placeP S p = true
  case neg =>
    have hp' : placeP S p = false := by simpa using hp
    have e1 : applyErr S p d i = 70 := if_pos hp'
    have e2 : applyS S p d i = S := if_neg (by rw [e1]; decide)
    rw [e1, e2]
    have CH1 : Hid (Calls Tryd.prog 51 #[.pointer (some ⟨g, 0, none⟩), .int .i64 p] w1 fun e w' => e = .returned (.bool false) ∧ Below w1.heap.size w1 w') := Lib.hid (by have := CH.out w1 H.out p; rwa [hp'] at this)
    clear hd hi hp hp' e1 e2 okS h b1 hcase hw1 hdl hil
    go_enter Tryd.func36, Tryd.ntmps36
    go_wp2_with fail
    rw [← HW1.out]
    go_wp2_with (first
      | (go_at_call 50; refine (CU.out _ H.out).mono ?_; rintro e w2 ⟨rfl, rfl⟩)
      | (go_at_call 51; refine (CH1.out).mono ?_; rintro e w2 ⟨rfl, hb⟩; have B := Lib.hid (B.out.trans (hb.mono B.out.size)); have H := Lib.hid (H.out.below hb); clear hb))
    go_ret
    exact ⟨rfl, H.out, Touch.of_below B.out⟩
  obtain ⟨q, rfl⟩ : ∃ q : Nat, p = q := ⟨p.toNat, by have := place_range hp; omega⟩
  have hq : q ≤ S.l.length := by have := place_range hp; omega
  have hS := okS.len
  have CH1 : Hid (∀ W, BufAt W g S → Calls Tryd.prog 51 #[.pointer (some ⟨g, 0, none⟩), .int .i64 (q : Int)] W fun e w' => e = .returned (.bool true) ∧ Below W.heap.size W w') := Lib.hid fun W h => by have := CH.out W h q; rwa [hp] at this
  obtain ⟨t, et⟩ : ∃ t, t = q + d.length := ⟨_, rfl⟩
  have i1 : IntKind.i64.wrap ((q : Int) + (d.length : Int)) = (t : Int) := by rw [IntWalk.i64_in _ (by omega)]; omega
  have ec : ((q : Int) + (d.length : Int)) = (t : Int) := by omega
  by_cases ht : placeP S (t : Int) = true
  case neg =>
    exact absurd (by rw [← ec]; exact hcase hp) ht
  have htl : t ≤ S.l.length := by have := place_range ht; omega
  have CH2 : Hid (∀ W, BufAt W g S → Calls Tryd.prog 51 #[.pointer (some ⟨g, 0, none⟩), .int .i64 (t : Int)] W fun e w' => e = .returned (.bool true) ∧ Below W.heap.size W w') := Lib.hid fun W h => by have := CH.out W h t; rwa [ht] at this
  have CP : Hid (∀ W, BufAt W g S → Calls Tryd.prog 53 #[.pointer (some ⟨g, 0, none⟩), .int .i64 (q : Int), .int .i64 (t : Int)] W fun e w' => ∃ v, e = .returned v ∧ RRow w' W.heap.size v (partP S.l q t) ∧ Below W.heap.size W w') := Lib.hid fun W h => by
    obtain ⟨R, ok, hR, rfl, _⟩ := h
    have hlen : R.S.l.length = R.u + R.v := gapLine_length ok.len ok.sum
    refine (part_any W g R hR ok (a := q) (b := t) (by omega) (by rw [← hlen]; exact htl)).mono ?_
    rintro e w' ⟨v, rfl, h1, h2⟩
    exact ⟨v, rfl, by unfold RRow; rw [partP_length (by omega) htl]; exact h1, h2⟩
  have CE : Hid (∀ W v, Below w.heap.size w W → Holds1 W v (runeVals (partP S.l q t)) → Calls Tryd.prog 73 #[v, .slice A1 d.length c1] W fun e w' => e = .returned (.bool (decide (partP S.l q t = d))) ∧ Below W.heap.size W w') := Lib.hid fun W v hb hv => equal_any W _ d v _ hv (hd.below hb) (by rw [partP_length (by omega) htl]; omega)
  by_cases heq : partP S.l q t = d
  case neg =>
    have e1 : applyErr S q d i = 71 := by unfold applyErr; rw [if_neg (by rw [hp]; decide), ec, if_neg (by rw [ht]; decide), if_neg (by rw [Int.toNat_natCast, ← et]; exact heq)]
    have e2 : applyS S q d i = S := if_neg (by rw [e1]; decide)
    rw [e1, e2]
    rw [decide_eq_false heq] at CE
    have tok1 : True := trivial
    clear hcase hd hi hp ht e1 e2 okS h b1 hw1 hdl hil hq hS et ec htl heq
    go_enter Tryd.func36, Tryd.ntmps36
    go_wp2_with fail
    rw [← HW1.out]
    go_wp2_with (first
      | (go_at_call 50; refine (CU.out _ H.out).mono ?_; rintro e w2 ⟨rfl, rfl⟩)
      | (go_at_call 51; have tk := tok1; refine (CH1.out _ H.out).mono ?_; rintro e wa ⟨rfl, hb⟩; have B := Lib.hid (B.out.trans (hb.mono B.out.size)); have H := Lib.hid (H.out.below hb); have X := Lib.hid (X.out.below hb); have x0 := X.out.cell 0; have x1 := X.out.cell 1; have x2 := X.out.cell 2; clear hb tok1 tk))
    have D0 : Below wa.heap.size wa wa.drew := (Below.refl _ _).drew
    have B := Lib.hid (B.out.trans (D0.mono B.out.size))
    have H := Lib.hid (H.out.below D0)
    have X := Lib.hid (X.out.below D0)
    have hT0 : wa.drew.cell? ⟨w.heap.size, 0, none⟩ = some (.int .i64 (q : Int)) ∧ wa.drew.cell? ⟨w.heap.size, 1, none⟩ = some (.slice A1 d.length c1) ∧ wa.drew.cell? ⟨w.heap.size, 2, none⟩ = some (.slice A2 i.length c2) := ⟨X.out.cell 0, X.out.cell 1, X.out.cell 2⟩
    go_region_held3 (fun W => W.cell? ⟨w.heap.size, 0, none⟩ = some (.int .i64 (q : Int)) ∧ W.cell? ⟨w.heap.size, 1, none⟩ = some (.slice A1 d.length c1) ∧ W.cell? ⟨w.heap.size, 2, none⟩ = some (.slice A2 i.length c2)) (first | with_reducible exact hT3 | with_reducible exact hT2 | with_reducible exact hT1 | with_reducible exact hT0 | fail) (first
      | (go_at_call 51; refine (CH2.out _ H.out).mono ?_; rintro e wb ⟨rfl, hb⟩; have B := Lib.hid (B.out.trans (hb.mono B.out.size)); have H := Lib.hid (H.out.below hb); have X := Lib.hid (X.out.below hb); have hT1 : wb.cell? ⟨w.heap.size, 0, none⟩ = some (.int .i64 (q : Int)) ∧ wb.cell? ⟨w.heap.size, 1, none⟩ = some (.slice A1 d.length c1) ∧ wb.cell? ⟨w.heap.size, 2, none⟩ = some (.slice A2 i.length c2) := ⟨X.out.cell 0, X.out.cell 1, X.out.cell 2⟩; clear hb)
      | (go_at_call 53; refine (CP.out _ H.out).mono ?_; rintro e wc ⟨v, rfl, hr, hb⟩; have V := Lib.hid hr.holds; have B := Lib.hid (B.out.trans (hb.mono B.out.size)); have H := Lib.hid (H.out.below hb); have X := Lib.hid (X.out.below hb); have hT2 : wc.cell? ⟨w.heap.size, 0, none⟩ = some (.int .i64 (q : Int)) ∧ wc.cell? ⟨w.heap.size, 1, none⟩ = some (.slice A1 d.length c1) ∧ wc.cell? ⟨w.heap.size, 2, none⟩ = some (.slice A2 i.length c2) := ⟨X.out.cell 0, X.out.cell 1, X.out.cell 2⟩; clear hr hb)
      | (go_at_call 73; refine (CE.out _ _ B.out V.out).mono ?_; rintro e wd ⟨rfl, hb⟩; have B := Lib.hid (B.out.trans (hb.mono B.out.size)); have H := Lib.hid (H.out.below hb); have X := Lib.hid (X.out.below hb); have hT3 : wd.cell? ⟨w.heap.size, 0, none⟩ = some (.int .i64 (q : Int)) ∧ wd.cell? ⟨w.heap.size, 1, none⟩ = some (.slice A1 d.length c1) ∧ wd.cell? ⟨w.heap.size, 2, none⟩ = some (.slice A2 i.length c2) := ⟨X.out.cell 0, X.out.cell 1, X.out.cell 2⟩; clear hb))
    all_goals
      go_wp2
      go_ret
      exact ⟨rfl, H.out, Touch.of_below B.out⟩
  have e1 : applyErr S q d i = replErr S q t i.length := by unfold applyErr; rw [if_neg (by rw [hp]; decide), ec, if_neg (by rw [ht]; decide), if_pos (by rw [Int.toNat_natCast, ← et]; exact heq)]
  have e2 : applyS S q d i = rS S q t i := by unfold applyS rS; rw [e1, Int.toNat_natCast, Int.toNat_natCast, et]
  rw [e1, e2]
  rw [decide_eq_true heq] at CE
  have CR : Hid (∀ W, BufAt W g S → Below w.heap.size w W → Calls Tryd.prog 15 #[.pointer (some ⟨g, 0, none⟩), .int .i64 (q : Int), .int .i64 (t : Int), .slice A2 i.length c2] W fun e w' => ∃ Ad nd cd Ai ni ci pp, e = .returned (.tuple #[editV pp (.slice Ad nd cd) (.slice Ai ni ci), .int .i64 (replErr S q t i.length)]) ∧ BufAt w' g (rS S q t i) ∧ Touch (Only g) W w') := Lib.hid fun W h hb => (replace_any W g S h q t i _ (hi.touch (Touch.of_below hb)) (by omega)).mono (by
    rintro e w' ⟨dv, iv, rfl, hd, hi, hS, ht⟩
    obtain ⟨Ad, nd, cd, rfl⟩ := hd.form3
    obtain ⟨Ai, ni, ci, rfl⟩ := hi.form3
    exact ⟨Ad, nd, cd, Ai, ni, ci, _, rfl, hS, ht⟩)
  have tok1 : True := trivial
  clear hcase hd hi hp ht e1 e2 okS h b1 hw1 hdl hil hq hS et ec htl heq
  generalize replErr S q t i.length = code at *
  generalize rS S q t i = S' at *
  go_enter Tryd.func36, Tryd.ntmps36
  go_wp2_with fail
  rw [← HW1.out]
  go_wp2_with (first
    | (go_at_call 50; refine (CU.out _ H.out).mono ?_; rintro e w2 ⟨rfl, rfl⟩)
    | (go_at_call 51; have tk := tok1; refine (CH1.out _ H.out).mono ?_; rintro e wa ⟨rfl, hb⟩; have B := Lib.hid (B.out.trans (hb.mono B.out.size)); have H := Lib.hid (H.out.below hb); have X := Lib.hid (X.out.below hb); have x0 := X.out.cell 0; have x1 := X.out.cell 1; have x2 := X.out.cell 2; clear hb tok1 tk))
  have D0 : Below wa.heap.size wa wa.drew := (Below.refl _ _).drew
  have B := Lib.hid (B.out.trans (D0.mono B.out.size))
  have H := Lib.hid (H.out.below D0)
  have X := Lib.hid (X.out.below D0)
  have hT0 : wa.drew.cell? ⟨w.heap.size, 0, none⟩ = some (.int .i64 (q : Int)) ∧ wa.drew.cell? ⟨w.heap.size, 1, none⟩ = some (.slice A1 d.length c1) ∧ wa.drew.cell? ⟨w.heap.size, 2, none⟩ = some (.slice A2 i.length c2) := ⟨X.out.cell 0, X.out.cell 1, X.out.cell 2⟩
  go_region_held3 (fun W => W.cell? ⟨w.heap.size, 0, none⟩ = some (.int .i64 (q : Int)) ∧ W.cell? ⟨w.heap.size, 1, none⟩ = some (.slice A1 d.length c1) ∧ W.cell? ⟨w.heap.size, 2, none⟩ = some (.slice A2 i.length c2)) (first | with_reducible exact hT3 | with_reducible exact hT2 | with_reducible exact hT1 | with_reducible exact hT0 | fail) (first
    | (go_at_call 51; refine (CH2.out _ H.out).mono ?_; rintro e wb ⟨rfl, hb⟩; have B := Lib.hid (B.out.trans (hb.mono B.out.size)); have H := Lib.hid (H.out.below hb); have X := Lib.hid (X.out.below hb); have hT1 : wb.cell? ⟨w.heap.size, 0, none⟩ = some (.int .i64 (q : Int)) ∧ wb.cell? ⟨w.heap.size, 1, none⟩ = some (.slice A1 d.length c1) ∧ wb.cell? ⟨w.heap.size, 2, none⟩ = some (.slice A2 i.length c2) := ⟨X.out.cell 0, X.out.cell 1, X.out.cell 2⟩; clear hb)
    | (go_at_call 53; refine (CP.out _ H.out).mono ?_; rintro e wc ⟨v, rfl, hr, hb⟩; have V := Lib.hid hr.holds; have B := Lib.hid (B.out.trans (hb.mono B.out.size)); have H := Lib.hid (H.out.below hb); have X := Lib.hid (X.out.below hb); have hT2 : wc.cell? ⟨w.heap.size, 0, none⟩ = some (.int .i64 (q : Int)) ∧ wc.cell? ⟨w.heap.size, 1, none⟩ = some (.slice A1 d.length c1) ∧ wc.cell? ⟨w.heap.size, 2, none⟩ = some (.slice A2 i.length c2) := ⟨X.out.cell 0, X.out.cell 1, X.out.cell 2⟩; clear hr hb)
    | (go_at_call 73; refine (CE.out _ _ B.out V.out).mono ?_; rintro e wd ⟨rfl, hb⟩; have B := Lib.hid (B.out.trans (hb.mono B.out.size)); have H := Lib.hid (H.out.below hb); have X := Lib.hid (X.out.below hb); have hT3 : wd.cell? ⟨w.heap.size, 0, none⟩ = some (.int .i64 (q : Int)) ∧ wd.cell? ⟨w.heap.size, 1, none⟩ = some (.slice A1 d.length c1) ∧ wd.cell? ⟨w.heap.size, 2, none⟩ = some (.slice A2 i.length c2) := ⟨X.out.cell 0, X.out.cell 1, X.out.cell 2⟩; clear hb))
  all_goals
    have x0 := X.out.cell 0
    have x1 := X.out.cell 1
    have x2 := X.out.cell 2
    go_wp2_with (go_at_call 15; refine (CR.out _ H.out B.out).mono ?_; rintro e we ⟨Ad, nd, cd, Ai, ni, ci, pp, rfl, hS, ht⟩; have F := Lib.hid hS; have T := Lib.hid ((Touch.of_below B.out).trans ht); clear hS ht)
    go_ret
    have hb := (Below.refl we.heap.size we).alloc (Nat.le_refl _) (.cells #[.int .i64 pp, .slice Ad nd cd, .slice Ai ni ci] 33)
    exact ⟨rfl, F.out.below hb, T.out.trans (Touch.of_below hb)⟩
end Go.Proofs.YtepbhmebidmnbaaDoor
