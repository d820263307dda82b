/-
  The line in two parts: the gap moved, runes replaced.
-/
import Derived.Test.YtepbhmebidmnbaaDoorBfGap
namespace Go.Proofs.YtepbhmebidmnbaaDoor
open Go.RowKit Go.Shelf Go.Lib
attribute [local go_sem] Oper.semAt_some

section
variable {w : World} {g : Nat} {R : BR}
theorem BRAt.setU (h : BRAt w g R) (ok : BROk R) (n : Nat) : BRAt (w.setCell ⟨g, 1024, none⟩ (.int .i64 n)) g { R with u := n } := h.set (BR.set_tl ok 0 _)
theorem BRAt.setV (h : BRAt w g R) (ok : BROk R) (n : Nat) : BRAt (w.setCell ⟨g, 1025, none⟩ (.int .i64 n)) g { R with v := n } := h.set (BR.set_tl ok 1 _)
theorem BRAt.setPt (h : BRAt w g R) (ok : BROk R) (n : Nat) : BRAt (w.setCell ⟨g, 1027, none⟩ (.int .i64 n)) g { R with pt := n } := h.set (BR.set_tl ok 3 _)
theorem BRAt.setMr (h : BRAt w g R) (ok : BROk R) (n : Int) : BRAt (w.setCell ⟨g, 1028, none⟩ (.int .i64 n)) g { R with mr := n } := h.set (BR.set_tl ok 4 _)
theorem BRAt.setUV (h : BRAt w g R) (hl : R.A.length = 1024) (m n : Nat) : BRAt ((w.setCell ⟨g, 1024, none⟩ (.int .i64 m)).setCell ⟨g, 1025, none⟩ (.int .i64 n)) g { R with u := m, v := n } := by
  have h1 : ∀ (k : Nat) (x : Value) (Q : BR), Q.A.length = 1024 → Q.row.set (1024 + k) x = runeVals Q.A ++ Q.tl.set k x := fun k x Q hq => by
    unfold BR.row
    rw [List.set_append, if_neg (by rw [runeVals_length, hq]; omega), runeVals_length, hq, Nat.add_sub_cancel_left]
  exact (h.set (R' := { R with u := m }) (h1 0 _ R hl)).set (h1 1 _ { R with u := m } hl)
end
theorem touch_two (w : World) (g k l : Nat) (u v : Value) : Touch (Only g) w ((w.setCell ⟨g, k, none⟩ u).setCell ⟨g, l, none⟩ v) := (only_set w g k u).trans (only_set _ g l v)
theorem only_after {w w1 w2 : World} {g : Nat} (h : Below w.heap.size w w1) (h2 : Touch (Only g) w1 w2) : Touch (Only g) w w2 := (Touch.of_below h).trans h2
theorem only_of_below {w w' : World} {g : Nat} (h : Below w.heap.size w w') : Touch (Only g) w w' := Touch.of_below h

set_option maxRecDepth 1000000 in
set_option maxHeartbeats 4000000 in
theorem move_any (w : World) (g : Nat) (R : BR) (h : BRAt w g R) (ok : BROk R) {p : Nat} (hp : p ≤ R.u + R.v) : Calls Tryd.prog 77 #[.pointer (some ⟨g, 0, none⟩), .int .i64 (p : Int)] w fun e w' => e = .returned (.tuple #[]) ∧ BRAt w' g { R with A := movedA R.A R.u R.v p, u := p, v := R.u + R.v - p } ∧ Touch (Only g) w w' := by
  have c0 := (h.cells ok).c0
  have hs := ok.sum
  have hl := movedA_length ok.len hs hp
  obtain ⟨gp, e5⟩ : ∃ gp, gp = 1024 - (R.u + R.v) := ⟨_, rfl⟩
  have G : Hid (∀ W, BRAt W g R → Calls Tryd.prog 76 #[.pointer (some ⟨g, 0, none⟩)] W fun e w' => e = .returned (.int .i64 (gp : Int)) ∧ Below W.heap.size W w') := Lib.hid fun W hW => by rw [e5]; exact gap_any W g R hW ok
  obtain ⟨n, en⟩ : ∃ n, n = R.u + R.v := ⟨_, rfl⟩
  obtain ⟨m, em⟩ : ∃ m, m = R.u + R.v - p := ⟨_, rfl⟩
  rw [← em]
  have hw3 : IntKind.i64.wrap ((n : Int) - (p : Int)) = (m : Int) := by rw [IntWalk.i64_in _ (by omega)]; omega
  have ok' : BROk { R with A := movedA R.A R.u R.v p } := ⟨hl, hs⟩
  have L : Hid (∀ W, BRAt W g { R with A := movedA R.A R.u R.v p } → Calls Tryd.prog 52 #[.pointer (some ⟨g, 0, none⟩)] W fun e w' => e = .returned (.int .i64 (n : Int)) ∧ Below W.heap.size W w') := Lib.hid fun W hW => by rw [en]; exact length_any W g { R with A := movedA R.A R.u R.v p } hW ok'
  have H0 : Hid (BRAt w.drew g R) := Lib.hid h
  have B0 : Hid (Below w.heap.size w w.drew) := Lib.hid ⟨rfl, rfl, rfl, Nat.le_refl _, fun _ _ => rfl⟩
  have k0 : w.drew.cell? ⟨g, 1024, none⟩ = some (.int .i64 R.u) := c0
  have HL := Lib.hid hl
  have OK := Lib.hid ok
  have OK' := Lib.hid ok'
  by_cases hpu : p < R.u
  · have i0 : ((p : Int) < (R.u : Int)) = True := by simp; exact hpu
    obtain ⟨d, e6⟩ : ∃ d, d = p + gp := ⟨_, rfl⟩
    have hv1 : IntKind.i64.wrap ((p : Int) + (gp : Int)) = (d : Int) := by rw [IntWalk.i64_in _ (by omega)]; omega
    have S1 := slice_arr g p R.u (by omega) (by omega)
    have S2 := slice_from g d (by omega)
    have HM : Hid (movedA R.A R.u R.v p = splice R.A d (cutOf R.A p R.u)) := Lib.hid (by unfold movedA; rw [if_pos hpu, e6, e5])
    have HC : Hid (∀ W, BRAt W g R → ∃ w', (Builtin.copy_ #[22, 22] 3 #[.slice (some (cutAt g d)) (1024 - d) (1024 - d), .slice (some (cutAt g p)) (R.u - p) (1024 - p)]).run Tryd.prog W = .ok (goInt (cutOf R.A p R.u).length) w' ∧ BRAt w' g { R with A := splice R.A d (cutOf R.A p R.u) } ∧ Touch (Only g) W w') := Lib.hid fun W hW =>
      copy_arr hW ok _ (hW.cut ok (by omega) (by omega)) (by rw [cutOf_length _ (by rw [ok.len]; omega)]; omega)
    have OKS : Hid (BROk { R with A := splice R.A d (cutOf R.A p R.u) }) := Lib.hid (by rw [← HM.out]; exact ok')
    generalize (cutOf R.A p R.u).length = cl at HC
    clear h ok hs hp hl hpu e5 e6 ok' en em
    go_enter Tryd.func77, Tryd.ntmps77
    go_wp2
    go_region_held3 (fun w' => w'.cell? ⟨g, 1024, none⟩ = some (.int .i64 R.u)) (first | with_reducible exact k2 | with_reducible exact k1 | with_reducible exact k0 | fail) (first
      | (go_at_call 76; with_reducible refine (G.out _ (by with_reducible exact H0.out)).mono ?_; rintro e w1 ⟨rfl, hb1⟩; have H1 := Lib.hid (H0.out.below hb1); have B1 := Lib.hid (B0.out.trans (hb1.mono B0.out.size)); obtain ⟨w2, hcp, hr2, ht2⟩ := HC.out _ H1.out; have k1 : w1.cell? ⟨g, 1024, none⟩ = some (.int .i64 R.u) := (BRAt.cells H1.out OK.out).c0; have k2 : w2.cell? ⟨g, 1024, none⟩ = some (.int .i64 R.u) := (BRAt.cells hr2 OKS.out).c0; rw [← HM.out] at hr2; have H2 := Lib.hid hr2; have T2 := Lib.hid (only_after B1.out ht2); clear hb1 hr2 ht2))
    all_goals
      go_wp2_with (go_at_call 52; refine (L.out _ H2.out).mono ?_; rintro e w3 ⟨rfl, hb3⟩; have H3 := Lib.hid (H2.out.below hb3); have T3 := Lib.hid (T2.out.trans (Touch.of_below hb3)); have d3 := (H3.out.cells OK'.out).c0; have d4 : (w3.setCell ⟨g, 1024, none⟩ (.int .i64 (p : Int))).cell? ⟨g, 1025, none⟩ = some (.int .i64 R.v) := (World.cell?_setCell_other _ _ _ _ (by simp)).trans (H3.out.cells OK'.out).c1; have f3 := H3.out.frozen 1024; clear hb3; have f4 : (w3.setCell ⟨g, 1024, none⟩ (.int .i64 (p : Int))).frozen? ⟨g, 1025, none⟩ = false := by rw [World.frozen?_setCell]; exact H3.out.frozen 1025)
      go_end0
      exact ⟨rfl, H3.out.setUV HL.out p m, T3.out.trans (touch_two _ _ _ _ _ _)⟩
  · have i0 : ((p : Int) < (R.u : Int)) = False := by simp; omega
    obtain ⟨s1, e6⟩ : ∃ s1, s1 = R.u + gp := ⟨_, rfl⟩
    obtain ⟨s2, e7⟩ : ∃ s2, s2 = p + gp := ⟨_, rfl⟩
    have hv1 : IntKind.i64.wrap ((R.u : Int) + (gp : Int)) = (s1 : Int) := by rw [IntWalk.i64_in _ (by omega)]; omega
    have hv2 : IntKind.i64.wrap ((p : Int) + (gp : Int)) = (s2 : Int) := by rw [IntWalk.i64_in _ (by omega)]; omega
    have S1 := slice_arr g s1 s2 (by omega) (by omega)
    have S2 := slice_from g R.u (by omega)
    have HM : Hid (movedA R.A R.u R.v p = splice R.A R.u (cutOf R.A s1 s2)) := Lib.hid (by unfold movedA; rw [if_neg hpu, e6, e7, e5])
    have HC : Hid (∀ W, BRAt W g R → ∃ w', (Builtin.copy_ #[22, 22] 3 #[.slice (some (cutAt g R.u)) (1024 - R.u) (1024 - R.u), .slice (some (cutAt g s1)) (s2 - s1) (1024 - s1)]).run Tryd.prog W = .ok (goInt (cutOf R.A s1 s2).length) w' ∧ BRAt w' g { R with A := splice R.A R.u (cutOf R.A s1 s2) } ∧ Touch (Only g) W w') := Lib.hid fun W hW =>
      copy_arr hW ok _ (hW.cut ok (by omega) (by omega)) (by rw [cutOf_length _ (by rw [ok.len]; omega)]; omega)
    have OKS : Hid (BROk { R with A := splice R.A R.u (cutOf R.A s1 s2) }) := Lib.hid (by rw [← HM.out]; exact ok')
    generalize (cutOf R.A s1 s2).length = cl at HC
    clear h ok hs hp hl hpu e5 e6 e7 ok' en em
    go_enter Tryd.func77, Tryd.ntmps77
    go_wp2
    go_region_held3 (fun w' => w'.cell? ⟨g, 1024, none⟩ = some (.int .i64 R.u)) (first | with_reducible exact k3 | with_reducible exact k2 | with_reducible exact k1 | with_reducible exact k0 | fail) (first
      | (go_at_call 76; with_reducible refine (G.out _ (by first | with_reducible exact H1.out | with_reducible exact H0.out)).mono ?_; rintro e w1 ⟨rfl, hb1⟩; first | (have H2 := Lib.hid (H1.out.below hb1); have B2 := Lib.hid (B1.out.trans (hb1.mono B1.out.size)); have k2 := (H2.out.cells OK.out).c0; obtain ⟨w2, hcp, hr2, ht2⟩ := HC.out _ H2.out; have k3 : w2.cell? ⟨g, 1024, none⟩ = some (.int .i64 R.u) := (BRAt.cells hr2 OKS.out).c0; rw [← HM.out] at hr2; have H3 := Lib.hid hr2; have T3 := Lib.hid (only_after B2.out ht2); clear hb1 hr2 ht2) | (have H1 := Lib.hid (H0.out.below hb1); have B1 := Lib.hid (B0.out.trans (hb1.mono B0.out.size)); have k1 := (H1.out.cells OK.out).c0; clear hb1)))
    all_goals
      go_wp2_with (go_at_call 52; refine (L.out _ H3.out).mono ?_; rintro e w4 ⟨rfl, hb3⟩; have H4 := Lib.hid (H3.out.below hb3); have T4 := Lib.hid (T3.out.trans (Touch.of_below hb3)); have d3 := (H4.out.cells OK'.out).c0; have d4 : (w4.setCell ⟨g, 1024, none⟩ (.int .i64 (p : Int))).cell? ⟨g, 1025, none⟩ = some (.int .i64 R.v) := (World.cell?_setCell_other _ _ _ _ (by simp)).trans (H4.out.cells OK'.out).c1; have f3 := H4.out.frozen 1024; clear hb3; have f4 : (w4.setCell ⟨g, 1024, none⟩ (.int .i64 (p : Int))).frozen? ⟨g, 1025, none⟩ = false := by rw [World.frozen?_setCell]; exact H4.out.frozen 1025)
      go_end0
      exact ⟨rfl, H4.out.setUV HL.out p m, T4.out.trans (touch_two _ _ _ _ _ _)⟩

/-- a slice of runes that lies outside of a buffer's block -/
def OffR (w : World) (g : Nat) (v : Value) (x : List Int) : Prop := ∀ W, Touch (Only g) w W → Holds1 W v (runeVals x)
theorem OffR.touch {w w' : World} {g : Nat} {v : Value} {x : List Int} (h : OffR w g v x) (ht : Touch (Only g) w w') : OffR w' g v x := fun W hW => h W (ht.trans hW)
theorem OffR.holds {w : World} {g : Nat} {v : Value} {x : List Int} (h : OffR w g v x) : Holds1 w v (runeVals x) := h w (Touch.refl _ _)
theorem OffR.form {w : World} {g : Nat} {v : Value} {x : List Int} (h : OffR w g v x) : ∃ A c, v = .slice A x.length c := by
  obtain ⟨A, c, e, _⟩ := h.holds
  exact ⟨A, c, by rw [e, runeVals_length]⟩

set_option maxRecDepth 1000000 in
set_option maxHeartbeats 4000000 in
theorem replaceG_any (w : World) (g : Nat) (R : BR) (h : BRAt w g R) (ok : BROk R) {a b : Nat} (hab : a ≤ b) (hb : b ≤ R.u + R.v) (x : List Int) (A : Option Addr) (c : Nat) (hx : OffR w g (.slice A x.length c) x) (hl : R.u + R.v - (b - a) + x.length ≤ 1024) :
    Calls Tryd.prog 55 #[.pointer (some ⟨g, 0, none⟩), .int .i64 (a : Int), .int .i64 (b : Int), .slice A x.length c] w fun e w' => e = .returned (.tuple #[]) ∧ (∃ R', BROk R' ∧ BRAt w' g R' ∧ gapLine R'.A R'.u R'.v = (gapLine R.A R.u R.v).take a ++ (x ++ (gapLine R.A R.u R.v).drop b) ∧ R'.pt = R.pt ∧ R'.mr = R.mr) ∧ Touch (Only g) w w' := by
  have hs := ok.sum
  have hlM := movedA_length ok.len hs (Nat.le_trans hab hb)
  have hline := movedA_line ok.len hs (Nat.le_trans hab hb)
  have CM := Lib.hid (move_any w g R h ok (p := a) (by omega))
  obtain ⟨M, eM⟩ : ∃ M, M = movedA R.A R.u R.v a := ⟨_, rfl⟩
  rw [← eM] at CM hlM hline
  obtain ⟨m, em⟩ : ∃ m, m = R.u + R.v - a := ⟨_, rfl⟩
  rw [← em] at CM hline
  obtain ⟨d, ed⟩ : ∃ d, d = b - a := ⟨_, rfl⟩
  obtain ⟨m2, em2⟩ : ∃ m2, m2 = m - d := ⟨_, rfl⟩
  obtain ⟨u2, eu2⟩ : ∃ u2, u2 = a + x.length := ⟨_, rfl⟩
  have okM : BROk { R with A := M, u := a, v := m } := ⟨hlM, by show a + m ≤ 1024; omega⟩
  have okN : BROk { R with A := M, u := a, v := m2 } := ⟨hlM, by show a + m2 ≤ 1024; omega⟩
  have hls : (splice M a x).length = 1024 := by rw [length_splice _ _ _ (by omega), hlM]
  have okS : BROk { R with A := splice M a x, u := a, v := m2 } := ⟨hls, by show a + m2 ≤ 1024; omega⟩
  have okE : BROk { R with A := splice M a x, u := u2, v := m2 } := ⟨hls, by show u2 + m2 ≤ 1024; omega⟩
  have hput := put_line hlM (u := a) (v := m) (by omega) (d := d) (by omega) (x := x) (by omega)
  rw [hline, ← eu2, ← em2, show a + d = b by omega] at hput
  have i1 : IntKind.i64.wrap ((b : Int) - (a : Int)) = (d : Int) := by rw [IntWalk.i64_in _ (by omega)]; omega
  have i2 : IntKind.i64.wrap ((m : Int) - (d : Int)) = (m2 : Int) := by rw [IntWalk.i64_in _ (by omega)]; omega
  have i3 : IntKind.i64.wrap ((a : Int) + ((x.length : Nat) : Int)) = (u2 : Int) := by rw [IntWalk.i64_in _ (by omega)]; omega
  have S := slice_from g a (by omega)
  have HC : Hid (∀ W, BRAt W g { R with A := M, u := a, v := m2 } → Touch (Only g) w W → ∃ w', (Builtin.copy_ #[22, 22] 3 #[.slice (some (cutAt g a)) (1024 - a) (1024 - a), .slice A x.length c]).run Tryd.prog W = .ok (goInt x.length) w' ∧ BRAt w' g { R with A := splice M a x, u := a, v := m2 } ∧ Touch (Only g) W w') := Lib.hid fun W hW hT =>
    copy_arr hW okN _ (hx W hT) (by omega)
  have HE : Hid (BROk { R with A := splice M a x, u := u2, v := m2 } ∧ gapLine (splice M a x) u2 m2 = (gapLine R.A R.u R.v).take a ++ (x ++ (gapLine R.A R.u R.v).drop b)) := Lib.hid ⟨okE, hput⟩
  have OKM := Lib.hid okM
  have OKN := Lib.hid okN
  have OKS := Lib.hid okS
  generalize x.length = xl at *
  clear okM okN okS okE hput hline eM em ed em2 eu2 hl hab hb hs hx h ok hlM hls
  go_enter Tryd.func55, Tryd.ntmps55
  go_wp2_with (go_at_call 77; refine (CM.out).mono ?_; rintro e w1 ⟨rfl, hr1, ht1⟩; have H1 := Lib.hid hr1; have T1 := Lib.hid ht1; have c1 : w1.cell? ⟨g, 1025, none⟩ = some (.int .i64 m) := (H1.out.cells OKM.out).c1; have f1 := H1.out.frozen 1025; clear hr1 ht1)
  have hr2 := H1.out.setV OKM.out m2
  have ht2 := T1.out.trans (only_set w1 g 1025 (.int .i64 (m2 : Int)))
  generalize w1.setCell ⟨g, 1025, none⟩ (.int .i64 (m2 : Int)) = w2 at *
  have hr2' : BRAt w2.drew g { R with A := M, u := a, v := m2 } := hr2
  have ht2' : Touch (Only g) w w2.drew := ht2.drew
  have k0 : w2.drew.cell? ⟨g, 1024, none⟩ = some (.int .i64 a) := (hr2'.cells OKN.out).c0
  have k0' : w2.cell? ⟨g, 1024, none⟩ = some (.int .i64 a) := k0
  obtain ⟨w3, hcp, hr3, ht3⟩ := HC.out _ hr2' ht2'
  have k3 : w3.cell? ⟨g, 1024, none⟩ = some (.int .i64 a) := (hr3.cells OKS.out).c0
  have f3 := hr3.frozen 1024
  have H4 := Lib.hid (hr3.setU OKS.out u2)
  have T4 := Lib.hid ((ht2'.trans ht3).trans (only_set w3 g 1024 (.int .i64 (u2 : Int))))
  clear hr2 ht2 hr2' ht2' hr3 ht3 c1 f1
  go_region
  all_goals
    go_wp2
    go_end0
    exact ⟨rfl, ⟨_, HE.out.1, H4.out, HE.out.2, rfl, rfl⟩, T4.out⟩
end Go.Proofs.YtepbhmebidmnbaaDoor
