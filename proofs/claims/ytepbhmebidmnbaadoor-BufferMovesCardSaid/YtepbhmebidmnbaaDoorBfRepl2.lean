/-
  Replace, for whatever places and runes; Insert, Delete; a new buffer.
-/
import Derived.Test.YtepbhmebidmnbaaDoorBfRepl
namespace Go.Proofs.YtepbhmebidmnbaaDoor
open Go.RowKit Go.Shelf Go.Lib
attribute [local go_sem] Oper.semAt_some

/-- what Replace makes of the line, and the edit that it answers -/
def rS (S : BS) (a b : Int) (x : List Int) : BS := if replErr S a b x.length = 0 then replP S a.toNat b.toNat x else S
def rE (S : BS) (a b : Int) (x : List Int) : Int × List Int × List Int := if replErr S a b x.length = 0 then (a, partP S.l a.toNat b.toNat, x) else (0, [], [])
def RPost (w : World) (g : Nat) (S : BS) (a b : Int) (x : List Int) (e : Ending) (w' : World) : Prop :=
  ∃ dv iv, e = .returned (.tuple #[editV (rE S a b x).1 dv iv, .int .i64 (replErr S a b x.length)]) ∧ RRow w' w.heap.size dv (rE S a b x).2.1 ∧ RRow w' w.heap.size iv (rE S a b x).2.2 ∧ BufAt w' g (rS S a b x) ∧ Touch (Only g) w w'
def RefPost (w : World) (k : Int) (e : Ending) (w' : World) : Prop := e = .returned (.tuple #[editV 0 (.slice none 0 0) (.slice none 0 0), .int .i64 k]) ∧ Below w.heap.size w w'
theorem below_three (w W : World) (r : Nat) (hr : w.heap.size ≤ r) (x y z : Value) (h : Below w.heap.size w W) : Below w.heap.size w (((W.setCell ⟨r, 0, none⟩ x).setCell ⟨r, 1, none⟩ y).setCell ⟨r, 2, none⟩ z) := by
  refine ⟨h.os, h.tape, h.output, ?_, fun k hk => ?_⟩
  · have := h.size; simp [World.setCell]; exact this
  · have hne : ∀ o, k ≠ (⟨r, o, none⟩ : Addr).block := fun o e => by simp at e; omega
    rw [Below.heap_setCell _ _ _ k (hne 2), Below.heap_setCell _ _ _ k (hne 1), Below.heap_setCell _ _ _ k (hne 0)]
    exact h.block k hk
theorem EBox.zero (w : World) : EBox (w.alloc (.cells edit0 33)) w.heap.size edit0 := alloc_new _ _

set_option maxRecDepth 1000000 in
set_option maxHeartbeats 4000000 in
theorem replace_bad (w : World) (g : Nat) (S : BS) (h : BufAt w g S) (a b : Int) (A : Option Addr) (m c : Nat) (hm : m ≤ 140737488355328) (hne : replErr S a b m ≠ 0) :
    Calls Tryd.prog 15 #[.pointer (some ⟨g, 0, none⟩), .int .i64 a, .int .i64 b, .slice A m c] w (RefPost w (replErr S a b m)) := by
  obtain ⟨R, ok, hR, rfl, okS⟩ := h
  have hlen : R.S.l.length = R.u + R.v := gapLine_length ok.len ok.sum
  have hs := ok.sum
  obtain ⟨n, en⟩ : ∃ n, n = R.u + R.v := ⟨_, rfl⟩
  have CU : Hid (∀ W, BRAt W g R → Calls Tryd.prog 50 #[.pointer (some ⟨g, 0, none⟩)] W fun e w' => e = .returned (.bool true) ∧ W = w') := Lib.hid fun W hW => usable_any W g R hW ok
  have CH : Hid (∀ W, BRAt W g R → ∀ k : Int, Calls Tryd.prog 51 #[.pointer (some ⟨g, 0, none⟩), .int .i64 k] W fun e w' => e = .returned (.bool (decide (0 ≤ k ∧ k ≤ (n : Int)))) ∧ Below W.heap.size W w') := Lib.hid fun W hW k => by
    rw [en]; exact has_any W g R hW ok k
  have CL : Hid (∀ W, BRAt W g R → Calls Tryd.prog 52 #[.pointer (some ⟨g, 0, none⟩)] W fun e w' => e = .returned (.int .i64 (n : Int)) ∧ Below W.heap.size W w') := Lib.hid fun W hW => by rw [en]; exact length_any W g R hW ok
  have hB0 : Below w.heap.size w (w.alloc (.cells edit0 33)) := (Below.refl _ _).alloc (Nat.le_refl _) _
  have T : Hid (Below w.heap.size w (w.alloc (.cells edit0 33))) := Lib.hid hB0
  have H : Hid (BRAt (w.alloc (.cells edit0 33)) g R) := Lib.hid (hR.below hB0)
  have X : Hid (EBox (w.alloc (.cells edit0 33)) w.heap.size edit0) := Lib.hid (EBox.zero w)
  have hcase : (replErr R.S a b m = 70 ∧ ¬ (0 ≤ a ∧ a ≤ (n : Int))) ∨ (replErr R.S a b m = 70 ∧ (0 ≤ a ∧ a ≤ (n : Int)) ∧ ¬ (0 ≤ b ∧ b ≤ (n : Int))) ∨ (replErr R.S a b m = 70 ∧ (0 ≤ a ∧ a ≤ (n : Int)) ∧ (0 ≤ b ∧ b ≤ (n : Int)) ∧ b < a) ∨ (replErr R.S a b m = 3 ∧ (0 ≤ a ∧ a ≤ (n : Int)) ∧ (0 ≤ b ∧ b ≤ (n : Int)) ∧ a ≤ b ∧ 1024 < (n : Int) - (b - a) + m) := by
    unfold replErr at hne ⊢
    rw [hlen, ← en] at hne ⊢
    split at hne
    · next h0 =>
      rw [if_pos h0]
      by_cases h1 : 0 ≤ a ∧ a ≤ (n : Int)
      · by_cases h2 : 0 ≤ b ∧ b ≤ (n : Int)
        · exact .inr (.inr (.inl ⟨rfl, h1, h2, by omega⟩))
        · exact .inr (.inl ⟨rfl, h1, h2⟩)
      · exact .inl ⟨rfl, h1⟩
    · next h0 =>
      rw [if_neg h0]
      split at hne
      · next h3 =>
        rw [if_pos h3]
        exact .inr (.inr (.inr ⟨rfl, by omega, by omega, by omega, h3⟩))
      · exact absurd rfl hne
  clear hne hlen okS
  generalize replErr R.S a b m = code at *
  have hn1 : n ≤ 1024 := by omega
  clear en hs hR ok hB0
  generalize hw1 : w.alloc (.cells edit0 33) = w1 at *
  have HW1 := Lib.hid hw1
  clear hw1
  rcases hcase with ⟨rfl, h1⟩ | ⟨rfl, h1, h2⟩ | ⟨rfl, h1, h2, h3⟩ | ⟨rfl, h1, h2, h3, h4⟩
  · have d1 : decide (0 ≤ a ∧ a ≤ (n : Int)) = false := by simpa using h1
    have d2 := d1
    clear h1 hm hn1
    go_enter Tryd.func15, Tryd.ntmps15
    go_wp2_with fail
    rw [HW1.out]
    go_wp2_with (first
      | (go_at_call 50; refine (CU.out _ H.out).mono ?_; rintro e w2 ⟨rfl, rfl⟩)
      | (go_at_call 51; refine (CH.out _ H.out _).mono ?_; rintro e w2 ⟨rfl, hb⟩; (first | rw [d1] | rw [d2]); have H := Lib.hid (H.out.below hb); have T := Lib.hid (T.out.trans (hb.mono T.out.size)); have X := Lib.hid (X.out.below hb); have x0 := X.out.cell 0; have x1 := X.out.cell 1; have x2 := X.out.cell 2; have y0 := X.out.frozen 0; have y1 := X.out.frozen 1; have y2 := X.out.frozen 2; clear hb))
    refine ret_edit rfl rfl rfl X.out.set rfl (.int .i64 70) rfl ?_
    exact ⟨rfl, below_three w _ w.heap.size (Nat.le_refl _) _ _ _ T.out⟩
  · have d1 : decide (0 ≤ a ∧ a ≤ (n : Int)) = true := by simpa using h1
    have d2 : decide (0 ≤ b ∧ b ≤ (n : Int)) = false := by simpa using h2
    clear h1 h2 hm hn1
    go_enter Tryd.func15, Tryd.ntmps15
    go_wp2_with fail
    rw [HW1.out]
    go_wp2_with (first
      | (go_at_call 50; refine (CU.out _ H.out).mono ?_; rintro e w2 ⟨rfl, rfl⟩)
      | (go_at_call 51; refine (CH.out _ H.out _).mono ?_; rintro e w2 ⟨rfl, hb⟩; (first | rw [d1] | rw [d2]); have H := Lib.hid (H.out.below hb); have T := Lib.hid (T.out.trans (hb.mono T.out.size)); have X := Lib.hid (X.out.below hb); have x0 := X.out.cell 0; have x1 := X.out.cell 1; have x2 := X.out.cell 2; have y0 := X.out.frozen 0; have y1 := X.out.frozen 1; have y2 := X.out.frozen 2; clear hb))
    refine ret_edit rfl rfl rfl X.out.set rfl (.int .i64 70) rfl ?_
    exact ⟨rfl, below_three w _ w.heap.size (Nat.le_refl _) _ _ _ T.out⟩
  · have d1 : decide (0 ≤ a ∧ a ≤ (n : Int)) = true := by simpa using h1
    have d2 : decide (0 ≤ b ∧ b ≤ (n : Int)) = true := by simpa using h2
    have i0 : (b < a) = True := by simp; exact h3
    clear h1 h2 h3 hm hn1
    go_enter Tryd.func15, Tryd.ntmps15
    go_wp2_with fail
    rw [HW1.out]
    go_wp2_with (first
      | (go_at_call 50; refine (CU.out _ H.out).mono ?_; rintro e w2 ⟨rfl, rfl⟩)
      | (go_at_call 51; refine (CH.out _ H.out _).mono ?_; rintro e w2 ⟨rfl, hb⟩; (first | rw [d1] | rw [d2]); have H := Lib.hid (H.out.below hb); have T := Lib.hid (T.out.trans (hb.mono T.out.size)); have X := Lib.hid (X.out.below hb); have x0 := X.out.cell 0; have x1 := X.out.cell 1; have x2 := X.out.cell 2; have y0 := X.out.frozen 0; have y1 := X.out.frozen 1; have y2 := X.out.frozen 2; clear hb))
    refine ret_edit rfl rfl rfl X.out.set rfl (.int .i64 70) rfl ?_
    exact ⟨rfl, below_three w _ w.heap.size (Nat.le_refl _) _ _ _ T.out⟩
  · have d1 : decide (0 ≤ a ∧ a ≤ (n : Int)) = true := by simpa using h1
    have d2 : decide (0 ≤ b ∧ b ≤ (n : Int)) = true := by simpa using h2
    have i0 : (b < a) = False := by simp; omega
    obtain ⟨q0, hq0⟩ : ∃ q0, q0 = b - a := ⟨_, rfl⟩
    obtain ⟨q1, hq1⟩ : ∃ q1, q1 = (n : Int) - q0 := ⟨_, rfl⟩
    obtain ⟨q2, hq2⟩ : ∃ q2, q2 = q1 + (m : Int) := ⟨_, rfl⟩
    have j1 : IntKind.i64.wrap (b - a) = q0 := by rw [IntWalk.i64_in _ (by omega)]; omega
    have j2 : IntKind.i64.wrap ((n : Int) - q0) = q1 := by rw [IntWalk.i64_in _ (by omega)]; omega
    have j3 : IntKind.i64.wrap (q1 + (m : Int)) = q2 := by rw [IntWalk.i64_in _ (by omega)]; omega
    have j4 : (q2 > 1024) = True := by simp; omega
    have j5 : ((1024 : Int) < q2) = True := by simp; omega
    clear h1 h2 h3 h4 hm hn1 hq0 hq1 hq2
    go_enter Tryd.func15, Tryd.ntmps15
    go_wp2_with fail
    rw [HW1.out]
    go_wp2_with (first
      | (go_at_call 50; refine (CU.out _ H.out).mono ?_; rintro e w2 ⟨rfl, rfl⟩)
      | (go_at_call 51; refine (CH.out _ H.out _).mono ?_; rintro e w2 ⟨rfl, hb⟩; (first | rw [d1] | rw [d2]); have H := Lib.hid (H.out.below hb); have T := Lib.hid (T.out.trans (hb.mono T.out.size)); have X := Lib.hid (X.out.below hb); have x0 := X.out.cell 0; have x1 := X.out.cell 1; have x2 := X.out.cell 2; have y0 := X.out.frozen 0; have y1 := X.out.frozen 1; have y2 := X.out.frozen 2; clear hb)
      | (go_at_call 52; refine (CL.out _ H.out).mono ?_; rintro e w2 ⟨rfl, hb⟩; have H := Lib.hid (H.out.below hb); have T := Lib.hid (T.out.trans (hb.mono T.out.size)); have X := Lib.hid (X.out.below hb); have x0 := X.out.cell 0; have x1 := X.out.cell 1; have x2 := X.out.cell 2; have y0 := X.out.frozen 0; have y1 := X.out.frozen 1; have y2 := X.out.frozen 2; clear hb))
    refine ret_edit rfl rfl rfl X.out.set rfl (.int .i64 3) rfl ?_
    exact ⟨rfl, below_three w _ w.heap.size (Nat.le_refl _) _ _ _ T.out⟩

theorem replace_any (w : World) (g : Nat) (S : BS) (h : BufAt w g S) (a b : Int) (x : List Int) (v : Value) (hx : OffR w g v x) (hm : x.length ≤ 140737488355328) :
    Calls Tryd.prog 15 #[.pointer (some ⟨g, 0, none⟩), .int .i64 a, .int .i64 b, v] w (RPost w g S a b x) := by
  by_cases h0 : replErr S a b x.length = 0
  · have hr : 0 ≤ a ∧ a ≤ b ∧ b ≤ (S.l.length : Int) ∧ (S.l.length : Int) - (b - a) + x.length ≤ 1024 := by
      unfold replErr at h0
      split at h0
      · cases h0
      · split at h0
        · cases h0
        · omega
    obtain ⟨a', rfl⟩ : ∃ a' : Nat, a = a' := ⟨a.toNat, by omega⟩
    obtain ⟨b', rfl⟩ : ∃ b' : Nat, b = b' := ⟨b.toNat, by omega⟩
    refine (replace_ok w g S h (a := a') (b := b') (by omega) (by omega) x v hx (by omega)).mono ?_
    rintro e w' ⟨dv, iv, rfl, h1, h2, h3, h4⟩
    have e1 : rE S a' b' x = ((a' : Int), partP S.l a' b', x) := by unfold rE; rw [if_pos h0]; rfl
    have e2 : rS S a' b' x = replP S a' b' x := by unfold rS; rw [if_pos h0]; rfl
    exact ⟨dv, iv, by rw [e1, h0], by rw [e1]; exact h1, by rw [e1]; exact h2, by rw [e2]; exact h3, h4⟩
  · obtain ⟨A, c, rfl⟩ := hx.form
    refine (replace_bad w g S h a b A x.length c hm h0).mono ?_
    rintro e w' ⟨rfl, hb⟩
    have e1 : rE S a b x = (0, [], []) := by unfold rE; rw [if_neg h0]
    have e2 : rS S a b x = S := by unfold rS; rw [if_neg h0]
    exact ⟨_, _, by rw [e1], by rw [e1]; exact RRow.nil _ _, by rw [e1]; exact RRow.nil _ _, by rw [e2]; exact h.below hb, Touch.of_below hb⟩
end Go.Proofs.YtepbhmebidmnbaaDoor
