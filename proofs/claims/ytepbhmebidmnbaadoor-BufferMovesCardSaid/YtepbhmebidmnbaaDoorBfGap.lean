/-
  The line in two parts: its length, its gap, a part of it, the gap moved, runes replaced.
-/
import Derived.Test.YtepbhmebidmnbaaDoorBfRep
import Derived.Deep.RegionHeld3
namespace Go.Proofs.YtepbhmebidmnbaaDoor
open Go.RowKit Go.Shelf Go.Lib
attribute [local go_sem] Oper.semAt_some

set_option maxRecDepth 1000000 in
theorem length_any (w : World) (g : Nat) (R : BR) (h : BRAt w g R) (ok : BROk R) : Calls Tryd.prog 52 #[.pointer (some ⟨g, 0, none⟩)] w fun e w' => e = .returned (.int .i64 ((R.u + R.v : Nat) : Int)) ∧ Below w.heap.size w w' := by
  have c0 := (h.cells ok).c0
  have c1 := (h.cells ok).c1
  have hw : wrap64 ((R.u : Int) + (R.v : Int)) = ((R.u + R.v : Nat) : Int) := by have := ok.sum; unfold wrap64; omega
  clear h ok
  go_enter Tryd.func52, Tryd.ntmps52
  go_wp2
  go_region
  go_wp2
  go_ret
  exact ⟨by rw [hw]; rfl, ⟨rfl, rfl, rfl, Nat.le_refl _, fun _ _ => rfl⟩⟩
set_option maxRecDepth 1000000 in
theorem gap_any (w : World) (g : Nat) (R : BR) (h : BRAt w g R) (ok : BROk R) : Calls Tryd.prog 76 #[.pointer (some ⟨g, 0, none⟩)] w fun e w' => e = .returned (.int .i64 ((1024 - (R.u + R.v) : Nat) : Int)) ∧ Below w.heap.size w w' := by
  have hw : wrap64 (1024 - ((R.u + R.v : Nat) : Int)) = ((1024 - (R.u + R.v) : Nat) : Int) := by have := ok.sum; unfold wrap64; omega
  have C := Lib.hid (length_any w g R h ok)
  clear h ok
  go_enter Tryd.func76, Tryd.ntmps76
  generalize R.u + R.v = n at *
  go_wp2_with (go_at_call 52; refine (C.out).mono ?_; rintro e w1 ⟨rfl, hb⟩)
  go_ret
  exact ⟨by rw [hw]; rfl, hb⟩
theorem info_rune : (Tryd.prog.info? 21).map (fun i => (i.zero, i.size, i.bytes)) = some (some (.int .i32 0), 1, 4) := by kernel_rfl
/-- runes appended to a row of the call's own -/
theorem wpList_append_runes {ops : Array Oper} {rest : List Oper} {o : Oper} {a : Act} {w : World} {Q : Exit → Act → World → Prop} (hgd : o.guard = none) (s x : Operand)
    (ho : o.op = .call { callee := .builtin .append, args := #[s, x], argTypes := #[22, 22] }) (B : Nat) (v : Value) (l : List Int) (hs : a.eval s = v) (hrow : w.ownsRow B 21 1 v l.length (runeVals l)) (A : Option Addr) (n c : Nat) (y : List Int)
    (hx : a.eval x = .slice A n c) (hy : Holds1 w (.slice A n c) (runeVals y)) (hl : l.length + y.length ≤ 1000000000) (hB : B ≤ w.heap.size)
    (h : ∀ v' w', w'.ownsRow B 21 1 v' (l ++ y).length (runeVals (l ++ y)) → Below B w w' → w.grownBy w' v.ownBlock → wpList Tryd.prog ops Q rest (a.put o.dst v') w') : wpList Tryd.prog ops Q (o :: rest) a w := by
  refine wpList_plain hgd fun K hK => ?_
  obtain ⟨i, hi, hz, hs2, hby⟩ := info_parts info_rune
  obtain ⟨A', c', e, _⟩ := id hy
  injection e with e1 e2 e3
  rw [runeVals_length] at e2
  subst e2
  obtain ⟨v', w', hr, h4, h5, _⟩ := run_append_src (P := Tryd.prog) w B 22 o.type 21 i _ 1 4 Tryd.underlying22 hi hz hs2 hby rfl (by decide) v l.length (runeVals l) hrow hy.src (runeVals_one _) (by unfold maxLen; omega) (by omega) hB
  unfold Oper.wp
  simp [execOp, ho, resolve, invoke, builtin, hs, hx, hr, Result.andThen]
  refine hK _ _ (h v' w' ?_ (grown_below h5 hB fun k hk => (own_lt hrow k hk).1) h5)
  rw [List.length_append, runeVals_append]
  exact h4
set_option maxRecDepth 1000000 in
set_option maxHeartbeats 10000000 in
theorem part_any (w : World) (g : Nat) (R : BR) (h : BRAt w g R) (ok : BROk R) {a b : Nat} (hab : a ≤ b) (hb : b ≤ R.u + R.v) : Calls Tryd.prog 53 #[.pointer (some ⟨g, 0, none⟩), .int .i64 (a : Int), .int .i64 (b : Int)] w fun e w' => ∃ v, e = .returned v ∧ w'.ownsRow w.heap.size 21 1 v (b - a) (runeVals (partP (gapLine R.A R.u R.v) a b)) ∧ Below w.heap.size w w' := by
  have c0 := (h.cells ok).c0
  have hs := ok.sum
  obtain ⟨a1, e1⟩ : ∃ a1, a1 = min a R.u := ⟨_, rfl⟩
  obtain ⟨b1, e2⟩ : ∃ b1, b1 = min b R.u := ⟨_, rfl⟩
  obtain ⟨ma, e3⟩ : ∃ ma, ma = max a R.u := ⟨_, rfl⟩
  obtain ⟨mb, e4⟩ : ∃ mb, mb = max b R.u := ⟨_, rfl⟩
  obtain ⟨gp, e5⟩ : ∃ gp, gp = 1024 - (R.u + R.v) := ⟨_, rfl⟩
  obtain ⟨a2, e6⟩ : ∃ a2, a2 = ma + gp := ⟨_, rfl⟩
  obtain ⟨b2, e7⟩ : ∃ b2, b2 = mb + gp := ⟨_, rfl⟩
  have E : Hid (cutOf R.A a1 b1 ++ cutOf R.A a2 b2 = partP (gapLine R.A R.u R.v) a b ∧ a1 ≤ b1 ∧ a2 ≤ b2 ∧ b1 ≤ 1024 ∧ b2 ≤ 1024) := Lib.hid ⟨by rw [e1, e2, e6, e7, e3, e4, e5]; exact part_two ok.len ok.sum hab hb, by omega, by omega, by omega, by omega⟩
  have S1 := slice_arr g a1 b1 (by omega) (by omega)
  have S2 := slice_arr g a2 b2 (by omega) (by omega)
  have hv1 : IntKind.i64.wrap ((ma : Int) + (gp : Int)) = (a2 : Int) := by rw [IntWalk.i64_in _ (by omega)]; omega
  have hv2 : IntKind.i64.wrap ((mb : Int) + (gp : Int)) = (b2 : Int) := by rw [IntWalk.i64_in _ (by omega)]; omega
  have m1 : min (a : Int) (R.u : Int) = (a1 : Int) := by omega
  have m2 : min (b : Int) (R.u : Int) = (b1 : Int) := by omega
  have m3 : max (a : Int) (R.u : Int) = (ma : Int) := by omega
  have m4 : max (b : Int) (R.u : Int) = (mb : Int) := by omega
  have G : Hid (∀ W, BRAt W g R → Calls Tryd.prog 76 #[.pointer (some ⟨g, 0, none⟩)] W fun e w' => e = .returned (.int .i64 (gp : Int)) ∧ Below W.heap.size W w') := Lib.hid fun W hW => by rw [e5]; exact gap_any W g R hW ok
  have H := Lib.hid h
  clear h e1 e2 e3 e4 e5 e6 e7 hs
  go_enter Tryd.func53, Tryd.ntmps53
  go_wp2
  go_region
  go_wp2
  have H0 : Hid (BRAt w.drew.drew g R) := Lib.hid H.out
  have B0 : Hid (Below w.heap.size w w.drew.drew) := Lib.hid ⟨rfl, rfl, rfl, Nat.le_refl _, fun _ _ => rfl⟩
  have k0 : w.drew.drew.cell? ⟨g, 1024, none⟩ = some (.int .i64 R.u) := c0
  generalize w.drew = w0 at *
  have HG := Lib.hid H.out.lt
  have HP : Hid ((partP (gapLine R.A R.u R.v) a b).length = b - a) := Lib.hid (partP_length hab (by rw [gapLine_length ok.len ok.sum]; exact hb))
  have HN : Hid (([] : List Int).length + (cutOf R.A a1 b1).length ≤ 1000000000 ∧ ([] ++ cutOf R.A a1 b1).length + (cutOf R.A a2 b2).length ≤ 1000000000) := Lib.hid (by
    have h1 := cutOf_length R.A (a := a1) (b := b1) (by rw [ok.len]; exact E.out.2.2.2.1)
    have h2 := cutOf_length R.A (a := a2) (b := b2) (by rw [ok.len]; exact E.out.2.2.2.2)
    have h3 := E.out
    rw [List.nil_append, h1, h2]
    simp only [List.length_nil]
    omega)
  go_region_held3 (fun w' => w'.cell? ⟨g, 1024, none⟩ = some (.int .i64 R.u)) (first | with_reducible exact k2 | with_reducible exact k1 | with_reducible exact k0 | fail) (first
    | (go_at_call 76; with_reducible refine (G.out _ (by first | with_reducible exact H1.out | with_reducible exact H0.out)).mono ?_; rintro e w1 ⟨rfl, hb1⟩; first | (have H2 := Lib.hid (H1.out.below hb1); have B2 := Lib.hid (B1.out.trans (hb1.mono B1.out.size)); have k2 := (H2.out.cells ok).c0; clear hb1) | (have H1 := Lib.hid (H0.out.below hb1); have B1 := Lib.hid (B0.out.trans (hb1.mono B0.out.size)); have k1 := (H1.out.cells ok).c0; clear hb1)))
  all_goals
    have HY1 := Lib.hid (H2.out.cut ok E.out.2.1 E.out.2.2.2.1)
    go_wp2_with (first
      | (at_builtin; refine wpList_append_runes (by rfl) _ _ (by rfl) w.heap.size (.slice none 0 0) [] (by rfl) (World.ownsRow_nil _ _ _ _) (some (cutAt g a1)) (b1 - a1) (1024 - a1) (cutOf R.A a1 b1) (by rfl) HY1.out HN.out.1 B2.out.size ?_; intro v3 w3 h3 hb3 hg3; have HR3 := Lib.hid h3; have B3 := Lib.hid (B2.out.trans (hb3.mono (Nat.le_refl _))); have H3 := Lib.hid (H2.out.same (hb3.block g HG.out)); clear h3 hb3 hg3)
      | (at_builtin; refine wpList_append_runes (by rfl) _ _ (by rfl) w.heap.size v3 ([] ++ cutOf R.A a1 b1) (by rfl) HR3.out (some (cutAt g a2)) (b2 - a2) (1024 - a2) (cutOf R.A a2 b2) (by rfl) (H3.out.cut ok E.out.2.2.1 E.out.2.2.2.2) HN.out.2 B3.out.size ?_; intro v4 w4 h4 hb4 hg4; have HR4 := Lib.hid h4; have B4 := Lib.hid (B3.out.trans (hb4.mono (Nat.le_refl _))); clear h4 hb4 hg4))
    go_ret
    refine ⟨_, rfl, ?_, B4.out⟩
    have := HR4.out
    rw [List.nil_append, E.out.1, HP.out] at this
    exact this
end Go.Proofs.YtepbhmebidmnbaaDoor
