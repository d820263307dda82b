/-
  The document's Kill, where it turns the newest entry; the document's Kill, whatever comes.
-/
import Derived.Test.YtknekldnipdpeaaKrRefK3
namespace Go.Proofs.Ytknekldnipdpeaa
open Go.RowKit Go.Shelf Go.Lib
attribute [local go_sem] Oper.semAt_some

section
variable {K : Nat → Prop}
/-- the first entry, and the rest -/
theorem WAt.first {w : World} {r : Nat} {x0 : List Int} {t : List (List Int)} {pl : Nat} (h : WAt K w r ⟨x0 :: t, pl⟩) : ∃ b c A1 c1 ys, w.heap[r]? = some (.cells #[.slice (some ⟨b, 0, none⟩) (t.length + 1) c, .int .i64 (pl : Int)] 28 (0, 0)) ∧ b < w.heap.size ∧ w.cell? ⟨b, 0, none⟩ = some (.slice A1 x0.length c1) ∧ Holds1 w (.slice A1 x0.length c1) (runeVals x0) ∧ x0.length ≤ 1024 ∧
    Src w 1 (tailA (some ⟨b, 0, none⟩) c 1 1) (c - 1) t.length ys ∧ (∀ u ∈ ys, u.oneCell' = true) ∧ (∀ (i : Nat) (l : List Int), t[i]? = some l → ∃ x, ys[i]? = some x ∧ RIn K w x l ∧ l.length ≤ 1024) ∧ b ≠ r := by
  obtain ⟨A, c, hr, hL, _⟩ := h.cells
  obtain ⟨xs, h1, h2, h3, h4⟩ := hL.one
  dsimp only at hr h1 h3
  rw [List.length_cons] at hr h1
  obtain ⟨x, g1, g2, g3⟩ := h3 0 x0 rfl
  obtain ⟨A1, c1, rfl⟩ := g2.form
  rcases id h1.2 with ⟨_, h0⟩ | ⟨b, cap, cur, e, _, hg, hn, _, hs, ht⟩
  · omega
  · injection e with e1 e2 e3
    subst e1 e3
    have hs1 := own_tail h1 (i := 1) (by omega)
    rw [Nat.one_mul, Nat.add_sub_cancel] at hs1
    refine ⟨b, c, A1, c1, xs.drop 1, hr, (Array.getElem?_eq_some_iff.1 hg).1, ?_, g2.now, g3, hs1, fun u hu => h4 u (List.mem_of_mem_drop hu), fun i l hi => ?_, ?_⟩
    · rw [cell_of_row w b 0 cur _ (0, 0) hg]
      rw [← ht, List.getElem?_take] at g1
      split at g1
      · rw [← g1, Array.getElem?_toList]
      · cases g1
    · obtain ⟨x, g4, g5, g6⟩ := h3 (i + 1) l (by rw [List.getElem?_cons_succ]; exact hi)
      exact ⟨x, by rw [List.getElem?_drop, Nat.add_comm]; exact g4, g5, g6⟩
    · rintro rfl
      rw [hr] at hg
      injection hg with hg
      injection hg with _ hg
      exact absurd hg (by decide)
set_option maxRecDepth 1000000 in
set_option maxHeartbeats 4000000 in
theorem wkill_over1 (w : World) (r : Nat) (x0 : List Int) (t : List (List Int)) (pl : Nat) (h : WAt K w r ⟨x0 :: t, pl⟩) (A0 : Option Addr) (n0 c0 : Nat) (hl : n0 ≤ 1024) (hs : 1024 < n0 + x0.length) : Calls Try.prog 12 #[.pointer (some ⟨r, 0, none⟩), .int .i64 1, .slice A0 n0 c0] w (WPost K w r 3 ⟨x0 :: t, pl⟩) := by
  obtain ⟨b, c, A1, c1, ys, hr, hb, hc, hh, hx, hsrc, hone, h3, hbr⟩ := h.first
  have H := Lib.hid h
  have q0 := (RC.of hr).c0
  have i1 : ((n0 : Int) > 1024) = False := eq_false (by omega)
  have i2 : ((1024 : Int) < (n0 : Int)) = False := eq_false (by omega)
  have i3 : (1024 < n0) = False := eq_false (by omega)
  obtain ⟨n, hn⟩ : ∃ n, n = t.length + 1 := ⟨_, rfl⟩
  rw [← hn] at q0
  have k1 : ((n : Int) > 0) = True := eq_true (by omega)
  have k2 : ((0 : Int) < (n : Int)) = True := eq_true (by omega)
  have k3 : (0 < n) = True := eq_true (by omega)
  obtain ⟨s, hsum⟩ : ∃ s, s = n0 + x0.length := ⟨_, rfl⟩
  have j1 : wrap64 ((n0 : Int) + (x0.length : Int)) = (s : Int) := by unfold wrap64; omega
  have j2 : IntKind.i64.wrap ((n0 : Int) + (x0.length : Int)) = (s : Int) := by rw [IntWalk.i64_in _ (by omega)]; omega
  have s1 : ((s : Int) > 1024) = True := eq_true (by omega)
  have s2 : ((1024 : Int) < (s : Int)) = True := eq_true (by omega)
  have s3 : (1024 < s) = True := eq_true (by omega)
  generalize x0.length = xl at *
  clear h hr hb hh hx hsrc hone h3 hbr hl hs hsum hn
  go_enter Try.func12, Try.ntmps12
  go_wp2
  go_ret
  exact ⟨rfl, H.out.more (Below.refl _ _), Touch.refl _ _⟩
set_option maxRecDepth 1000000 in
set_option maxHeartbeats 4000000 in
theorem wkill_over2 (w : World) (r : Nat) (x0 : List Int) (t : List (List Int)) (pl : Nat) (h : WAt K w r ⟨x0 :: t, pl⟩) (A0 : Option Addr) (n0 c0 : Nat) (hl : n0 ≤ 1024) (hs : 1024 < n0 + x0.length) : Calls Try.prog 12 #[.pointer (some ⟨r, 0, none⟩), .int .i64 2, .slice A0 n0 c0] w (WPost K w r 3 ⟨x0 :: t, pl⟩) := by
  obtain ⟨b, c, A1, c1, ys, hr, hb, hc, hh, hx, hsrc, hone, h3, hbr⟩ := h.first
  have H := Lib.hid h
  have q0 := (RC.of hr).c0
  have i1 : ((n0 : Int) > 1024) = False := eq_false (by omega)
  have i2 : ((1024 : Int) < (n0 : Int)) = False := eq_false (by omega)
  have i3 : (1024 < n0) = False := eq_false (by omega)
  obtain ⟨n, hn⟩ : ∃ n, n = t.length + 1 := ⟨_, rfl⟩
  rw [← hn] at q0
  have k1 : ((n : Int) > 0) = True := eq_true (by omega)
  have k2 : ((0 : Int) < (n : Int)) = True := eq_true (by omega)
  have k3 : (0 < n) = True := eq_true (by omega)
  obtain ⟨s, hsum⟩ : ∃ s, s = n0 + x0.length := ⟨_, rfl⟩
  have j1 : wrap64 ((n0 : Int) + (x0.length : Int)) = (s : Int) := by unfold wrap64; omega
  have j2 : IntKind.i64.wrap ((n0 : Int) + (x0.length : Int)) = (s : Int) := by rw [IntWalk.i64_in _ (by omega)]; omega
  have s1 : ((s : Int) > 1024) = True := eq_true (by omega)
  have s2 : ((1024 : Int) < (s : Int)) = True := eq_true (by omega)
  have s3 : (1024 < s) = True := eq_true (by omega)
  generalize x0.length = xl at *
  clear h hr hb hh hx hsrc hone h3 hbr hl hs hsum hn
  go_enter Try.func12, Try.ntmps12
  go_wp2
  go_ret
  exact ⟨rfl, H.out.more (Below.refl _ _), Touch.refl _ _⟩
set_option maxRecDepth 1000000 in
set_option maxHeartbeats 4000000 in
theorem wkill_join1 (w : World) (r : Nat) (x0 : List Int) (t : List (List Int)) (pl : Nat) (h : WAt K w r ⟨x0 :: t, pl⟩) (v : Value) (l : List Int) (hv : Holds1 w v (runeVals l)) (hs : ¬ 1024 < l.length + x0.length) : Calls Try.prog 12 #[.pointer (some ⟨r, 0, none⟩), .int .i64 1, v] w (WPost K w r 0 ⟨(x0 ++ l) :: t, 0⟩) := by
  obtain ⟨A0, c0, rfl, _⟩ := id hv
  rw [runeVals_length] at hv ⊢
  obtain ⟨b, c, A1, c1, ys, hr, hb, hc, hh, hx, hsrc, hone, h3, hbr⟩ := h.first
  have CB1 := Lib.hid (both_any w x0 l _ _ hh hv (by omega))
  have q0 := (RC.of hr).c0
  have HR := Lib.hid hr
  have HLT := Lib.hid h.lt
  have HB := Lib.hid hb
  have HSRC := Lib.hid hsrc
  have HONE := Lib.hid hone
  have H60 : Hid (t.length + 1 ≤ 60) := Lib.hid (by have := h.many; simpa using this)
  have FIN : Hid (∀ (w1 w2 W : World) (tv : Value) (A' : Option Addr) (n' c' : Nat), Below w.heap.size w w1 → RRow w1 w.heap.size tv (x0 ++ l) → n' = t.length + 1 → w2.ownsRow w1.heap.size 30 1 (.slice A' n' c') n' ([tv] ++ ys) → Below w1.heap.size w1 w2 → Touch (Only r) w2 W → W.heap[r]? = some (.cells #[.slice A' n' c', .int .i64 0] 28 (0, 0)) → WAt (More K w W) W r ⟨(x0 ++ l) :: t, 0⟩ ∧ Touch (Only r) w W) := Lib.hid (by
    intro w1 w2 W tv A' n' c' a1 a2 a3 a4 a5 a6 a7
    have hm := h.many
    have := wkill_fin h hr h3 (by rw [List.length_append]; omega) a1 a2 a3 a4 a5 n' (Nat.le_refl _) (by have : (x0 :: t).length ≤ 60 := hm; rw [List.length_cons] at this; omega) (by omega) a6 a7
    rwa [List.take_of_length_le (by rw [List.length_cons]; omega)] at this)
  have i1 : ((l.length : Int) > 1024) = False := eq_false (by omega)
  have i2 : ((1024 : Int) < (l.length : Int)) = False := eq_false (by omega)
  have i3 : (1024 < l.length) = False := eq_false (by omega)
  obtain ⟨n, hn⟩ : ∃ n, n = t.length + 1 := ⟨_, rfl⟩
  rw [← hn] at q0 HR FIN H60
  have k1 : ((n : Int) > 0) = True := eq_true (by omega)
  have k2 : ((0 : Int) < (n : Int)) = True := eq_true (by omega)
  have k3 : (0 < n) = True := eq_true (by omega)
  obtain ⟨s, hsum⟩ : ∃ s, s = l.length + x0.length := ⟨_, rfl⟩
  have j1 : wrap64 ((l.length : Int) + (x0.length : Int)) = (s : Int) := by unfold wrap64; omega
  have j2 : IntKind.i64.wrap ((l.length : Int) + (x0.length : Int)) = (s : Int) := by rw [IntWalk.i64_in _ (by omega)]; omega
  have s1 : ((s : Int) > 1024) = False := eq_false (by omega)
  have s2 : ((1024 : Int) < (s : Int)) = False := eq_false (by omega)
  have s3 : (1024 < s) = False := eq_false (by omega)
  have hsl := fun W => sliceAt_1 (some ⟨b, 0, none⟩) n c (by omega) W
  have hn1 : t.length = n - 1 := by omega
  rw [hn1] at HSRC
  have HN1 : Hid (1 + (n - 1) = n) := Lib.hid (by omega)
  generalize n - 1 = n1 at *
  generalize tailA (some ⟨b, 0, none⟩) c 1 1 = TA at *
  generalize c - 1 = TC at *
  clear h hr hb hh hx hsrc hone h3 hbr hs hsum hn hv
  generalize (x0 ++ l).length = jl at *
  generalize x0.length = xl at *
  generalize l.length = ll at *
  go_enter Try.func12, Try.ntmps12
  go_wp2_with (first
    | (go_at_call 31; refine (CB1.out).mono ?_; rintro e w1 ⟨A3, c3, rfl, hrow1, hb1⟩; have ROW1 := Lib.hid hrow1; have hba : Below w1.heap.size w1 (w1.alloc (.cells #[.slice A3 jl c3] 30)) := (Below.refl _ _).alloc (Nat.le_refl _) _; have B1 := Lib.hid hb1; have hra := (hba.block r (Nat.lt_of_lt_of_le HLT.out hb1.size)).trans ((hb1.block r HLT.out).trans HR.out); have q1 := (RC.of hra).c0; have HRA := Lib.hid hra; have BA := Lib.hid hba; have SA := Lib.hid ((HSRC.out.below hb1).below (hba.mono (Nat.le_refl _))); clear hrow1 hb1 hba hra)
    | (at_builtin; refine wpList_append_rows (by rfl) _ _ (by rfl) w1.heap.size (.slice (some ⟨w1.heap.size, 0, none⟩) 1 1) 1 [.slice A3 jl c3] (by rfl) (built_own _ (Nat.le_refl _)) TA n1 TC ys (by rfl) SA.out HONE.out (by have := H60.out; have := HN1.out; omega) BA.out.size ?_; rintro A' n' c' w2 hn' hrow2 hb2 hg2 ho2; have ROW2 := Lib.hid hrow2; have B2 := Lib.hid (BA.out.trans hb2); have HN' : Hid (n' = n) := Lib.hid (hn'.trans HN1.out); have hr2 := (hb2.block r (Nat.lt_of_lt_of_le HLT.out B1.out.size)).trans HRA.out; have HR2 := Lib.hid hr2; have R2 := RC.of hr2; have z0 := R2.c0; have z1 := R2.c1; have z2 := R2.f0; have z3 := R2.f1; clear hrow2 hb2 hg2 ho2 hr2 R2 hn'))
  go_ret
  obtain ⟨g1, g2⟩ := FIN.out w1 w2 _ _ A' n' c' B1.out ROW1.out HN'.out ROW2.out B2.out (tset2 w2 r _ _) (rset2 HR2.out)
  exact ⟨rfl, g1, g2⟩
set_option maxRecDepth 1000000 in
set_option maxHeartbeats 4000000 in
theorem wkill_join2 (w : World) (r : Nat) (x0 : List Int) (t : List (List Int)) (pl : Nat) (h : WAt K w r ⟨x0 :: t, pl⟩) (v : Value) (l : List Int) (hv : Holds1 w v (runeVals l)) (hs : ¬ 1024 < l.length + x0.length) : Calls Try.prog 12 #[.pointer (some ⟨r, 0, none⟩), .int .i64 2, v] w (WPost K w r 0 ⟨(l ++ x0) :: t, 0⟩) := by
  obtain ⟨A0, c0, rfl, _⟩ := id hv
  rw [runeVals_length] at hv ⊢
  obtain ⟨b, c, A1, c1, ys, hr, hb, hc, hh, hx, hsrc, hone, h3, hbr⟩ := h.first
  have CB1 := Lib.hid (both_any w x0 l _ _ hh hv (by omega))
  have CB2 : Hid (∀ W, Below w.heap.size w W → Calls Try.prog 31 #[.slice A0 l.length c0, .slice A1 x0.length c1] W fun e w' => ∃ A c, e = .returned (.slice A (l ++ x0).length c) ∧ RRow w' W.heap.size (.slice A (l ++ x0).length c) (l ++ x0) ∧ Below W.heap.size W w') := Lib.hid fun W hb => both_any W l x0 _ _ (hv.below hb) (hh.below hb) (by omega)
  have q0 := (RC.of hr).c0
  have HR := Lib.hid hr
  have HLT := Lib.hid h.lt
  have HB := Lib.hid hb
  have HSRC := Lib.hid hsrc
  have HONE := Lib.hid hone
  have H60 : Hid (t.length + 1 ≤ 60) := Lib.hid (by have := h.many; simpa using this)
  have FIN : Hid (∀ (w1 w2 W : World) (tv : Value) (A' : Option Addr) (n' c' : Nat), Below w.heap.size w w1 → RRow w1 w.heap.size tv (l ++ x0) → n' = t.length + 1 → w2.ownsRow w1.heap.size 30 1 (.slice A' n' c') n' ([tv] ++ ys) → Below w1.heap.size w1 w2 → Touch (Only r) w2 W → W.heap[r]? = some (.cells #[.slice A' n' c', .int .i64 0] 28 (0, 0)) → WAt (More K w W) W r ⟨(l ++ x0) :: t, 0⟩ ∧ Touch (Only r) w W) := Lib.hid (by
    intro w1 w2 W tv A' n' c' a1 a2 a3 a4 a5 a6 a7
    have hm := h.many
    have := wkill_fin h hr h3 (by rw [List.length_append]; omega) a1 a2 a3 a4 a5 n' (Nat.le_refl _) (by have : (x0 :: t).length ≤ 60 := hm; rw [List.length_cons] at this; omega) (by omega) a6 a7
    rwa [List.take_of_length_le (by rw [List.length_cons]; omega)] at this)
  have i1 : ((l.length : Int) > 1024) = False := eq_false (by omega)
  have i2 : ((1024 : Int) < (l.length : Int)) = False := eq_false (by omega)
  have i3 : (1024 < l.length) = False := eq_false (by omega)
  obtain ⟨n, hn⟩ : ∃ n, n = t.length + 1 := ⟨_, rfl⟩
  rw [← hn] at q0 HR FIN H60
  have k1 : ((n : Int) > 0) = True := eq_true (by omega)
  have k2 : ((0 : Int) < (n : Int)) = True := eq_true (by omega)
  have k3 : (0 < n) = True := eq_true (by omega)
  obtain ⟨s, hsum⟩ : ∃ s, s = l.length + x0.length := ⟨_, rfl⟩
  have j1 : wrap64 ((l.length : Int) + (x0.length : Int)) = (s : Int) := by unfold wrap64; omega
  have j2 : IntKind.i64.wrap ((l.length : Int) + (x0.length : Int)) = (s : Int) := by rw [IntWalk.i64_in _ (by omega)]; omega
  have s1 : ((s : Int) > 1024) = False := eq_false (by omega)
  have s2 : ((1024 : Int) < (s : Int)) = False := eq_false (by omega)
  have s3 : (1024 < s) = False := eq_false (by omega)
  have hsl := fun W => sliceAt_1 (some ⟨b, 0, none⟩) n c (by omega) W
  have hn1 : t.length = n - 1 := by omega
  rw [hn1] at HSRC
  have HN1 : Hid (1 + (n - 1) = n) := Lib.hid (by omega)
  generalize n - 1 = n1 at *
  generalize tailA (some ⟨b, 0, none⟩) c 1 1 = TA at *
  generalize c - 1 = TC at *
  clear h hr hb hh hx hsrc hone h3 hbr hs hsum hn hv
  generalize (l ++ x0).length = jl at *
  generalize (x0 ++ l).length = jl1 at *
  generalize x0.length = xl at *
  generalize l.length = ll at *
  have tok1 : True := trivial
  go_enter Try.func12, Try.ntmps12
  go_wp2_with (first
    | (go_at_call 31; have tk := tok1; refine (CB1.out).mono ?_; rintro e w0 ⟨A2, c2, rfl, hrow0, hb0⟩; have B0 := Lib.hid hb0; have hr0 := (hb0.block r HLT.out).trans HR.out; have q2 := (RC.of hr0).c0; have hc2 := (hb0.cell (p := ⟨b, 0, none⟩) HB.out).trans hc; have tok2 : True := trivial; clear hrow0 hb0 hr0 tk tok1)
    | (go_at_call 31; have tk := tok2; refine (CB2.out _ B0.out).mono ?_; rintro e w1 ⟨A3, c3, rfl, hrow1', hb1'⟩; have hrow1 := own_less hrow1' B0.out.size; have hb1 := B0.out.trans (hb1'.mono B0.out.size); have ROW1 := Lib.hid hrow1; have hba : Below w1.heap.size w1 (w1.alloc (.cells #[.slice A3 jl c3] 30)) := (Below.refl _ _).alloc (Nat.le_refl _) _; have B1 := Lib.hid hb1; have hra := (hba.block r (Nat.lt_of_lt_of_le HLT.out hb1.size)).trans ((hb1.block r HLT.out).trans HR.out); have q1 := (RC.of hra).c0; have HRA := Lib.hid hra; have BA := Lib.hid hba; have SA := Lib.hid ((HSRC.out.below hb1).below (hba.mono (Nat.le_refl _))); clear hrow1 hb1 hba hra hrow1' hb1' tk tok2)
    | (at_builtin; refine wpList_append_rows (by rfl) _ _ (by rfl) w1.heap.size (.slice (some ⟨w1.heap.size, 0, none⟩) 1 1) 1 [.slice A3 jl c3] (by rfl) (built_own _ (Nat.le_refl _)) TA n1 TC ys (by rfl) SA.out HONE.out (by have := H60.out; have := HN1.out; omega) BA.out.size ?_; rintro A' n' c' w2 hn' hrow2 hb2 hg2 ho2; have ROW2 := Lib.hid hrow2; have B2 := Lib.hid (BA.out.trans hb2); have HN' : Hid (n' = n) := Lib.hid (hn'.trans HN1.out); have hr2 := (hb2.block r (Nat.lt_of_lt_of_le HLT.out B1.out.size)).trans HRA.out; have HR2 := Lib.hid hr2; have R2 := RC.of hr2; have z0 := R2.c0; have z1 := R2.c1; have z2 := R2.f0; have z3 := R2.f1; clear hrow2 hb2 hg2 ho2 hr2 R2 hn'))
  go_ret
  obtain ⟨g1, g2⟩ := FIN.out w1 w2 _ _ A' n' c' B1.out ROW1.out HN'.out ROW2.out B2.out (tset2 w2 r _ _) (rset2 HR2.out)
  exact ⟨rfl, g1, g2⟩
/-- the document's Kill, whatever comes -/
theorem wkill_any (w : World) (r : Nat) (S : KS) (h : WAt K w r S) (way : Int) (v : Value) (l : List Int) (hv : Holds1 w v (runeVals l)) : Calls Try.prog 12 #[.pointer (some ⟨r, 0, none⟩), .int .i64 way, v] w (WPost K w r (killErr S way l) (killS S way l)) := by
  obtain ⟨A, c, e0, _⟩ := id hv
  rw [runeVals_length] at e0
  obtain ⟨es, pl⟩ := S
  by_cases hw : way = 0 ∨ way = 1 ∨ way = 2
  · by_cases hl : 1024 < l.length
    · have e1 : killErr ⟨es, pl⟩ way l = 3 := by unfold killErr; rw [if_neg (not_not_intro hw), if_pos hl]
      have e2 : killS ⟨es, pl⟩ way l = ⟨es, pl⟩ := by unfold killS; rw [if_pos (by rw [e1]; decide)]
      rw [e1, e2, e0]
      exact wkill_long w r _ h way A l.length c hw hl
    · have hm : es.length ≤ 60 := h.many
      by_cases h0 : way = 0
      · have e1 : killErr ⟨es, pl⟩ way l = 0 := by unfold killErr; rw [if_neg (not_not_intro hw), if_neg hl, if_pos h0]
        by_cases hn : l = []
        · have e2 : killS ⟨es, pl⟩ way l = ⟨es, pl⟩ := by unfold killS; rw [if_neg (by rw [e1]; simp), if_pos h0, if_pos hn]
          rw [e1, e2, e0]
          subst h0 hn
          exact wkill_nil w r _ h A c
        · have e2 : killS ⟨es, pl⟩ way l = ⟨(l :: es).take 60, 0⟩ := by unfold killS; rw [if_neg (by rw [e1]; simp), if_pos h0, if_neg hn]
          rw [e1, e2]
          subst h0
          by_cases h60 : es.length = 60
          · exact wkill_new_fz w r es pl h v l hv (by omega) h60 hn
          · exact wkill_new_pz w r es pl h v l hv (by omega) (by omega) hn
      · have h12 : way = 1 ∨ way = 2 := hw.resolve_left h0
        cases es with
        | nil =>
          have e1 : killErr ⟨[], pl⟩ way l = 0 := by unfold killErr; rw [if_neg (not_not_intro hw), if_neg hl, if_neg h0]
          have e2 : killS ⟨[], pl⟩ way l = ⟨(l :: []).take 60, 0⟩ := by unfold killS; rw [if_neg (by rw [e1]; simp), if_neg h0]; rfl
          rw [e1, e2]
          by_cases hn : l = []
          · rcases h12 with rfl | rfl
            · exact wkill_new_p1y w r [] pl h v l hv (by omega) (by simp) rfl hn
            · exact wkill_new_p2y w r [] pl h v l hv (by omega) (by simp) rfl hn
          · rcases h12 with rfl | rfl
            · exact wkill_new_p1n w r [] pl h v l hv (by omega) (by simp) rfl hn
            · exact wkill_new_p2n w r [] pl h v l hv (by omega) (by simp) rfl hn
        | cons x0 t =>
          by_cases hlo : 1024 < x0.length + l.length
          · have e1 : killErr ⟨x0 :: t, pl⟩ way l = 3 := by unfold killErr; rw [if_neg (not_not_intro hw), if_neg hl, if_neg h0]; exact if_pos hlo
            have e2 : killS ⟨x0 :: t, pl⟩ way l = ⟨x0 :: t, pl⟩ := by unfold killS; rw [if_pos (by rw [e1]; decide)]
            rw [e1, e2, e0]
            rcases h12 with rfl | rfl
            · exact wkill_over1 w r x0 t pl h A l.length c (by omega) (by omega)
            · exact wkill_over2 w r x0 t pl h A l.length c (by omega) (by omega)
          · have e1 : killErr ⟨x0 :: t, pl⟩ way l = 0 := by unfold killErr; rw [if_neg (not_not_intro hw), if_neg hl, if_neg h0]; exact if_neg hlo
            have e2 : killS ⟨x0 :: t, pl⟩ way l = ⟨joinP way x0 l :: t, 0⟩ := by unfold killS; rw [if_neg (by rw [e1]; simp), if_neg h0]
            rw [e1, e2]
            rcases h12 with rfl | rfl
            · exact wkill_join1 w r x0 t pl h v l hv (by omega)
            · exact wkill_join2 w r x0 t pl h v l hv (by omega)
  · have e1 : killErr ⟨es, pl⟩ way l = 1 := by unfold killErr; rw [if_pos hw]
    have e2 : killS ⟨es, pl⟩ way l = ⟨es, pl⟩ := by unfold killS; rw [if_pos (by rw [e1]; decide)]
    rw [e1, e2, e0]
    exact wkill_way w r _ h way A l.length c (by omega)
end
end Go.Proofs.Ytknekldnipdpeaa
