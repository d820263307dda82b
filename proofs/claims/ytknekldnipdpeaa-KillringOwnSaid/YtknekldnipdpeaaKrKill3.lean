/-
  What Kill answers where it turns the newest entry; Kill, whatever comes.
-/
import Derived.Test.YtknekldnipdpeaaKrKill2
namespace Go.Proofs.Ytknekldnipdpeaa
open Go.RowKit Go.Shelf Go.Lib
attribute [local go_sem] Oper.semAt_some

section
variable {K : Nat → Prop}
set_option maxRecDepth 1000000 in
set_option maxHeartbeats 4000000 in
theorem kill_join (w : World) (g : Nat) (S : KS) (h : RAt K w g S) (x0 : List Int) (r : List (List Int)) (hS : S.es = x0 :: r) (way : Int) (v : Value) (l : List Int) (hv : Holds1 w v (runeVals l)) (hl : l.length ≤ 1024) (hw : way = 1 ∨ way = 2) : Calls Try.prog 11 #[.pointer (some ⟨g, 0, none⟩), .int .i64 way, v] w fun e w' => (1024 < x0.length + l.length ∧ KPost K w g 3 S e w') ∨ (¬ 1024 < x0.length + l.length ∧ KPost K w g 0 ⟨joinP way x0 l :: r, 0⟩ e w') := by
  obtain ⟨A, c, rfl, _⟩ := id hv
  rw [runeVals_length] at hv ⊢
  obtain ⟨vs, nw, hr, he⟩ := h.row
  obtain ⟨A1, c1, hv1, hin1, hx0⟩ := he.at (i := 0) (by rw [hS]; simp)
  have hx : S.es[0]'(by rw [hS]; simp) = x0 := by simp [hS]
  rw [hx] at hv1 hin1 hx0
  clear hx
  have CU := Lib.hid (usable_row w g hr.cells.c0)
  have CT := tooLong_any w A l.length c
  rw [decide_eq_false (by omega)] at CT
  have CT := Lib.hid CT
  have CE : Hid (Calls Try.prog 29 #[.pointer (some ⟨g, 1, none⟩), .int .i64 0] w fun e w' => e = .returned (.slice A1 x0.length c1) ∧ ∃ m, w' = w.drewN m) := Lib.hid (entry_any w g 1 vs nw _ hr.cyc 0 (by omega) _ hv1)
  have CJ := Lib.hid fun m => joined_any (w.drewN m) way x0 l _ _ (hin1.to ⟨Nat.le_refl _, fun _ _ _ => rfl⟩).now (hv.below (Below.drewN (Below.refl _ _) m)) ⟨hx0, hl⟩
  have hjl := joinP_length way x0 l
  have HJL := Lib.hid hjl
  have CT2 := Lib.hid fun W A c => tooLong_any W A (joinP way x0 l).length c
  have FIN : Hid (∀ (m : Nat) w2 w3 A c, Below (w.drewN m).heap.size (w.drewN m) w2 → (joinP way x0 l).length ≤ 1024 → RRow w2 (w.drewN m).heap.size (.slice A (joinP way x0 l).length c) (joinP way x0 l) → Touch (Only g) w2 w3 → Row w3 g (vs.set nw (.slice A (joinP way x0 l).length c)) nw S.es.length S.pl → RAt (More K w (w3.setCell ⟨g, 63, none⟩ (.int .i64 0))) (w3.setCell ⟨g, 63, none⟩ (.int .i64 0)) g ⟨joinP way x0 l :: r, 0⟩ ∧ Touch (Only g) w (w3.setCell ⟨g, 63, none⟩ (.int .i64 0))) := Lib.hid (by
    intro m w2 w3 A c hb hjl hrr ht hrow
    have hb1 : Below w.heap.size w w2 := below_of_drewN hb
    have t2 : Touch (Only g) w2 (w3.setCell ⟨g, 63, none⟩ (.int .i64 0)) := ht.trans (only_set _ _ _ _)
    have t1 := (Touch.of_below (T := Only g) hb1).trans t2
    refine ⟨h.replaced hS hr he hjl (hrow.place 0) ?_ t1, t1⟩
    have hrr2 : RRow (w3.setCell ⟨g, 63, none⟩ (.int .i64 0)) w.heap.size (.slice A (joinP way x0 l).length c) (joinP way x0 l) := own_same hrr fun k hk => t2.block k (own_lt hrr k hk).2 fun e => by
      have := own_lt hrr k hk
      have hgl := h.lt
      simp only [Only] at e
      have h1 : (w.drewN m).heap.size = w.heap.size := rfl
      omega
    exact RIn.own hrr2 fun k h1 h2 => .inr ⟨h1, h2⟩)
  have H := Lib.hid h
  have HR := Lib.hid hr
  have HLT := Lib.hid h.lt
  have c62 := hr.cells.cn
  have hn0 : S.es.length ≠ 0 := by rw [hS]; simp
  have n1 : ((S.es.length : Int) = 0) = False := eq_false (by omega)
  have n2 : (S.es.length = 0) = False := eq_false hn0
  have n3 : ((S.es.length : Int) == 0) = false := by simpa using hn0
  have n4 : (S.es = []) = False := eq_false (by rw [hS]; simp)
  by_cases hlong : 1024 < x0.length + l.length
  · have hjt : (decide (1024 < (joinP way x0 l).length)) = true := by rw [hjl]; exact decide_eq_true hlong
    rw [hjt] at CT2
    have HLO := Lib.hid hlong
    generalize S.es.length = n at *
    clear h hr he hv hl hv1 hin1 hx0 hS hjl hjt hlong hn0 FIN HJL n4
    generalize joinP way x0 l = jj at *
    generalize l.length = ll at *
    generalize x0.length = xl at *
    generalize hjj : jj.length = jl at *
    rcases hw with rfl | rfl
    all_goals
      go_enter Try.func11, Try.ntmps11
      go_wp2_with (first
        | (go_at_call 24; refine (CU.out).mono ?_; rintro e w1 ⟨rfl, rfl⟩)
        | (go_at_call 25; with_reducible refine (CT.out).mono ?_; rintro e w1 ⟨rfl, rfl⟩)
        | (go_at_call 29; refine (CE.out).mono ?_; rintro e w1 ⟨rfl, m, rfl⟩)
        | (go_at_call 28; refine (CJ.out _).mono ?_; rintro e w2 ⟨A2, c2, rfl, hrr, hb⟩; have BB := Lib.hid hb; clear hrr hb)
        | (go_at_call 25; with_reducible refine (CT2.out _ _ _).mono ?_; rintro e w1 ⟨rfl, rfl⟩))
      go_ret
      exact .inl ⟨HLO.out, rfl, H.out.more (below_of_drewN BB.out), Touch.of_below (below_of_drewN BB.out)⟩
  · have hjt : (decide (1024 < (joinP way x0 l).length)) = false := by rw [hjl]; exact decide_eq_false hlong
    rw [hjt] at CT2
    have HLO := Lib.hid hlong
    have HJ1 : Hid ((joinP way x0 l).length ≤ 1024) := Lib.hid (by rw [hjl]; omega)
    have CR : Hid (∀ W A n c, Row W g vs nw S.es.length S.pl → Calls Try.prog 30 #[.pointer (some ⟨g, 1, none⟩), .slice A n c] W fun e w' => e = .returned (.tuple #[]) ∧ Row w' g (vs.set nw (.slice A n c)) nw S.es.length S.pl ∧ Touch (Only g) W w') := Lib.hid fun W A n c hW => replace_any W g vs nw _ _ hW A n c
    generalize S.es.length = n at *
    clear h hr he hv hl hv1 hin1 hx0 hS hjl hjt hlong hn0 HJL n4
    generalize joinP way x0 l = jj at *
    generalize l.length = ll at *
    generalize x0.length = xl at *
    generalize hjj : jj.length = jl at *
    rcases hw with rfl | rfl
    all_goals
      go_enter Try.func11, Try.ntmps11
      go_wp2_with (first
        | (go_at_call 24; refine (CU.out).mono ?_; rintro e w1 ⟨rfl, rfl⟩)
        | (go_at_call 25; with_reducible refine (CT.out).mono ?_; rintro e w1 ⟨rfl, rfl⟩)
        | (go_at_call 29; refine (CE.out).mono ?_; rintro e w1 ⟨rfl, m, rfl⟩)
        | (go_at_call 28; refine (CJ.out _).mono ?_; rintro e w2 ⟨A2, c2, rfl, hrr, hb⟩; have hrow := HR.out.same (hb.block g HLT.out); have RR := Lib.hid hrr; have RW := Lib.hid hrow; have BB := Lib.hid hb; clear hrr hb hrow)
        | (go_at_call 25; with_reducible refine (CT2.out _ _ _).mono ?_; rintro e w1 ⟨rfl, rfl⟩)
        | (go_at_call 30; refine (CR.out _ _ _ _ RW.out).mono ?_; rintro e w3 ⟨rfl, hrow3, ht3⟩; have FF := Lib.hid (FIN.out _ _ _ _ _ BB.out HJ1.out RR.out ht3 hrow3); have c63 := hrow3.cells.c63; have f63 := hrow3.cells.f 63; clear hrow3 ht3))
      go_ret
      exact .inr ⟨HLO.out, rfl, FF.out.1, FF.out.2⟩
/-- Kill, whatever comes -/
theorem kill_any (w : World) (g : Nat) (S : KS) (h : RAt K w g S) (way : Int) (v : Value) (l : List Int) (hv : Holds1 w v (runeVals l)) : Calls Try.prog 11 #[.pointer (some ⟨g, 0, none⟩), .int .i64 way, v] w (KPost K w g (killErr S way l) (killS S way l)) := by
  obtain ⟨A, c, rfl, _⟩ := id hv
  rw [runeVals_length] at hv ⊢
  by_cases hw : way = 0 ∨ way = 1 ∨ way = 2
  · by_cases hl : 1024 < l.length
    · have e1 : killErr S way l = 3 := by unfold killErr; rw [if_neg (not_not_intro hw), if_pos hl]
      have e2 : killS S way l = S := by unfold killS; rw [if_pos (by rw [e1]; decide)]
      rw [e1, e2]
      exact kill_long w g S h way A l.length c hw hl
    · by_cases h0 : way = 0
      · have e1 : killErr S way l = 0 := by unfold killErr; rw [if_neg (not_not_intro hw), if_neg hl, if_pos h0]
        by_cases hn : l = []
        · have e2 : killS S way l = S := by unfold killS; rw [if_neg (by rw [e1]; simp), if_pos h0, if_pos hn]
          rw [e1, e2]
          subst h0 hn
          exact kill_nil w g S h A c
        · have e2 : killS S way l = ⟨(l :: S.es).take 60, 0⟩ := by unfold killS; rw [if_neg (by rw [e1]; simp), if_pos h0, if_neg hn]
          rw [e1, e2]
          exact kill_push w g S h way _ l hv (by omega) (.inl ⟨h0, hn⟩)
      · have h12 : way = 1 ∨ way = 2 := hw.resolve_left h0
        cases hS : S.es with
        | nil =>
          have e1 : killErr S way l = 0 := by unfold killErr; rw [if_neg (not_not_intro hw), if_neg hl, if_neg h0, hS]
          have e2 : killS S way l = ⟨(l :: S.es).take 60, 0⟩ := by unfold killS; rw [if_neg (by rw [e1]; simp), if_neg h0, hS]; rfl
          rw [e1, e2]
          exact kill_push w g S h way _ l hv (by omega) (.inr ⟨hS, h12⟩)
        | cons x0 r =>
          refine (kill_join w g S h x0 r hS way _ l hv (by omega) h12).mono ?_
          rintro e w' (⟨hlo, hp⟩ | ⟨hlo, hp⟩)
          · have e1 : killErr S way l = 3 := by unfold killErr; rw [if_neg (not_not_intro hw), if_neg hl, if_neg h0, hS]; exact if_pos hlo
            have e2 : killS S way l = S := by unfold killS; rw [if_pos (by rw [e1]; decide)]
            rw [e1, e2]
            exact hp
          · have e1 : killErr S way l = 0 := by unfold killErr; rw [if_neg (not_not_intro hw), if_neg hl, if_neg h0, hS]; exact if_neg hlo
            have e2 : killS S way l = ⟨joinP way x0 l :: r, 0⟩ := by unfold killS; rw [if_neg (by rw [e1]; simp), if_neg h0, hS]
            rw [e1, e2]
            exact hp
  · have e1 : killErr S way l = 1 := by unfold killErr; rw [if_pos hw]
    have e2 : killS S way l = S := by unfold killS; rw [if_pos (by rw [e1]; decide)]
    rw [e1, e2]
    exact kill_way w g S h way A l.length c (fun e => hw (.inl e)) (fun e => hw (.inr (.inl e))) (fun e => hw (.inr (.inr e)))
end
end Go.Proofs.Ytknekldnipdpeaa
