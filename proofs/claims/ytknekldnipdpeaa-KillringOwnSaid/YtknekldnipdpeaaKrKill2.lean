/-
  What Kill answers where it makes an entry, and where it turns the newest one.
-/
import Derived.Test.YtknekldnipdpeaaKrKill
namespace Go.Proofs.Ytknekldnipdpeaa
open Go.RowKit Go.Shelf Go.Lib
attribute [local go_sem] Oper.semAt_some

section
variable {K : Nat → Prop}
set_option maxRecDepth 1000000 in
set_option maxHeartbeats 4000000 in
theorem kill_push (w : World) (g : Nat) (S : KS) (h : RAt K w g S) (way : Int) (v : Value) (l : List Int) (hv : Holds1 w v (runeVals l)) (hl : l.length ≤ 1024) (hw : (way = 0 ∧ l ≠ []) ∨ (S.es = [] ∧ (way = 1 ∨ way = 2))) : Calls Try.prog 11 #[.pointer (some ⟨g, 0, none⟩), .int .i64 way, v] w (KPost K w g 0 ⟨(l :: S.es).take 60, 0⟩) := by
  obtain ⟨A, c, rfl, _⟩ := id hv
  rw [runeVals_length] at hv ⊢
  obtain ⟨vs, nw, hr, he⟩ := h.row
  have CU := Lib.hid (usable_row w g hr.cells.c0)
  have CT := tooLong_any w A l.length c
  rw [decide_eq_false (by omega)] at CT
  have CT := Lib.hid CT
  have CC := Lib.hid (cloneRow w.drew _ l (hv.below ((Below.refl _ _).drew)) (by omega))
  have CP : Hid (∀ W A n c, Row W g vs nw S.es.length S.pl → Calls Try.prog 26 #[.pointer (some ⟨g, 1, none⟩), .slice A n c] W fun e w' => e = .returned (.tuple #[]) ∧ Row w' g (vs.set (nextS nw) (.slice A n c)) (nextS nw) (min (S.es.length + 1) 60) S.pl ∧ Touch (Only g) W w') := Lib.hid fun W A n c hW => push_any W g vs nw _ _ hW A n c
  have FIN : Hid (∀ w2 w3 A c, Below w.drew.heap.size w.drew w2 → RRow w2 w.drew.heap.size (.slice A l.length c) l → Touch (Only g) w2 w3 → Row w3 g (vs.set (nextS nw) (.slice A l.length c)) (nextS nw) (min (S.es.length + 1) 60) S.pl → RAt (More K w (w3.setCell ⟨g, 63, none⟩ (.int .i64 0))) (w3.setCell ⟨g, 63, none⟩ (.int .i64 0)) g ⟨(l :: S.es).take 60, 0⟩ ∧ Touch (Only g) w (w3.setCell ⟨g, 63, none⟩ (.int .i64 0))) := Lib.hid (by
    intro w2 w3 A c hb hrr ht hrow
    have hb1 : Below w.heap.size w w2 := ⟨hb.os, hb.tape, hb.output, hb.size, hb.block⟩
    have t2 : Touch (Only g) w2 (w3.setCell ⟨g, 63, none⟩ (.int .i64 0)) := ht.trans (only_set _ _ _ _)
    have t1 := (Touch.of_below (T := Only g) hb1).trans t2
    refine ⟨h.pushed hr he hl (hrow.place 0) ?_ t1, t1⟩
    have hrr2 : RRow (w3.setCell ⟨g, 63, none⟩ (.int .i64 0)) w.heap.size (.slice A l.length c) l := own_same hrr fun k hk => t2.block k (own_lt hrr k hk).2 fun e => by
      have := own_lt hrr k hk
      have hgl := h.lt
      simp only [Only] at e
      have h1 : w.drew.heap.size = w.heap.size := rfl
      omega
    exact RIn.own hrr2 fun k h1 h2 => .inr ⟨h1, h2⟩)
  have HR := Lib.hid hr
  have hlt : g < w.drew.heap.size := h.lt
  have HLT := Lib.hid hlt
  have i0 : (l.length = 0) = (l = []) := by simp
  have c62 := hr.cells.cn
  rcases hw with ⟨rfl, hne⟩ | ⟨hes, hw⟩
  · have i1 : (l.length = 0) = False := by rw [i0]; exact eq_false hne
    have i2 : ((l.length : Int) = 0) = False := eq_false (by simpa using hne)
    have i3 : ((l.length : Int) == 0) = false := by simpa using hne
    have i4 : (l = []) = False := eq_false hne
    generalize l.length = n at *
    clear h hr he hv hl hlt i0 c62 hne
    go_enter Try.func11, Try.ntmps11
    go_wp2_with (first
      | (go_at_call 24; refine (CU.out).mono ?_; rintro e w1 ⟨rfl, rfl⟩)
      | (go_at_call 25; refine (CT.out).mono ?_; rintro e w1 ⟨rfl, rfl⟩))
    go_region_with (first
      | (go_at_call 27; refine (CC.out).mono ?_; rintro e w2 ⟨A2, c2, rfl, hrr, hb⟩; have hrow := HR.out.same ((hb.block g HLT.out).trans rfl); have RR := Lib.hid hrr; have BB := Lib.hid hb; have RW := Lib.hid hrow; clear hrr hb hrow)
      | (go_at_call 26; refine (CP.out _ _ _ _ RW.out).mono ?_; rintro e w3 ⟨rfl, hrow3, ht3⟩; have FF := Lib.hid (FIN.out _ _ _ _ BB.out RR.out ht3 hrow3); have c63 := hrow3.cells.c63; have f63 := hrow3.cells.f 63; clear hrow3 ht3))
    all_goals
      go_wp2
      go_ret
      exact ⟨rfl, FF.out.1, FF.out.2⟩
  · rw [hes] at c62
    have hk : way ≠ 0 := by omega
    have i1 : (way = 0) = False := eq_false hk
    have i2 : (way == 0) = false := by simpa using hk
    have i3 : (way != 0) = true := by simpa using hk
    generalize l.length = n at *
    clear h hr he hv hl hlt i0 hk hes
    rcases hw with rfl | rfl
    all_goals
      go_enter Try.func11, Try.ntmps11
      go_wp2_with (first
        | (go_at_call 24; refine (CU.out).mono ?_; rintro e w1 ⟨rfl, rfl⟩)
        | (go_at_call 25; refine (CT.out).mono ?_; rintro e w1 ⟨rfl, rfl⟩))
      go_region_with (first
        | (go_at_call 27; refine (CC.out).mono ?_; rintro e w2 ⟨A2, c2, rfl, hrr, hb⟩; have hrow := HR.out.same ((hb.block g HLT.out).trans rfl); have RR := Lib.hid hrr; have BB := Lib.hid hb; have RW := Lib.hid hrow; clear hrr hb hrow)
        | (go_at_call 26; refine (CP.out _ _ _ _ RW.out).mono ?_; rintro e w3 ⟨rfl, hrow3, ht3⟩; have FF := Lib.hid (FIN.out _ _ _ _ BB.out RR.out ht3 hrow3); have c63 := hrow3.cells.c63; have f63 := hrow3.cells.f 63; clear hrow3 ht3))
      all_goals
        go_wp2
        go_ret
        exact ⟨rfl, FF.out.1, FF.out.2⟩
end
end Go.Proofs.Ytknekldnipdpeaa
