/-
  Rotations one by one tell each entry once, and come back: the loop.
-/
import Derived.Test.YtknekldnipdpeaaKrRoundW
namespace Go.Proofs.Ytknekldnipdpeaa
open Go.RowKit Go.Shelf Go.Lib
attribute [local go_sem] Oper.semAt_some

theorem rotate_at {K : Nat → Prop} (w : World) (g : Nat) (ls : List (List Int)) (pl q : Nat) (by' : Int) (x : List Int) (h : RAt K w g ⟨ls, pl⟩) (hp : pl < ls.length) (hq : q = rotP ls.length pl by') (hx : ls[q]? = some x) :
    Calls Try.prog 15 #[.pointer (some ⟨g, 0, none⟩), .int .i64 by'] w fun e w' => ∃ A c, e = .returned (.tuple #[.slice A x.length c, .int .i64 0]) ∧ RRow w' w.heap.size (.slice A x.length c) x ∧ RAt K w' g ⟨ls, q⟩ ∧ Touch (Only g) w w' := by
  obtain ⟨hql, he⟩ := List.getElem?_eq_some_iff.1 hx
  subst he
  exact rotate_some w g ⟨ls, pl⟩ h hp by' q hq hql
theorem yank_at {K : Nat → Prop} (w : World) (g : Nat) (ls : List (List Int)) (pl : Nat) (x : List Int) (h : RAt K w g ⟨ls, pl⟩) (hx : ls[pl]? = some x) :
    Calls Try.prog 13 #[.pointer (some ⟨g, 0, none⟩)] w fun e w' => ∃ A c, e = .returned (.tuple #[.slice A x.length c, .int .i64 0]) ∧ RRow w' w.heap.size (.slice A x.length c) x ∧ Below w.heap.size w w' := by
  obtain ⟨hql, he⟩ := List.getElem?_eq_some_iff.1 hx
  subst he
  exact yank_some w g ⟨ls, pl⟩ h hql
theorem eq_same (w : World) (x : List Int) (v u : Value) (hx : Holds1 w v (runeVals x)) (hy : Holds1 w u (runeVals x)) (hlen : x.length ≤ 140737488355328) :
    Calls Try.prog 18 #[v, u] w fun e w' => e = .returned (.bool true) ∧ Below w.heap.size w w' := by
  have := equal_any w x x v u hx hy hlen
  rwa [decide_eq_true rfl] at this
set_option maxRecDepth 1000000 in
set_option maxHeartbeats 8000000 in
theorem round_fwd (w : World) (ls : List (List Int)) (A : Option Addr) (n c : Nat) (h : Mat w (.slice A n c) ls) (hok : fromOk ls) (hpos : 0 < n) : Calls Try.prog 5 #[.slice A n c, .bool false] w fun e w' => e = .returned (.bool true) ∧ Below w.heap.size w w' := by
  have hn : n = ls.length := by
    obtain ⟨A', c', e⟩ := h.form
    injection e
  have CF := Lib.hid (from_ok w ls A n c h hok)
  have CL := Lib.hid fun W => live_any W
  have CN : Hid (∀ W g K, RAt K W g ⟨ls, 0⟩ → Calls Try.prog 22 #[.pointer (some ⟨g, 0, none⟩)] W fun e w' => e = .returned (.int .i64 (n : Int)) ∧ W = w') := Lib.hid fun W g K hR => by rw [hn]; exact len_any W g _ hR
  have HM := Lib.hid h
  have HN := Lib.hid hn
  have HP := Lib.hid hpos
  have H60 : Hid (n ≤ 60) := Lib.hid (by rw [hn]; exact hok.1)
  have p1 : ((n : Int) = 0) = False := eq_false (by omega)
  have p2 : (n = 0) = False := eq_false (by omega)
  have p3 : ((n : Int) == 0) = false := by simp; omega
  clear h hok hpos hn
  go_enter Try.func5, Try.ntmps5
  go_wp2_with (first
    | (go_at_call 20; refine (CF.out).mono ?_; rintro e w1 ⟨g, K, rfl, hr, _, hg, hb⟩; have R := Lib.hid hr; have B := Lib.hid hb; have HG := Lib.hid hg; clear hr hb hg)
    | (go_at_call 10; refine (CL.out _).mono ?_; rintro e w2 ⟨rfl, hb⟩; have R := Lib.hid (R.out.below hb); have B := Lib.hid (B.out.trans (hb.mono B.out.size)); clear hb)
    | (go_at_call 22; refine (CN.out _ _ _ R.out).mono ?_; rintro e w3 ⟨rfl, rfl⟩))
  go_loopw [46] (fun i wr => ∃ k : Nat, k ≤ n ∧ i = .int .i64 (k : Int) ∧ RAt K wr g ⟨ls, k % n⟩ ∧ Below w.heap.size w wr) (fun i _ => n - (RowKit.intOf i).toNat)
  case atStart => exact ⟨0, Nat.zero_le _, rfl, by rw [Nat.zero_mod]; exact R.out, B.out⟩
  case round =>
    obtain ⟨k, hk, rfl, hr, hb⟩ := hrel
    by_cases hlt : k < n
    · have hql : (k + 1) % n < ls.length := by rw [← HN.out]; exact Nat.mod_lt _ HP.out
      rw [Nat.mod_eq_of_lt hlt] at hr
      have hcur : k < ls.length := by rw [← HN.out]; exact hlt
      have hq : (k + 1) % n = rotP ls.length (k) 1 := by rw [← HN.out]; exact (rot_fwd hlt).symm
      obtain ⟨x, hx⟩ : ∃ x, ls[(k + 1) % n]? = some x := ⟨_, List.getElem?_eq_getElem hql⟩
      obtain ⟨bb, off, A2, c2, hA, hbl, hcell0, hh, hx1024⟩ := HM.out.at hx
      have hcell := (hb.cell (p := ⟨bb, off + ((k + 1) % n), none⟩) hbl).trans hcell0
      subst hA
      have CR := Lib.hid (rotate_at wr g ls (k) ((k + 1) % n) 1 x hr hcur hq hx)
      have CY := Lib.hid fun W (hR : RAt K W g ⟨ls, (k + 1) % n⟩) => yank_at W g ls ((k + 1) % n) x hR hx
      have EQ : Hid (∀ W B3 A3 c3, RRow W B3 (.slice A3 x.length c3) x → Below w.heap.size w W → Calls Try.prog 18 #[.slice A3 x.length c3, .slice A2 x.length c2] W fun e w' => e = .returned (.bool true) ∧ Below W.heap.size W w') := Lib.hid fun W B3 A3 c3 h1 h2 => eq_same W x _ _ h1.holds (hh.below h2) (by omega)
      have i2 : ((k : Int) < (n : Int)) = True := eq_true (by omega)
      have HB := Lib.hid hb
      have HLT := Lib.hid hlt
      have hwk : wrap64 ((k : Int) + 1) = (k : Int) + 1 := by have := H60.out; unfold wrap64; omega
      have q1 : (0 : Int) ≤ (((k + 1) % n : Nat) : Int) := by omega
      have q2 : ((((k + 1) % n : Nat) : Int) < (n : Int)) = True := eq_true (by have := HN.out; omega)
      have q3 : ((k + 1) % n < n) = True := eq_true (by have := HN.out; omega)
      have j1 : wrap64 ((k : Int) + 1) = ((k + 1 : Nat) : Int) := by have := H60.out; unfold wrap64; omega
      have j2 : ((k + 1 : Nat) : Int).tmod (n : Int) = (((k + 1) % n : Nat) : Int) := rfl
      have j3 : IntKind.i64.wrap ((k : Int) + 1) = ((k + 1 : Nat) : Int) := by have := H60.out; rw [IntWalk.i64_in _ (by omega)]; omega
      clear hql hcur hq hr hb hh hbl hx1024 hcell0 hx hlt hk hwk
      generalize hqq : (k + 1) % n = q at *
      have HQ := Lib.hid hqq
      generalize hk1 : k + 1 = k1 at *
      have HK1 := Lib.hid hk1
      clear hk1 hqq
      generalize x.length = xl at *
      go_wp2_with (first
        | (go_at_call 15; refine (CR.out).mono ?_; rintro e w4 ⟨A4, c4, rfl, hrr, hR, ht⟩; have RR := Lib.hid hrr; have R4 := Lib.hid hR; have T4 := Lib.hid ht; clear hrr hR ht)
        | (go_at_call 13; refine (CY.out _ R4.out).mono ?_; rintro e w5 ⟨A5, c5, rfl, hrr, hb⟩; have RY := Lib.hid hrr; have R5 := Lib.hid (R4.out.below hb); have RG := Lib.hid (RR.out.below hb); have HT5 : Hid (Touch (Only g) wr w5) := Lib.hid (T4.out.trans (Touch.of_below hb)); have B5 := Lib.hid (HB.out.trans (HT5.out.below HB.out.size fun k hk => by simp only [Only] at hk; have := HG.out; omega)); have tok1 : True := trivial; clear hrr hb)
        | (go_at_call 18; have tk := tok1; refine (EQ.out _ _ _ _ RG.out B5.out).mono ?_; rintro e w6 ⟨rfl, hb⟩; have R6 := Lib.hid (R5.out.below hb); have B6 := Lib.hid (B5.out.trans (hb.mono B5.out.size)); have RY6 := Lib.hid (RY.out.below hb); have tok2 : True := trivial; clear hb tk tok1)
        | (go_at_call 18; have tk := tok2; refine (EQ.out _ _ _ _ RY6.out B6.out).mono ?_; rintro e w7 ⟨rfl, hb⟩; have R7 := Lib.hid (R6.out.below hb); have B7 := Lib.hid (B6.out.trans (hb.mono B6.out.size)); clear hb tk tok2))
      go_roundw
      case rel => exact ⟨k1, by rw [← HK1.out]; exact HLT.out, rfl, by rw [HQ.out]; exact R7.out, B7.out⟩
      case measure =>
        have h1 := HLT.out
        have h2 := HK1.out
        simp [RowKit.intOf]
        omega
    · obtain rfl : k = n := by omega
      have i2 : ((k : Int) < (k : Int)) = False := by simp
      have B8 := Lib.hid hb
      clear hlt hk hr hb
      go_wp2
      go_ret
      exact ⟨rfl, B8.out⟩
set_option maxRecDepth 1000000 in
set_option maxHeartbeats 8000000 in
theorem round_bwd (w : World) (ls : List (List Int)) (A : Option Addr) (n c : Nat) (h : Mat w (.slice A n c) ls) (hok : fromOk ls) (hpos : 0 < n) : Calls Try.prog 5 #[.slice A n c, .bool true] w fun e w' => e = .returned (.bool true) ∧ Below w.heap.size w w' := by
  have hn : n = ls.length := by
    obtain ⟨A', c', e⟩ := h.form
    injection e
  have CF := Lib.hid (from_ok w ls A n c h hok)
  have CL := Lib.hid fun W => live_any W
  have CN : Hid (∀ W g K, RAt K W g ⟨ls, 0⟩ → Calls Try.prog 22 #[.pointer (some ⟨g, 0, none⟩)] W fun e w' => e = .returned (.int .i64 (n : Int)) ∧ W = w') := Lib.hid fun W g K hR => by rw [hn]; exact len_any W g _ hR
  have HM := Lib.hid h
  have HN := Lib.hid hn
  have HP := Lib.hid hpos
  have H60 : Hid (n ≤ 60) := Lib.hid (by rw [hn]; exact hok.1)
  have p1 : ((n : Int) = 0) = False := eq_false (by omega)
  have p2 : (n = 0) = False := eq_false (by omega)
  have p3 : ((n : Int) == 0) = false := by simp; omega
  clear h hok hpos hn
  go_enter Try.func5, Try.ntmps5
  go_wp2_with (first
    | (go_at_call 20; refine (CF.out).mono ?_; rintro e w1 ⟨g, K, rfl, hr, _, hg, hb⟩; have R := Lib.hid hr; have B := Lib.hid hb; have HG := Lib.hid hg; clear hr hb hg)
    | (go_at_call 10; refine (CL.out _).mono ?_; rintro e w2 ⟨rfl, hb⟩; have R := Lib.hid (R.out.below hb); have B := Lib.hid (B.out.trans (hb.mono B.out.size)); clear hb)
    | (go_at_call 22; refine (CN.out _ _ _ R.out).mono ?_; rintro e w3 ⟨rfl, rfl⟩))
  go_loopw [46] (fun i wr => ∃ k : Nat, k ≤ n ∧ i = .int .i64 (k : Int) ∧ RAt K wr g ⟨ls, plB n k⟩ ∧ Below w.heap.size w wr) (fun i _ => n - (RowKit.intOf i).toNat)
  case atStart => exact ⟨0, Nat.zero_le _, rfl, R.out, B.out⟩
  case round =>
    obtain ⟨k, hk, rfl, hr, hb⟩ := hrel
    by_cases hlt : k < n
    · have hql : n - 1 - k < ls.length := by have := HN.out; have := HP.out; omega
      have hcur : plB n k < ls.length := by rw [← HN.out]; unfold plB; split <;> omega
      have hq : n - 1 - k = rotP ls.length (plB n k) (-1) := by rw [← HN.out]; exact (rot_back hlt).symm
      obtain ⟨x, hx⟩ : ∃ x, ls[n - 1 - k]? = some x := ⟨_, List.getElem?_eq_getElem hql⟩
      obtain ⟨bb, off, A2, c2, hA, hbl, hcell0, hh, hx1024⟩ := HM.out.at hx
      have hcell := (hb.cell (p := ⟨bb, off + (n - 1 - k), none⟩) hbl).trans hcell0
      subst hA
      have CR := Lib.hid (rotate_at wr g ls (plB n k) (n - 1 - k) (-1) x hr hcur hq hx)
      have CY := Lib.hid fun W (hR : RAt K W g ⟨ls, n - 1 - k⟩) => yank_at W g ls (n - 1 - k) x hR hx
      have EQ : Hid (∀ W B3 A3 c3, RRow W B3 (.slice A3 x.length c3) x → Below w.heap.size w W → Calls Try.prog 18 #[.slice A3 x.length c3, .slice A2 x.length c2] W fun e w' => e = .returned (.bool true) ∧ Below W.heap.size W w') := Lib.hid fun W B3 A3 c3 h1 h2 => eq_same W x _ _ h1.holds (hh.below h2) (by omega)
      have i2 : ((k : Int) < (n : Int)) = True := eq_true (by omega)
      have HB := Lib.hid hb
      have HLT := Lib.hid hlt
      have hwk : wrap64 ((k : Int) + 1) = (k : Int) + 1 := by have := H60.out; unfold wrap64; omega
      have q1 : (0 : Int) ≤ ((n - 1 - k : Nat) : Int) := by omega
      have q2 : (((n - 1 - k : Nat) : Int) < (n : Int)) = True := eq_true (by have := HN.out; omega)
      have q3 : (n - 1 - k < n) = True := eq_true (by have := HN.out; omega)
      have j1 : wrap64 ((n : Int) - 1) = ((n - 1 : Nat) : Int) := by have := H60.out; have := HP.out; unfold wrap64; omega
      have j2 : wrap64 (((n - 1 : Nat) : Int) - (k : Int)) = ((n - 1 - k : Nat) : Int) := by have := H60.out; unfold wrap64; omega
      have j3 : IntKind.i64.wrap ((n : Int) - 1) = ((n - 1 : Nat) : Int) := by have := H60.out; have := HP.out; rw [IntWalk.i64_in _ (by omega)]; omega
      have j4 : IntKind.i64.wrap (((n - 1 : Nat) : Int) - (k : Int)) = ((n - 1 - k : Nat) : Int) := by have := H60.out; rw [IntWalk.i64_in _ (by omega)]; omega
      have HPB : Hid (plB n (k + 1) = n - 1 - k) := Lib.hid (plB_succ hlt)
      have hqf : (k + 1) % n < ls.length := by rw [← HN.out]; exact Nat.mod_lt _ HP.out
      obtain ⟨bb', off', A3, c3, hA', hbl', hcell0', -⟩ := HM.out.at (List.getElem?_eq_getElem hqf)
      injection hA' with hA'
      injection hA' with hA1 hA2
      subst hA1 hA2
      have hcellf := (hb.cell (p := ⟨bb, off + (k + 1) % n, none⟩) hbl').trans hcell0'
      have j5 : wrap64 ((k : Int) + 1) = ((k + 1 : Nat) : Int) := by have := H60.out; unfold wrap64; omega
      have j6 : ((k + 1 : Nat) : Int).tmod (n : Int) = (((k + 1) % n : Nat) : Int) := rfl
      have j7 : IntKind.i64.wrap ((k : Int) + 1) = ((k + 1 : Nat) : Int) := by have := H60.out; rw [IntWalk.i64_in _ (by omega)]; omega
      have q4 : (0 : Int) ≤ (((k + 1) % n : Nat) : Int) := by omega
      have q5 : ((((k + 1) % n : Nat) : Int) < (n : Int)) = True := eq_true (by have := HN.out; omega)
      have q6 : ((k + 1) % n < n) = True := eq_true (by have := HN.out; omega)
      generalize (ls[(k + 1) % n]).length = xlf at *
      clear hql hcur hq hr hb hh hbl hx1024 hcell0 hx hlt hk hcell0' hbl' hqf hwk
      generalize n - 1 - k = q at *
      generalize n - 1 = n1 at *
      generalize hqq : (k + 1) % n = qf at *
      clear hqq
      generalize hk1 : k + 1 = k1 at *
      have HK1 := Lib.hid hk1
      clear hk1
      generalize x.length = xl at *
      go_wp2_with (first
        | (go_at_call 15; refine (CR.out).mono ?_; rintro e w4 ⟨A4, c4, rfl, hrr, hR, ht⟩; have RR := Lib.hid hrr; have R4 := Lib.hid hR; have T4 := Lib.hid ht; clear hrr hR ht)
        | (go_at_call 13; refine (CY.out _ R4.out).mono ?_; rintro e w5 ⟨A5, c5, rfl, hrr, hb⟩; have RY := Lib.hid hrr; have R5 := Lib.hid (R4.out.below hb); have RG := Lib.hid (RR.out.below hb); have HT5 : Hid (Touch (Only g) wr w5) := Lib.hid (T4.out.trans (Touch.of_below hb)); have B5 := Lib.hid (HB.out.trans (HT5.out.below HB.out.size fun k hk => by simp only [Only] at hk; have := HG.out; omega)); have tok1 : True := trivial; clear hrr hb)
        | (go_at_call 18; have tk := tok1; refine (EQ.out _ _ _ _ RG.out B5.out).mono ?_; rintro e w6 ⟨rfl, hb⟩; have R6 := Lib.hid (R5.out.below hb); have B6 := Lib.hid (B5.out.trans (hb.mono B5.out.size)); have RY6 := Lib.hid (RY.out.below hb); have tok2 : True := trivial; clear hb tk tok1)
        | (go_at_call 18; have tk := tok2; refine (EQ.out _ _ _ _ RY6.out B6.out).mono ?_; rintro e w7 ⟨rfl, hb⟩; have R7 := Lib.hid (R6.out.below hb); have B7 := Lib.hid (B6.out.trans (hb.mono B6.out.size)); clear hb tk tok2))
      go_roundw
      case rel => exact ⟨k1, by rw [← HK1.out]; exact HLT.out, rfl, by rw [HPB.out]; exact R7.out, B7.out⟩
      case measure =>
        have h1 := HLT.out
        have h2 := HK1.out
        simp [RowKit.intOf]
        omega
    · obtain rfl : k = n := by omega
      have i2 : ((k : Int) < (k : Int)) = False := by simp
      have B8 := Lib.hid hb
      clear hlt hk hr hb
      go_wp2
      go_ret
      exact ⟨rfl, B8.out⟩
end Go.Proofs.Ytknekldnipdpeaa
