/-
  Words: the law's walk.
-/
import Derived.Test.YtepbhmebidmnbaaDoorBfMot
namespace Go.Proofs.YtepbhmebidmnbaaDoor
open Go.RowKit Go.Shelf Go.Lib
attribute [local go_sem] Oper.semAt_some

theorem placeN_at {n k : Nat} (h : k ≤ n) : placeN n (k : Int) = k := by unfold placeN; omega
theorem aheads_ge (l : List Int) : ∀ (ps : List (Int → Bool)) (q : Nat), q ≤ aheads l ps q
  | [], _ => Nat.le_refl _
  | p :: ps, q => Nat.le_trans (aheadN_ge l p q) (aheads_ge l ps _)
theorem aheads_end (l : List Int) : ∀ (ps : List (Int → Bool)), aheads l ps l.length = l.length
  | [] => rfl
  | p :: ps => by
    show aheads l ps (aheadN l p l.length) = _
    rw [aheadN_end (Nat.le_refl _)]
    exact aheads_end l ps
set_option maxRecDepth 1000000 in
set_option maxHeartbeats 8000000 in
theorem words_walk (w : World) (hT : WidTab w) (l : List Int) (lv : Value) (hl : Holds1 w lv (runeVals l)) (hlen : l.length ≤ 35184372088832) (k : Int) :
    Calls Tryd.prog 7 #[lv, .int .i64 k] w fun e w' => e = .returned (.bool true) ∧ Below w.heap.size w w' := by
  obtain ⟨A, c, rfl, _⟩ := id hl
  rw [runeVals_length] at hl ⊢
  have CL := Lib.hid fun W (h : Below w.heap.size w W) => live_any W (hT.below h)
  by_cases h0 : k < 0
  · have i0 : (k < 0) = True := by simp; exact h0
    generalize l.length = n at *
    clear h0 hl hT hlen
    go_enter Tryd.func7, Tryd.ntmps7
    go_wp2_with (go_at_call 13; refine (CL.out _ (Below.refl _ _)).mono ?_; rintro e w1 ⟨rfl, hb⟩)
    go_ret
    exact ⟨rfl, hb⟩
  have i0 : (k < 0) = False := by simp; omega
  by_cases h1 : (l.length : Int) < k
  · have i1 : ((l.length : Int) < k) = True := by simp; exact h1
    generalize l.length = n at *
    clear h0 h1 hl hT hlen
    go_enter Tryd.func7, Tryd.ntmps7
    go_wp2_with (go_at_call 13; refine (CL.out _ (Below.refl _ _)).mono ?_; rintro e w1 ⟨rfl, hb⟩)
    go_ret
    exact ⟨rfl, hb⟩
  obtain ⟨j, rfl⟩ : ∃ j : Nat, k = j := ⟨k.toNat, by omega⟩
  have hj : j ≤ l.length := by omega
  obtain ⟨s, hs⟩ : ∃ s, s = wordStartP l (j : Int) := ⟨_, rfl⟩
  obtain ⟨t, ht⟩ : ∃ t, t = wordEndP l (j : Int) := ⟨_, rfl⟩
  obtain ⟨s2, hs2⟩ : ∃ s2, s2 = wordStartP l (s : Int) := ⟨_, rfl⟩
  obtain ⟨t2, ht2⟩ : ∃ t2, t2 = wordEndP l (t : Int) := ⟨_, rfl⟩
  obtain ⟨m, hm⟩ : ∃ m, m = nextP l (j : Int) := ⟨_, rfl⟩
  obtain ⟨p, hp⟩ : ∃ p, p = prevP l (j : Int) := ⟨_, rfl⟩
  have f1 : s ≤ j := by
    rw [hs]
    unfold wordStartP
    have := backs_le l [fun r => !letter r, letter] (placeN l.length j)
    rw [placeN_at hj] at this ⊢
    exact this
  have f2 : j ≤ t ∧ t ≤ l.length := by
    rw [ht]
    unfold wordEndP
    rw [placeN_at hj]
    exact ⟨aheads_ge _ _ _, aheads_le _ _ _ hj⟩
  have f3 : s2 ≤ s := by
    rw [hs2]
    unfold wordStartP
    have := backs_le l [fun r => !letter r, letter] (placeN l.length s)
    rw [placeN_at (Nat.le_trans f1 hj)] at this ⊢
    exact this
  have f4 : t ≤ t2 := by
    rw [ht2]
    unfold wordEndP
    rw [placeN_at f2.2]
    exact aheads_ge _ _ _
  have f5 : j ≤ m ∧ m ≤ l.length ∧ (j = l.length ↔ m = j) := by
    rw [hm]
    unfold nextP
    rw [placeN_at hj]
    by_cases he : j = l.length
    · subst he
      have e : placeN l.length ((l.length + 1 : Nat) : Int) = l.length := by unfold placeN; omega
      rw [e, aheads_end]
      exact ⟨Nat.le_refl _, Nat.le_refl _, by simp⟩
    · have e : placeN l.length ((j + 1 : Nat) : Int) = j + 1 := placeN_at (by omega)
      rw [e]
      have h1 := aheads_ge l [fun r => !beginsP r] (j + 1)
      have h2 := aheads_le l [fun r => !beginsP r] (j + 1) (by omega)
      exact ⟨by omega, h2, by constructor <;> intro h <;> omega⟩
  have f6 : p ≤ j ∧ (j = 0 ↔ p = j) := by
    rw [hp]
    unfold prevP
    rw [placeN_at hj]
    have := backs_le l [fun r => !beginsP r] j
    exact ⟨by omega, by constructor <;> intro h <;> omega⟩
  have C1 : Hid (∀ W, Below w.heap.size w W → Calls Tryd.prog 27 #[.slice A l.length c, .int .i64 (j : Int)] W fun e w' => e = .returned (.int .i64 (s : Int)) ∧ Below W.heap.size W w') := Lib.hid fun W h => by rw [hs]; exact wordStart_any W (hT.below h) l A c (hl.below h) (by omega) j
  have C2 : Hid (∀ W, Below w.heap.size w W → Calls Tryd.prog 25 #[.slice A l.length c, .int .i64 (j : Int)] W fun e w' => e = .returned (.int .i64 (t : Int)) ∧ Below W.heap.size W w') := Lib.hid fun W h => by rw [ht]; exact wordEnd_any W (hT.below h) l A c (hl.below h) (by omega) j
  have C3 : Hid (∀ W, Below w.heap.size w W → Calls Tryd.prog 27 #[.slice A l.length c, .int .i64 (s : Int)] W fun e w' => e = .returned (.int .i64 (s2 : Int)) ∧ Below W.heap.size W w') := Lib.hid fun W h => by rw [hs2]; exact wordStart_any W (hT.below h) l A c (hl.below h) (by omega) s
  have C4 : Hid (∀ W, Below w.heap.size w W → Calls Tryd.prog 25 #[.slice A l.length c, .int .i64 (t : Int)] W fun e w' => e = .returned (.int .i64 (t2 : Int)) ∧ Below W.heap.size W w') := Lib.hid fun W h => by rw [ht2]; exact wordEnd_any W (hT.below h) l A c (hl.below h) (by omega) t
  have C5 : Hid (∀ W, Below w.heap.size w W → Calls Tryd.prog 21 #[.slice A l.length c, .int .i64 (j : Int)] W fun e w' => e = .returned (.int .i64 (m : Int)) ∧ Below W.heap.size W w') := Lib.hid fun W h => by rw [hm]; exact next_any W (hT.below h) l A c (hl.below h) (by omega) j
  have C6 : Hid (∀ W, Below w.heap.size w W → Calls Tryd.prog 23 #[.slice A l.length c, .int .i64 (j : Int)] W fun e w' => e = .returned (.int .i64 (p : Int)) ∧ Below W.heap.size W w') := Lib.hid fun W h => by rw [hp]; exact previous_any W (hT.below h) l A c (hl.below h) (by omega) j
  have B := Lib.hid (Below.refl w.heap.size w)
  have tok1 : True := trivial
  clear hs ht hs2 ht2 hm hp hl hT hlen h0 h1
  generalize l.length = n at *
  have a1 : ((s : Int) < 0) = False := by simp
  have a2 : ((j : Int) < (s : Int)) = False := by simp; omega
  have a3 : ((t : Int) < (j : Int)) = False := by simp; omega
  have a4 : ((n : Int) < (t : Int)) = False := by simp; omega
  have a5 : ((s : Int) < (s2 : Int)) = False := by simp; omega
  have a6 : ((t2 : Int) < (t : Int)) = False := by simp; omega
  have a7 : ((j : Int) ≤ (m : Int)) = True := by simp; omega
  have a8 : ((m : Int) ≤ (n : Int)) = True := by simp; omega
  have a9 : ((p : Int) ≤ (j : Int)) = True := by simp; omega
  have b2 : (j < s) = False := by simp; omega
  have b3 : (t < j) = False := by simp; omega
  have b4 : (n < t) = False := by simp; omega
  have b5 : (s < s2) = False := by simp; omega
  have b6 : (t2 < t) = False := by simp; omega
  have b7 : (j ≤ m) = True := by simp; omega
  have b8 : (m ≤ n) = True := by simp; omega
  have b9 : (p ≤ j) = True := by simp; omega
  have i1 : ((n : Int) < (j : Int)) = False := by simp; omega
  have i2 : (n < j) = False := by simp; omega
  have g1 : (((j : Int) == (n : Int)) == ((m : Int) == (j : Int))) = true := by
    have := f5.2.2
    rw [beq_iff_eq, Bool.eq_iff_iff, beq_iff_eq, beq_iff_eq]
    omega
  have g2 : (((j : Int) == 0) == ((p : Int) == (j : Int))) = true := by
    have := f6.2
    rw [beq_iff_eq, Bool.eq_iff_iff, beq_iff_eq, beq_iff_eq]
    omega
  clear f1 f2 f3 f4 f5 f6 hj
  go_enter Tryd.func7, Tryd.ntmps7
  go_wp2_with (first
    | (go_at_call 27; have tk := tok1; refine (C1.out _ B.out).mono ?_; rintro e w1 ⟨rfl, hb⟩; have B := Lib.hid (B.out.trans (hb.mono B.out.size)); have tok2 : True := trivial; clear hb tk tok1)
    | (go_at_call 25; have tk := tok2; refine (C2.out _ B.out).mono ?_; rintro e w2 ⟨rfl, hb⟩; have B := Lib.hid (B.out.trans (hb.mono B.out.size)); have tok3 : True := trivial; clear hb tk tok2)
    | (go_at_call 27; have tk := tok3; refine (C3.out _ B.out).mono ?_; rintro e w3 ⟨rfl, hb⟩; have B := Lib.hid (B.out.trans (hb.mono B.out.size)); have tok4 : True := trivial; clear hb tk tok3)
    | (go_at_call 25; have tk := tok4; refine (C4.out _ B.out).mono ?_; rintro e w4 ⟨rfl, hb⟩; have B := Lib.hid (B.out.trans (hb.mono B.out.size)); clear hb tk tok4)
    | (go_at_call 21; refine (C5.out _ B.out).mono ?_; rintro e w5 ⟨rfl, hb⟩; have B := Lib.hid (B.out.trans (hb.mono B.out.size)); clear hb)
    | (go_at_call 23; refine (C6.out _ B.out).mono ?_; rintro e w6 ⟨rfl, hb⟩; have B := Lib.hid (B.out.trans (hb.mono B.out.size)); clear hb)
    | (go_at_call 13; refine (CL.out _ B.out).mono ?_; rintro e w7 ⟨rfl, hb⟩; have B := Lib.hid (B.out.trans (hb.mono B.out.size)); clear hb))
  go_ret
  exact ⟨rfl, B.out⟩
end Go.Proofs.YtepbhmebidmnbaaDoor
