/-
  New, Add, From; and the law package's check that the program lives.
-/
import Derived.Test.YtojhppcnpjajaaaHlPush
namespace Go.Proofs.Ytojhppcnpjajaaa
open Go.RowKit Go.Shelf Go.Lib
attribute [local go_sem] Oper.semAt_some

/-- may so many lines be kept? -/
def okMost (m : Int) : Bool := decide (0 ≤ m ∧ m ≤ 4096)
theorem okMost_cases (m : Int) : okMost m = false ∨ ∃ k : Nat, m = (k : Int) ∧ k ≤ 4096 ∧ okMost (k : Int) = true := by
  cases h : okMost m with
  | false => exact .inl rfl
  | true =>
    have h2 : 0 ≤ m ∧ m ≤ 4096 := by simpa [okMost] using h
    exact .inr ⟨m.toNat, by omega, by omega, by rw [← h]; congr 1; omega⟩
set_option maxRecDepth 1000000 in
theorem validMost_any (w : World) (m : Int) : Calls Try.prog 43 #[.int .i64 m] w fun e w' => e = .returned (.bool (okMost m)) ∧ w = w' := by
  by_cases h0 : 0 ≤ m
  · have i0 : decide (0 ≤ m) = true := decide_eq_true h0
    have e : okMost m = decide (m ≤ 4096) := by unfold okMost; simp [h0]
    rw [e]
    clear e
    go_enter Try.func43, Try.ntmps43
    go_wp2
    go_ret
    exact ⟨rfl, rfl⟩
  · have i0 : decide (0 ≤ m) = false := decide_eq_false h0
    have e : okMost m = false := by unfold okMost; simp [h0]
    rw [e]
    clear e
    go_enter Try.func43, Try.ntmps43
    go_wp2
    go_ret
    exact ⟨rfl, rfl⟩
def hs0 (m : Nat) : HS := ⟨[], 1, m⟩
/-- a history that was made since w -/
structure FreshL (w w' : World) (g : Nat) (v : Value) (S : HS) : Prop where
  at' : LAt w' g v S
  below : Below w.heap.size w w'
  ge : ∀ k, Own g v k → w.heap.size ≤ k
theorem FreshL.next {w w1 w2 : World} {g : Nat} {v : Value} {S S' : HS} (h : FreshL w w1 g v S) (h2 : LPost w1 g v S' w2) : ∃ v', FreshL w w2 g v' S' := by
  obtain ⟨v', hl, ht, ho⟩ := h2
  exact ⟨v', hl, h.below.trans (ht.below h.below.size h.ge), fun k hk => hk.elim (fun e => h.ge k (.inl e)) fun e => (ho k e).elim (fun e => h.ge k (.inr e)) fun e => Nat.le_trans h.below.size e⟩
theorem FreshL.off {w w1 : World} {g : Nat} {v : Value} {S : HS} (h : FreshL w w1 g v S) {u : Value} {xs : List HL} (hu : HH w u xs) : HOff (Own g v) w1 u xs := fun _ hW => hu.below (h.below.trans (hW.below h.below.size h.ge))
theorem FreshL.more {w w1 w2 : World} {g : Nat} {v : Value} {S : HS} (h : FreshL w w1 g v S) (hb : Below w1.heap.size w1 w2) : FreshL w w2 g v S := ⟨h.at'.below hb, h.below.trans (hb.mono h.below.size), h.ge⟩
theorem FreshL.less {w0 w w1 : World} {g : Nat} {v : Value} {S : HS} (h : FreshL w w1 g v S) (hb : Below w0.heap.size w0 w) : FreshL w0 w1 g v S := ⟨h.at', hb.trans (h.below.mono hb.size), fun k hk => Nat.le_trans hb.size (h.ge k hk)⟩
set_option maxRecDepth 1000000 in
theorem new_ok (w : World) (m : Nat) (hm : m ≤ 4096) : Calls Try.prog 11 #[.int .i64 (m : Int)] w fun e w' => e = .returned (.tuple #[.pointer (some ⟨w.heap.size, 0, none⟩), .int .i64 0]) ∧ FreshL w w' w.heap.size (.slice none 0 0) (hs0 m) := by
  have CV := Lib.hid (validMost_any w m)
  have hok : okMost (m : Int) = true := by simp [okMost]; omega
  rw [hok] at CV
  have HM := Lib.hid hm
  clear hok hm
  go_enter Try.func11, Try.ntmps11
  go_wp2_with (go_at_call 43; refine (CV.out).mono ?_; rintro e w1 ⟨rfl, rfl⟩)
  go_ret2
  exact ⟨rfl, ⟨⟨alloc_new _ _, Seg.nil _ _ _, Nat.zero_le _, HM.out⟩, (Below.refl _ _).alloc (Nat.le_refl _) _, fun k hk => hk.elim (fun e => Nat.le_of_eq e.symm) fun e => by cases e⟩⟩
set_option maxRecDepth 1000000 in
theorem new_bad (w : World) (m : Int) (hm : okMost m = false) : Calls Try.prog 11 #[.int .i64 m] w fun e w' => e = .returned (.tuple #[.pointer none, .int .i64 1]) ∧ w = w' := by
  have CV := Lib.hid (validMost_any w m)
  rw [hm] at CV
  clear hm
  go_enter Try.func11, Try.ntmps11
  go_wp2_with (go_at_call 43; refine (CV.out).mono ?_; rintro e w1 ⟨rfl, rfl⟩)
  go_ret2
  exact ⟨rfl, rfl⟩
def addS (S : HS) (xs : List HL) : HS := if checkP xs = 0 then pushP S xs else S
theorem checkP_cases (xs : List HL) : checkP xs = 0 ∨ checkP xs = 3 ∨ checkP xs = 1 := by
  unfold checkP
  split
  · exact .inr (.inl rfl)
  · split
    · exact .inr (.inr rfl)
    · exact .inl rfl
set_option maxRecDepth 1000000 in
theorem Add_any (w : World) (g : Nat) (v : Value) (S : HS) (h : LAt w g v S) (u : Value) (xs : List HL) (hx : HOff (Own g v) w u xs) (hl : xs.length ≤ 140737488355328) : Calls Try.prog 20 #[.pointer (some ⟨g, 0, none⟩), u] w fun e w' => e = .returned (.int .i64 (checkP xs)) ∧ LPost w g v (addS S xs) w' := by
  obtain ⟨A, c, rfl⟩ := hx.now.form
  have CU := Lib.hid (usable_any w g h.cells.2.2.2)
  have CC := Lib.hid (check_any w _ xs hx.now hl)
  have HB : Hid (∀ W, Below w.heap.size w W → LPost w g v S W) := Lib.hid fun W hb => ⟨v, h.below hb, Touch.of_below hb, fun k hk => .inl hk⟩
  have HP : Hid (∀ W, Below w.heap.size w W → Calls Try.prog 55 #[.pointer (some ⟨g, 0, none⟩), .slice A xs.length c] W fun e w' => e = .returned (.tuple #[]) ∧ LPost w g v (pushP S xs) w') := Lib.hid fun W hb => by
    refine (push_any W g v S (h.below hb) _ xs (fun W' hW' => hx W' ((Touch.of_below hb).trans hW')) hl).mono ?_
    rintro e w' ⟨rfl, v', h1, h2, h3⟩
    exact ⟨rfl, v', h1, (Touch.of_below hb).trans h2, fun k hk => (h3 k hk).imp id fun e => Nat.le_trans hb.size e⟩
  clear h hx
  unfold addS
  rcases checkP_cases xs with hc | hc | hc
  · rw [hc, if_pos rfl]
    rw [hc] at CC
    clear hc hl
    go_enter Try.func20, Try.ntmps20
    go_wp2_with (first
      | (go_at_call 51; refine (CU.out).mono ?_; rintro e w1 ⟨rfl, rfl⟩)
      | (go_at_call 54; refine (CC.out).mono ?_; rintro e w1 ⟨rfl, hb⟩; have HB1 := Lib.hid hb; clear hb)
      | (go_at_call 55; refine (HP.out _ HB1.out).mono ?_; rintro e w1 ⟨rfl, hb⟩; have HL := Lib.hid hb; clear hb))
    go_ret
    exact ⟨rfl, HL.out⟩
  all_goals
    rw [hc, if_neg (by decide)]
    rw [hc] at CC
    clear hc hl
    go_enter Try.func20, Try.ntmps20
    go_wp2_with (first
      | (go_at_call 51; refine (CU.out).mono ?_; rintro e w1 ⟨rfl, rfl⟩)
      | (go_at_call 54; refine (CC.out).mono ?_; rintro e w1 ⟨rfl, hb⟩; have HB1 := Lib.hid hb; clear hb))
    go_ret
    exact ⟨rfl, HB.out _ HB1.out⟩
/-- what From answers -/
def fromErr (m : Int) (xs : List HL) : Int := if okMost m = true then checkP xs else 1
set_option maxRecDepth 1000000 in
theorem from_ok (w : World) (m : Nat) (hm : m ≤ 4096) (u : Value) (xs : List HL) (hu : HH w u xs) (hl : xs.length ≤ 140737488355328) (hc : checkP xs = 0) : Calls Try.prog 9 #[.int .i64 (m : Int), u] w fun e w' => ∃ g v, e = .returned (.tuple #[.pointer (some ⟨g, 0, none⟩), .int .i64 0]) ∧ FreshL w w' g v (pushP (hs0 m) xs) := by
  obtain ⟨A, c, rfl⟩ := hu.form
  have CN := Lib.hid (new_ok w m hm)
  have CA : Hid (∀ W, FreshL w W w.heap.size (.slice none 0 0) (hs0 m) → Calls Try.prog 20 #[.pointer (some ⟨w.heap.size, 0, none⟩), .slice A xs.length c] W fun e w' => e = .returned (.int .i64 0) ∧ ∃ v', FreshL w w' w.heap.size v' (pushP (hs0 m) xs)) := Lib.hid fun W hW => by
    refine (Add_any W _ _ _ hW.at' _ xs (hW.off hu) hl).mono ?_
    rintro e w' ⟨rfl, hp⟩
    unfold addS at hp
    rw [if_pos hc] at hp
    exact ⟨by rw [hc], hW.next hp⟩
  clear hu hl hc hm
  go_enter Try.func9, Try.ntmps9
  go_wp2_with (first
    | (go_at_call 11; refine (CN.out).mono ?_; rintro e w1 ⟨rfl, hf⟩; have HF := Lib.hid hf; clear hf)
    | (go_at_call 20; refine (CA.out _ HF.out).mono ?_; rintro e w2 ⟨rfl, v', hf⟩; have HF2 := Lib.hid hf; clear hf))
  go_ret2
  exact ⟨_, v', rfl, HF2.out⟩
set_option maxRecDepth 1000000 in
theorem from_bad (w : World) (m : Int) (u : Value) (xs : List HL) (hu : HH w u xs) (hl : xs.length ≤ 140737488355328) (hc : fromErr m xs ≠ 0) : Calls Try.prog 9 #[.int .i64 m, u] w fun e w' => e = .returned (.tuple #[.pointer none, .int .i64 (fromErr m xs)]) ∧ Below w.heap.size w w' := by
  obtain ⟨A, c, rfl⟩ := hu.form
  unfold fromErr at hc ⊢
  rcases okMost_cases m with hm | ⟨k, rfl, hk, hm⟩
  · rw [hm, if_neg (by decide)]
    have CN := Lib.hid (new_bad w m hm)
    clear hu hl hc hm
    go_enter Try.func9, Try.ntmps9
    go_wp2_with (go_at_call 11; refine (CN.out).mono ?_; rintro e w1 ⟨rfl, rfl⟩)
    go_ret2
    exact ⟨rfl, Below.refl _ _⟩
  · rw [hm, if_pos rfl] at hc ⊢
    have CN := Lib.hid (new_ok w k hk)
    have CA : Hid (∀ W, FreshL w W w.heap.size (.slice none 0 0) (hs0 k) → Calls Try.prog 20 #[.pointer (some ⟨w.heap.size, 0, none⟩), .slice A xs.length c] W fun e w' => e = .returned (.int .i64 (checkP xs)) ∧ Below w.heap.size w w') := Lib.hid fun W hW => by
      refine (Add_any W _ _ _ hW.at' _ xs (hW.off hu) hl).mono ?_
      rintro e w' ⟨rfl, hp⟩
      obtain ⟨v', hf⟩ := hW.next hp
      exact ⟨rfl, hf.below⟩
    rcases checkP_cases xs with h0 | h0 | h0
    · exact absurd h0 hc
    all_goals
      rw [h0] at CA ⊢
      clear hu hl hc hm h0
      go_enter Try.func9, Try.ntmps9
      go_wp2_with (first
        | (go_at_call 11; refine (CN.out).mono ?_; rintro e w1 ⟨rfl, hf⟩; have HF := Lib.hid hf; clear hf)
        | (go_at_call 20; refine (CA.out _ HF.out).mono ?_; rintro e w2 ⟨rfl, hb⟩; have HB := Lib.hid hb; clear hb))
      go_ret2
      exact ⟨rfl, HB.out⟩
end Go.Proofs.Ytojhppcnpjajaaa
