/-
  Plain lemmas: the shape of the cells that runes occupy. No program is spoken of here, and nothing is assumed.
-/
import Derived.Test.YtalfodcjpnjmaabDoorCellsP
import Derived.Laws.Cover4
namespace Go.Proofs.YtalfodcjpnjmaabDoor

/-- one cell, p telling whether the cell ahead of it is wide -/
def okCel (p : Bool) (c : Cel) : Prop :=
  (c.2 = 0 ↔ p = true) ∧ (c.1.size = 0 ↔ p = true) ∧ 0 ≤ c.2 ∧ c.2 ≤ 2 ∧ c.1.size ≤ 36
/-- a list of cells behind p: each is well, and it does not end in a wide one -/
def okCels : Bool → List Cel → Prop
  | p, [] => p = false
  | p, c :: l => okCel p c ∧ okCels (decide (c.2 = 2)) l

theorem encode_pos (r : Int) : 1 ≤ (Utf8.encode r).size := by
  unfold Utf8.encode
  simp only
  repeat' split
  all_goals simp [ByteArray.size]
theorem nar_ok (r : Int) : okCel false (nar r) := by
  have h1 := encode_pos r
  have h2 := encode_size_le r
  refine ⟨by simp [nar], ?_, by simp [nar], by simp [nar], by simp only [nar]; omega⟩
  simp only [nar]
  constructor
  · intro h; omega
  · intro h; cases h
theorem okCels_append {p : Bool} {l m : List Cel} (h : okCels p l) (hm : okCels false m) : okCels p (l ++ m) := by
  induction l generalizing p with
  | nil => simp only [okCels] at h; subst h; exact hm
  | cons c l ih => exact ⟨h.1, ih h.2⟩
theorem okCels_one {c : Cel} (h : okCel false c) (h2 : c.2 ≠ 2) : okCels false [c] := ⟨h, by simp [okCels, h2]⟩
theorem okCels_nar (r : Int) : okCels false [nar r] := okCels_one (nar_ok r) (by simp [nar])
theorem okCels_rep (r : Int) (n : Nat) : okCels false (List.replicate n (nar r)) := by
  induction n with
  | zero => rfl
  | succ n ih => exact ⟨nar_ok r, by simpa [nar] using ih⟩
theorem okCels_wide (r : Int) : okCels false [(Utf8.encode r, 2), (ByteArray.empty, 0)] := by
  have h1 := encode_pos r
  have h2 := encode_size_le r
  refine ⟨⟨by simp, ⟨fun h => ?_, fun h => by cases h⟩, by simp, by simp, by simp only; omega⟩, ⟨by simp, by simp, by simp, by simp, by simp⟩, by simp [okCels]⟩
  simp only at h
  omega
theorem okCels_set {p : Bool} {l : List Cel} {j : Nat} {s : ByteArray} (h : okCels p l) (hj : j < l.length) (h0 : ¬ (l.getD j (ByteArray.empty, 0)).1.size = 0) (hs : ¬ s.size = 0) (h36 : s.size ≤ 36) :
    okCels p (l.set j (s, (l.getD j (ByteArray.empty, 0)).2)) := by
  induction l generalizing p j with
  | nil => simp at hj
  | cons c l ih =>
    cases j with
    | zero =>
      obtain ⟨⟨a1, a2, a3, a4, a5⟩, hr⟩ := h
      have hp : p = false := by
        simp only [List.getD_cons_zero] at h0
        cases p
        · rfl
        · exact absurd (a2.2 rfl) h0
      subst hp
      refine ⟨⟨a1, ⟨fun h => absurd h hs, fun h => by cases h⟩, a3, a4, h36⟩, hr⟩
    | succ j => exact ⟨h.1, ih h.2 (by simpa using hj) (by simpa using h0)⟩
theorem size_append (a b : ByteArray) : (a ++ b).size = a.size + b.size := ByteArray.size_append
theorem okCels_comb {l : List Cel} (r : Int) (h : okCels false l) : ∀ k, k ≤ l.length → okCels false (combP l r k) := by
  intro k
  have h1 := encode_pos r
  have h2 := encode_size_le r
  induction k with
  | zero =>
    intro _
    refine okCels_append h (okCels_one ⟨by simp, ⟨fun h => ?_, fun h => by cases h⟩, by simp, by simp, ?_⟩ (by simp))
    · simp only [size_append] at h
      omega
    · simp only [size_append]
      have : (ByteArray.mk #[32]).size = 1 := rfl
      omega
  | succ k ih =>
    intro hk
    simp only [combP]
    split
    · exact ih (by omega)
    · split
      · next h0 h32 =>
        refine okCels_set h (by omega) h0 ?_ ?_
        · rw [size_append]; omega
        · rw [size_append]; omega
      · exact h
theorem okCels_rune {l : List Cel} (r : Int) (start : Nat) (h : okCels false l) : okCels false (runeP l r start) := by
  unfold runeP
  repeat' split
  · exact okCels_append h (okCels_rep _ _)
  · exact okCels_append h (okCels_append (okCels_nar _) (okCels_nar _))
  · exact okCels_append h (okCels_nar _)
  · exact okCels_comb r h _ (Nat.le_refl _)
  · exact okCels_append h (okCels_wide r)
  · exact okCels_append h (okCels_nar _)
theorem okCels_all (start : Nat) (rs : List Int) : okCels false (cellsP start rs) := by
  suffices H : ∀ l : List Cel, okCels false l → okCels false (rs.foldl (fun l r => runeP l r start) l) from H [] rfl
  induction rs with
  | nil => intro l h; exact h
  | cons r rs ih => intro l h; exact ih _ (okCels_rune r start h)

theorem vals3 (l : List Cel) : ∀ j, j < l.length → (cellsVals l)[j * 3]? = some (.string (l.getD j (ByteArray.empty, 0)).1) ∧ (cellsVals l)[j * 3 + 1]? = some (.int .i64 (l.getD j (ByteArray.empty, 0)).2) ∧ (cellsVals l)[j * 3 + 2]? = some (.int .i64 0) := by
  induction l with
  | nil => intro j h; simp at h
  | cons c l ih =>
    intro j h
    cases j with
    | zero => exact ⟨rfl, rfl, rfl⟩
    | succ j =>
      obtain ⟨e0, e1, e2⟩ := ih j (by simpa using h)
      rw [show (j + 1) * 3 = j * 3 + 1 + 1 + 1 by omega]
      refine ⟨by simpa [cellsVals, celVals, List.flatMap_cons] using e0, ?_, ?_⟩
      · rw [show j * 3 + 1 + 1 + 1 + 1 = (j * 3 + 1) + 1 + 1 + 1 by omega]
        simpa [cellsVals, celVals, List.flatMap_cons] using e1
      · rw [show j * 3 + 1 + 1 + 1 + 2 = (j * 3 + 2) + 1 + 1 + 1 by omega]
        simpa [cellsVals, celVals, List.flatMap_cons] using e2

/-- what holds of cell k -/
theorem okCels_at {p : Bool} {l : List Cel} (h : okCels p l) : ∀ k, k < l.length → okCel (if k = 0 then p else decide ((l.getD (k - 1) (ByteArray.empty, 0)).2 = 2)) (l.getD k (ByteArray.empty, 0)) := by
  induction l generalizing p with
  | nil => intro k hk; simp at hk
  | cons c l ih =>
    intro k hk
    cases k with
    | zero => exact h.1
    | succ k =>
      have := ih h.2 k (by simpa using hk)
      cases k with
      | zero => simpa using this
      | succ k => simpa using this
theorem okCels_last {p : Bool} {l : List Cel} (h : okCels p l) (hl : 0 < l.length) : (l.getD (l.length - 1) (ByteArray.empty, 0)).2 ≠ 2 := by
  induction l generalizing p with
  | nil => simp at hl
  | cons c l ih =>
    cases l with
    | nil =>
      have := h.2
      simp only [okCels, decide_eq_false_iff_not] at this
      simpa using this
    | cons d l => simpa using ih h.2 (by simp)

end Go.Proofs.YtalfodcjpnjmaabDoor
