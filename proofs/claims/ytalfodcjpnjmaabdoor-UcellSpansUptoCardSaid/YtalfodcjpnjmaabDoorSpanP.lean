/-
  Plain lemmas: how many cells a list of runes occupies, and two lists one behind the other. No program is spoken of here, and nothing is assumed.
-/
import Derived.Test.YtalfodcjpnjmaabDoorWideP
namespace Go.Proofs.YtalfodcjpnjmaabDoor

/-- a cell has a text -/
def hasText (l : List Cel) : Bool := l.any fun c => c.1.size != 0
/-- by how many cells a rune makes a list longer, in place s of its row of eight, t telling whether a cell has a text -/
def delta (r : Int) (s : Nat) (t : Bool) : Nat :=
  if r = 9 then 8 - s else if ctl r = true ∧ r ≤ 127 then 2 else if ctl r = true ∨ vld r = false then 1 else if wid r = 0 then (if t then 0 else 1) else if wid r = 2 then 2 else 1
def lenF (start : Nat) : Bool → Nat → List Int → Nat
  | _, n, [] => n
  | t, n, r :: rs => lenF start true (n + delta r ((start + n) % 8) t) rs

theorem hasText_append (l m : List Cel) : hasText (l ++ m) = (hasText l || hasText m) := by simp [hasText]
theorem hasText_nar (r : Int) : hasText [nar r] = true := by
  have := encode_pos r
  simp [hasText, nar]
  intro h
  simp [h] at this
theorem hasText_enc (r : Int) (x : Int) (l : List Cel) : hasText ((Utf8.encode r, x) :: l) = true := by
  have := encode_pos r
  simp only [hasText, List.any_cons, Bool.or_eq_true]
  left
  simp only [bne_iff_ne, ne_eq]
  omega
theorem hasText_set (l : List Cel) (j : Nat) (s : ByteArray) (y : Int) (hj : j < l.length) (hs : ¬ s.size = 0) : hasText (l.set j (s, y)) = true := by
  simp only [hasText, List.any_eq_true]
  exact ⟨(s, y), List.mem_set hj _, by simpa using hs⟩
theorem getD_at (l : List Cel) (j : Nat) (hj : j < l.length) : l.getD j (ByteArray.empty, 0) = l[j] := by simp [hj]
theorem hasText_at (l : List Cel) (j : Nat) (hj : j < l.length) (h : ¬ (l.getD j (ByteArray.empty, 0)).1.size = 0) : hasText l = true := by
  simp only [hasText, List.any_eq_true]
  refine ⟨l[j], List.getElem_mem hj, ?_⟩
  rw [getD_at _ _ hj] at h
  simpa using h

theorem comb_len (l : List Cel) (r : Int) : ∀ k, k ≤ l.length → (∀ j, k ≤ j → j < l.length → (l.getD j (ByteArray.empty, 0)).1.size = 0) →
    (combP l r k).length = l.length + (if hasText l = true then 0 else 1) ∧ hasText (combP l r k) = true := by
  have h1 := encode_pos r
  intro k
  induction k with
  | zero =>
    intro _ hz
    have hn : hasText l = false := by
      rw [Bool.eq_false_iff]
      intro h
      simp only [hasText, List.any_eq_true] at h
      obtain ⟨c, hc, hs⟩ := h
      obtain ⟨j, hj, rfl⟩ := List.getElem_of_mem hc
      have := hz j (Nat.zero_le _) hj
      rw [getD_at _ _ hj] at this
      simp [this] at hs
    refine ⟨by simp [combP, hn], ?_⟩
    simp only [combP, hasText_append, Bool.or_eq_true]
    right
    simp only [hasText, List.any_cons, List.any_nil, Bool.or_false, bne_iff_ne, ne_eq, size_append]
    omega
  | succ k ih =>
    intro hk hz
    simp only [combP]
    split
    · next h0 =>
      exact ih (by omega) fun j hj hl => by
        rcases Nat.eq_or_lt_of_le hj with rfl | hlt
        · exact h0
        · exact hz j hlt hl
    · next h0 =>
      have ht := hasText_at l k (by omega) h0
      split
      · refine ⟨by simp, hasText_set l k _ _ (by omega) ?_⟩
        rw [size_append]
        omega
      · exact ⟨by simp, ht⟩
theorem rune_len (l : List Cel) (r : Int) (start : Nat) :
    (runeP l r start).length = l.length + delta r ((start + l.length) % 8) (hasText l) ∧ hasText (runeP l r start) = true := by
  unfold runeP delta
  by_cases h9 : r = 9
  · rw [if_pos h9, if_pos h9]
    refine ⟨by simp [tabP], ?_⟩
    simp only [tabP, hasText_append, Bool.or_eq_true]
    right
    obtain ⟨k, hk⟩ : ∃ k, 8 - (start + l.length) % 8 = k + 1 := ⟨7 - (start + l.length) % 8, by omega⟩
    rw [hk, List.replicate_succ]
    exact hasText_enc 32 1 _
  · rw [if_neg h9, if_neg h9]
    by_cases hc : ctl r = true ∧ r ≤ 127
    · rw [if_pos hc, if_pos hc]
      exact ⟨by simp, by rw [hasText_append]; simp [nar, hasText_enc]⟩
    · rw [if_neg hc, if_neg hc]
      by_cases hb : ctl r = true ∨ vld r = false
      · rw [if_pos hb, if_pos hb]
        exact ⟨by simp, by rw [hasText_append, hasText_nar]; simp⟩
      · rw [if_neg hb, if_neg hb]
        by_cases h0 : wid r = 0
        · rw [if_pos h0, if_pos h0]
          have := comb_len l r l.length (Nat.le_refl _) (fun j h1 h2 => by omega)
          refine ⟨?_, this.2⟩
          rw [this.1]
        · rw [if_neg h0, if_neg h0]
          by_cases h2 : wid r = 2
          · rw [if_pos h2, if_pos h2]
            exact ⟨by simp, by rw [hasText_append, hasText_enc]; simp⟩
          · rw [if_neg h2, if_neg h2]
            exact ⟨by simp, by rw [hasText_append, hasText_nar]; simp⟩
theorem fold_len (start : Nat) (rs : List Int) : ∀ l : List Cel, (rs.foldl (fun l r => runeP l r start) l).length = lenF start (hasText l) l.length rs := by
  induction rs with
  | nil => intro l; rfl
  | cons r rs ih =>
    intro l
    obtain ⟨h1, h2⟩ := rune_len l r start
    simp only [List.foldl_cons, lenF]
    rw [ih, h1, h2]
theorem lenF_shift (start m : Nat) (rs : List Int) : ∀ (t : Bool) (n : Nat), lenF start t (m + n) rs = m + lenF ((start + m) % 8) t n rs := by
  induction rs with
  | nil => intro t n; rfl
  | cons r rs ih =>
    intro t n
    simp only [lenF]
    rw [show (start + (m + n)) % 8 = ((start + m) % 8 + n) % 8 by omega, Nat.add_assoc, ih]
theorem lenF_any (start n : Nat) (r : Int) (rs : List Int) (h : ctl r = true ∨ vld r = false ∨ ¬ wid r = 0) (t t' : Bool) : lenF start t n (r :: rs) = lenF start t' n (r :: rs) := by
  have : ∀ s, delta r s t = delta r s t' := fun s => by
    unfold delta
    repeat' split
    all_goals first | rfl | (exfalso; rcases h with h | h | h <;> simp_all)
  simp only [lenF, this]

/-- TWO LISTS, ONE BEHIND THE OTHER -/
theorem span_two (start : Nat) (a b : List Int) (h : ∀ r rs, b = r :: rs → ctl r = true ∨ vld r = false ∨ ¬ wid r = 0) :
    (cellsP start (a ++ b)).length = (cellsP start a).length + (cellsP ((start + (cellsP start a).length) % 8) b).length := by
  unfold cellsP
  rw [List.foldl_append, fold_len start b, fold_len _ b []]
  have := lenF_shift start (a.foldl (fun l r => runeP l r start) []).length b (hasText (a.foldl (fun l r => runeP l r start) [])) 0
  rw [Nat.add_zero] at this
  rw [this]
  congr 1
  cases b with
  | nil => rfl
  | cons r rs => exact lenF_any _ _ r rs (h r rs rfl) _ _

end Go.Proofs.YtalfodcjpnjmaabDoor
