/-
  Plain functions: what a decoder tells of the bytes that it has, and what it holds behind that. No program is walked here, and nothing is assumed.
-/
import Derived.Test.YtjoiagaadofndaaDoorFull
namespace Go.Proofs.YtjoiagaadofndaaDoor
open Go.Lib

/-- runes are told as long as the bytes begin with a whole form, or with none; in n steps at most -/
def putF : Nat → List UInt8 → List Int × List UInt8
  | 0, r => ([], r)
  | n + 1, r => if fullP r = true then (((dec r).1 : Int) :: (putF n (r.drop (dec r).2)).1, (putF n (r.drop (dec r).2)).2) else ([], r)
def putAll (r : List UInt8) : List Int × List UInt8 := putF r.length r

theorem fullP_nil : fullP [] = false := rfl
theorem fullP_ne {r : List UInt8} (h : fullP r = true) : r ≠ [] := by
  rintro rfl
  rw [fullP_nil] at h
  cases h
theorem putF_enough (n : Nat) : ∀ (m : Nat) (r : List UInt8), r.length ≤ n → r.length ≤ m → putF n r = putF m r := by
  induction n with
  | zero =>
    intro m r hn _
    obtain rfl : r = [] := List.eq_nil_of_length_eq_zero (by omega)
    cases m with
    | zero => rfl
    | succ m => simp [putF, fullP_nil]
  | succ n ih =>
    intro m r hn hm
    cases m with
    | zero =>
      obtain rfl : r = [] := List.eq_nil_of_length_eq_zero (by omega)
      simp [putF, fullP_nil]
    | succ m =>
      simp only [putF]
      by_cases hf : fullP r = true
      · have hb := dec_bounds r (fullP_ne hf)
        rw [if_pos hf, if_pos hf, ih m _ (by simp; omega) (by simp; omega)]
      · rw [if_neg hf, if_neg hf]
theorem putAll_step {r : List UInt8} (h : fullP r = true) : putAll r = (((dec r).1 : Int) :: (putAll (r.drop (dec r).2)).1, (putAll (r.drop (dec r).2)).2) := by
  have hne := fullP_ne h
  have hb := dec_bounds r hne
  have hp := List.length_pos_iff.2 hne
  obtain ⟨k, hk⟩ : ∃ k, r.length = k + 1 := ⟨r.length - 1, by omega⟩
  unfold putAll
  rw [hk]
  simp only [putF]
  rw [if_pos h, putF_enough k (r.drop (dec r).2).length _ (by simp; omega) (Nat.le_refl _)]
theorem putAll_stop {r : List UInt8} (h : fullP r = false) : putAll r = ([], r) := by
  unfold putAll
  cases hl : r.length with
  | zero => rfl
  | succ k => simp [putF, h]

theorem full_short {r : List UInt8} (h : fullP r = false) : r.length ≤ 3 := by
  by_cases h0 : 0 < r.length
  · unfold fullP fullN at h
    have hd : decide (0 < r.length) = true := by simpa using h0
    rw [hd] at h
    simp only [Bool.true_and, Bool.or_eq_false_iff, decide_eq_false_iff_not] at h
    have h1 := h.1.1
    rcases firstT_cases (byteAt r 0) with hX | hX | hX | hX | hX | hX | hX | hX | hX <;> (rw [hX] at h1; omega)
  · omega
theorem putAll_induct (P : List UInt8 → List Int × List UInt8 → Prop) (hs : ∀ r, fullP r = false → P r ([], r))
    (hn : ∀ r x, fullP r = true → P (r.drop (dec r).2) x → P r (((dec r).1 : Int) :: x.1, x.2)) : ∀ (n : Nat) (r : List UInt8), r.length ≤ n → P r (putAll r) := by
  intro n
  induction n with
  | zero =>
    intro r hr
    obtain rfl : r = [] := List.eq_nil_of_length_eq_zero (by omega)
    exact hs [] fullP_nil
  | succ n ih =>
    intro r hr
    by_cases hf : fullP r = true
    · have hb := dec_bounds r (fullP_ne hf)
      rw [putAll_step hf]
      exact hn r _ hf (ih _ (by simp; omega))
    · have hf' : fullP r = false := by simpa using hf
      rw [putAll_stop hf']
      exact hs r hf'
theorem putAll_rest (r : List UInt8) : (putAll r).2.length ≤ 3 ∧ (putAll r).1.length + (putAll r).2.length ≤ r.length :=
  putAll_induct (fun r x => x.2.length ≤ 3 ∧ x.1.length + x.2.length ≤ r.length) (fun r h => ⟨full_short h, by simp⟩)
    (fun r x h hx => by
      have hb := dec_bounds r (fullP_ne h)
      refine ⟨hx.1, ?_⟩
      have := hx.2
      simp at this ⊢
      omega) r.length r (Nat.le_refl _)

/-- the bytes that a decoder holds -/
def heldOf (h0 h1 h2 : UInt8) (n : Nat) : List UInt8 := [h0, h1, h2].take n

end Go.Proofs.YtjoiagaadofndaaDoor
