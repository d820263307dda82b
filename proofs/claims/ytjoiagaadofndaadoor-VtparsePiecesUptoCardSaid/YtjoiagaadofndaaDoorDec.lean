/-
  Plain functions on bytes and runes: the rune at the head of a list of bytes, and all the runes of such a list. No program is spoken of here, and nothing is assumed.
-/
import Derived.Shelf.Unicode.DecodeSlow
namespace Go.Proofs.YtjoiagaadofndaaDoor
open Go.Lib

/-- the number at place j of a list of bytes, 0 behind its end -/
def byteAt (s : List UInt8) (j : Nat) : Nat := (s.getD j 0).toNat
/-- the rune at the head of a list of bytes, and how many bytes it takes -/
def dec (s : List UInt8) : Nat × Nat := decodeN s.length (byteAt s 0) (byteAt s 1) (byteAt s 2) (byteAt s 3)
/-- all runes of a list of bytes, in n steps at most -/
def decF : Nat → List UInt8 → List Int
  | 0, _ => []
  | _ + 1, [] => []
  | n + 1, b :: s => ((dec (b :: s)).1 : Int) :: decF n ((b :: s).drop (dec (b :: s)).2)
def decAll (s : List UInt8) : List Int := decF s.length s

theorem byteAt_lt (s : List UInt8) (j : Nat) : byteAt s j < 256 := by
  unfold byteAt
  exact (s.getD j 0).toNat_lt
theorem decodeN_bounds (n b0 b1 b2 b3 : Nat) (hn : 1 ≤ n) (h0 : b0 < 256) :
    1 ≤ (decodeN n b0 b1 b2 b3).2 ∧ (decodeN n b0 b1 b2 b3).2 ≤ n ∧ (decodeN n b0 b1 b2 b3).2 ≤ 4 ∧ (decodeN n b0 b1 b2 b3).1 ≤ 1114111 := by
  unfold decodeN
  repeat' split
  all_goals simp only
  all_goals omega
theorem dec_bounds (s : List UInt8) (h : s ≠ []) : 1 ≤ (dec s).2 ∧ (dec s).2 ≤ s.length ∧ (dec s).2 ≤ 4 ∧ (dec s).1 ≤ 1114111 :=
  decodeN_bounds _ _ _ _ _ (List.length_pos_iff.2 h) (byteAt_lt s 0)

theorem decF_enough (n : Nat) : ∀ (m : Nat) (s : List UInt8), s.length ≤ n → s.length ≤ m → decF n s = decF m s := by
  induction n with
  | zero =>
    intro m s hs _
    obtain rfl : s = [] := List.eq_nil_of_length_eq_zero (by omega)
    cases m <;> rfl
  | succ n ih =>
    intro m s hs hm
    cases s with
    | nil => cases m <;> rfl
    | cons b s =>
      cases m with
      | zero => simp at hm
      | succ m =>
        have hb := dec_bounds (b :: s) (by simp)
        simp only [decF]
        rw [ih m _ (by simp at hs ⊢; omega) (by simp at hm ⊢; omega)]
theorem decAll_nil : decAll [] = [] := rfl
theorem decAll_step (s : List UInt8) (h : s ≠ []) : decAll s = ((dec s).1 : Int) :: decAll (s.drop (dec s).2) := by
  cases s with
  | nil => exact absurd rfl h
  | cons b s =>
    have hb := dec_bounds (b :: s) (by simp)
    show decF (s.length + 1) (b :: s) = _
    simp only [decF, decAll]
    rw [decF_enough s.length _ _ (by simp; omega) (Nat.le_refl _)]
theorem decAll_length (n : Nat) : ∀ s : List UInt8, s.length ≤ n → (decAll s).length ≤ s.length := by
  induction n with
  | zero =>
    intro s hs
    obtain rfl : s = [] := List.eq_nil_of_length_eq_zero (by omega)
    simp [decAll, decF]
  | succ n ih =>
    intro s hs
    by_cases h : s = []
    · subst h; simp [decAll, decF]
    · have hb := dec_bounds s h
      rw [decAll_step s h]
      have := ih (s.drop (dec s).2) (by simp; omega)
      simp at this ⊢
      omega
theorem decAll_le (s : List UInt8) : (decAll s).length ≤ s.length := decAll_length s.length s (Nat.le_refl _)
theorem decAll_small (n : Nat) : ∀ s : List UInt8, s.length ≤ n → ∀ x ∈ decAll s, 0 ≤ x ∧ x ≤ 1114111 := by
  induction n with
  | zero =>
    intro s hs
    obtain rfl : s = [] := List.eq_nil_of_length_eq_zero (by omega)
    simp [decAll, decF]
  | succ n ih =>
    intro s hs x hx
    by_cases h : s = []
    · subst h; simp [decAll, decF] at hx
    · have hb := dec_bounds s h
      rw [decAll_step s h] at hx
      rcases List.mem_cons.1 hx with rfl | hx
      · omega
      · exact ih (s.drop (dec s).2) (by simp; omega) x hx

theorem decodeGo_list (s : List UInt8) (h : s ≠ []) : decodeGo ⟨s.toArray⟩ = dec s := by
  have hl : s.length ≠ 0 := fun e => h (List.eq_nil_of_length_eq_zero e)
  have hs : (ByteArray.mk s.toArray).size = s.length := by simp [ByteArray.size]
  unfold decodeGo dec
  rw [if_neg (by rw [hs]; exact hl), decode_at, hs, Nat.sub_zero]
  simp [byteAt, ByteArray.get!, List.getD]
  rfl

end Go.Proofs.YtjoiagaadofndaaDoor
