/-
  Plain lemmas: in whatever pieces bytes come, what a decoder tells in all is the runes of all. No program is walked here, and nothing is assumed.
-/
import Derived.Test.YtjoiagaadofndaaDoorPutP
namespace Go.Proofs.YtjoiagaadofndaaDoor
open Go.Lib

theorem byteAt_append (r t : List UInt8) (j : Nat) (h : j < r.length) : byteAt (r ++ t) j = byteAt r j := by
  unfold byteAt
  rw [List.getD_eq_getElem?_getD, List.getD_eq_getElem?_getD, List.getElem?_append_left h]

set_option maxHeartbeats 4000000 in
theorem slow_more (n m b0 b1 b2 b3 c1 c2 c3 sz lo hi : Nat) (hsz : 2 ≤ sz) (hsz4 : sz ≤ 4) (hm : n ≤ m) (e1 : 1 < n → c1 = b1) (e2 : 2 < n → c2 = b2) (e3 : 3 < n → c3 = b3)
    (hf : sz ≤ n ∨ (1 < n ∧ (b1 < lo ∨ hi < b1)) ∨ (2 < n ∧ (b2 < 128 ∨ 191 < b2))) : slowN m b0 c1 c2 c3 sz lo hi = slowN n b0 b1 b2 b3 sz lo hi := by
  by_cases h : sz ≤ n
  · have q1 : c1 = b1 := e1 (by omega)
    subst q1
    have n1 : ¬ n < sz := by omega
    have n2 : ¬ m < sz := by omega
    by_cases h3 : 3 ≤ sz
    · have q2 : c2 = b2 := e2 (by omega)
      subst q2
      by_cases h4 : 4 ≤ sz
      · have q3 : c3 = b3 := e3 (by omega)
        subst q3
        simp only [slowN, if_neg n1, if_neg n2]
      · have k3 : sz ≤ 3 := by omega
        simp only [slowN, if_neg n1, if_neg n2, if_pos k3]
    · have k2 : sz ≤ 2 := by omega
      simp only [slowN, if_neg n1, if_neg n2, if_pos k2]
  · have n1 : n < sz := by omega
    have hr : slowN n b0 b1 b2 b3 sz lo hi = (65533, 1) := by simp only [slowN, if_pos n1]
    rw [hr]
    by_cases hms : m < sz
    · simp only [slowN, if_pos hms]
    · rcases hf with hf | ⟨hf1, hf2⟩ | ⟨hf1, hf2⟩
      · omega
      · have q1 : c1 = b1 := e1 hf1
        subst q1
        simp only [slowN, if_neg hms, if_pos hf2]
      · have q2 : c2 = b2 := e2 hf1
        subst q2
        have k2 : ¬ sz ≤ 2 := by omega
        simp only [slowN, if_neg hms, if_neg k2, if_pos hf2]
        split <;> rfl

/-- what is determined stays so, whatever comes behind -/
theorem decodeN_more (n m b0 b1 b2 b3 c1 c2 c3 : Nat) (hn : 1 ≤ n) (hm : n ≤ m) (l0 : b0 < 256) (l1 : b1 < 256) (l2 : b2 < 256) (l3 : b3 < 256) (m1 : c1 < 256) (m2 : c2 < 256) (m3 : c3 < 256)
    (e1 : 1 < n → c1 = b1) (e2 : 2 < n → c2 = b2) (e3 : 3 < n → c3 = b3) (hf : fullN n b0 b1 b2 = true) : decodeN m b0 c1 c2 c3 = decodeN n b0 b1 b2 b3 := by
  unfold fullN at hf
  simp only [Bool.or_eq_true, Bool.and_eq_true, decide_eq_true_eq] at hf
  have key : ∀ x, firstT b0 = x → (x = 2 ∨ x = 19 ∨ x = 3 ∨ x = 35 ∨ x = 52 ∨ x = 4 ∨ x = 68) → decodeN m b0 c1 c2 c3 = decodeN n b0 b1 b2 b3 := fun x hX hx => by
    rw [hX] at hf
    rw [← slow_eq m b0 c1 c2 c3 (by omega) m1 m2 m3 (by rw [hX]; omega), ← slow_eq n b0 b1 b2 b3 hn l1 l2 l3 (by rw [hX]; omega), hX]
    exact slow_more n m b0 b1 b2 b3 c1 c2 c3 (x % 8) (accLo (x / 16)) (accHi (x / 16)) (by omega) (by omega) hm e1 e2 e3 (by omega)
  rcases firstT_cases b0 with hX | hX | hX | hX | hX | hX | hX | hX | hX
  · rw [ascii_eq _ _ _ _ _ hX, ascii_eq _ _ _ _ _ hX]
  · rw [bad_eq _ _ _ _ _ l0 hX, bad_eq _ _ _ _ _ l0 hX]
  all_goals exact key _ hX (by decide)

theorem dec_more (r t : List UInt8) (hf : fullP r = true) : dec (r ++ t) = dec r := by
  have hne := fullP_ne hf
  have hp : 1 ≤ r.length := List.length_pos_iff.2 hne
  have hf' : fullN r.length (byteAt r 0) (byteAt r 1) (byteAt r 2) = true := by
    unfold fullP at hf
    simp only [Bool.and_eq_true] at hf
    exact hf.2
  unfold dec
  rw [byteAt_append r t 0 hp]
  exact decodeN_more r.length (r ++ t).length _ _ _ _ _ _ _ hp (by simp) (byteAt_lt r 0) (byteAt_lt r 1) (byteAt_lt r 2) (byteAt_lt r 3) (byteAt_lt _ 1) (byteAt_lt _ 2) (byteAt_lt _ 3)
    (fun h => byteAt_append r t 1 h) (fun h => byteAt_append r t 2 h) (fun h => byteAt_append r t 3 h) hf'

/-- what Put tells, and what is left, are the runes -/
theorem put_more (t : List UInt8) (n : Nat) : ∀ r : List UInt8, r.length ≤ n → decAll (r ++ t) = (putAll r).1 ++ decAll ((putAll r).2 ++ t) := by
  intro r hr
  refine putAll_induct (fun r x => decAll (r ++ t) = x.1 ++ decAll (x.2 ++ t)) (fun r _ => rfl) (fun r x h hx => ?_) n r hr
  have hne := fullP_ne h
  have hb := dec_bounds r hne
  have hne' : r ++ t ≠ [] := fun e => hne (List.append_eq_nil_iff.1 e).1
  rw [decAll_step _ hne', dec_more r t h, List.drop_append_of_le_length hb.2.1, hx]
  rfl

/-- pieces, one after the other, from what is held on: what is told, and what is held then -/
def pieces : List UInt8 → List (List UInt8) → List Int × List UInt8
  | h, [] => ([], h)
  | h, p :: ps => ((putAll (h ++ p)).1 ++ (pieces (putAll (h ++ p)).2 ps).1, (pieces (putAll (h ++ p)).2 ps).2)
theorem pieces_all (ps : List (List UInt8)) : ∀ h : List UInt8, decAll (h ++ ps.flatten) = (pieces h ps).1 ++ decAll (pieces h ps).2 := by
  induction ps with
  | nil => intro h; simp [pieces]
  | cons p ps ih =>
    intro h
    rw [List.flatten_cons, ← List.append_assoc, put_more ps.flatten (h ++ p).length (h ++ p) (Nat.le_refl _), ih]
    simp [pieces]
theorem pieces_snoc (ps : List (List UInt8)) (p : List UInt8) : ∀ h : List UInt8, pieces h (ps ++ [p]) = ((pieces h ps).1 ++ (putAll ((pieces h ps).2 ++ p)).1, (putAll ((pieces h ps).2 ++ p)).2) := by
  induction ps with
  | nil => intro h; simp [pieces]
  | cons q ps ih => intro h; simp [pieces, ih]
theorem pieces_len (ps : List (List UInt8)) : ∀ h : List UInt8, h.length ≤ 3 → (pieces h ps).2.length ≤ 3 ∧ (pieces h ps).1.length + (pieces h ps).2.length ≤ h.length + ps.flatten.length := by
  induction ps with
  | nil => intro h hh; simp [pieces]; exact hh
  | cons p ps ih =>
    intro h _
    have h1 := putAll_rest (h ++ p)
    have h2 := ih (putAll (h ++ p)).2 h1.1
    refine ⟨h2.1, ?_⟩
    have h3 := h1.2
    have h4 := h2.2
    rw [List.length_append] at h3
    simp only [pieces, List.length_append, List.flatten_cons]
    omega

end Go.Proofs.YtjoiagaadofndaaDoor
