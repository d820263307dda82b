/-
  Plain lemmas: the document's way to the rune at the head of a list of bytes, and the library's, come to the same. No program is walked here, and nothing is assumed.
-/
import Derived.Test.YtjoiagaadofndaaDoorHead
namespace Go.Proofs.YtjoiagaadofndaaDoor
open Go.Lib

/-- the rune of a whole form of n bytes -/
def valN (n b0 b1 b2 b3 : Nat) : Nat :=
  if n = 1 then b0 else if n = 2 then b0 % 32 * 64 + b1 % 64 else if n = 3 then b0 % 16 * 4096 + b1 % 64 * 64 + b2 % 64 else b0 % 8 * 262144 + b1 % 64 * 4096 + b2 % 64 * 64 + b3 % 64

theorem head1 (s : List UInt8) : headFrom s 1 1 1 = (1, 1) := by simp [headFrom]
theorem head2 (s : List UInt8) : headFrom s 2 2 1 = if 1 < s.length then (if badAt s 1 = true then (0, 2) else (2, 2)) else (1, 2) := by
  by_cases h1 : 1 < s.length <;> simp [headFrom, h1]
theorem head3 (s : List UInt8) : headFrom s 3 3 1 = if 1 < s.length then (if badAt s 1 = true then (0, 3) else if 2 < s.length then (if badAt s 2 = true then (0, 3) else (3, 3)) else (2, 3)) else (1, 3) := by
  by_cases h1 : 1 < s.length <;> by_cases h2 : 2 < s.length <;> simp [headFrom, h1, h2]
theorem head4 (s : List UInt8) : headFrom s 4 4 1 = if 1 < s.length then (if badAt s 1 = true then (0, 4) else if 2 < s.length then (if badAt s 2 = true then (0, 4) else if 3 < s.length then (if badAt s 3 = true then (0, 4) else (4, 4)) else (3, 4)) else (2, 4)) else (1, 4) := by
  by_cases h1 : 1 < s.length <;> by_cases h2 : 2 < s.length <;> by_cases h3 : 3 < s.length <;> simp [headFrom, h1, h2, h3]

theorem bad1 (s : List UInt8) : badAt s 1 = !secP (byteAt s 0) (byteAt s 1) := by
  unfold badAt
  cases h : secP (byteAt s 0) (byteAt s 1)
  · simp
  · have : 128 ≤ byteAt s 1 ∧ byteAt s 1 ≤ 191 := secP_in h
    simp
    omega
theorem badJ (s : List UInt8) (j : Nat) (h : j ≠ 1) : badAt s j = (decide (byteAt s j < 128) || decide (191 < byteAt s j)) := by simp [badAt, h]

theorem form2 (n b0 b1 b2 b3 lo hi : Nat) (S : Bool) (hS : S = decide (lo ≤ b1 ∧ b1 ≤ hi)) (x : Nat × Nat) (hx : x = if 1 < n then (if (!S) = true then (0, 2) else (2, 2)) else (1, 2)) :
    slowN n b0 b1 b2 b3 2 lo hi = if decide (x.1 = x.2 ∧ 0 < x.2) = true then (valN x.2 b0 b1 b2 b3, x.2) else (65533, 1) := by
  subst hx hS
  by_cases h1 : 1 < n
  · have n2 : ¬ n < 2 := by omega
    by_cases hs : lo ≤ b1 ∧ b1 ≤ hi
    · have hs' : ¬ (b1 < lo ∨ hi < b1) := by omega
      simp [slowN, valN, h1, n2, hs, hs']
    · have hs' : b1 < lo ∨ hi < b1 := by omega
      simp [slowN, h1, n2, hs, hs']
  · have n2 : n < 2 := by omega
    simp [slowN, h1, n2]
theorem form3 (n b0 b1 b2 b3 lo hi : Nat) (S : Bool) (hS : S = decide (lo ≤ b1 ∧ b1 ≤ hi)) (x : Nat × Nat)
    (hx : x = if 1 < n then (if (!S) = true then (0, 3) else if 2 < n then (if (decide (b2 < 128) || decide (191 < b2)) = true then (0, 3) else (3, 3)) else (2, 3)) else (1, 3)) :
    slowN n b0 b1 b2 b3 3 lo hi = if decide (x.1 = x.2 ∧ 0 < x.2) = true then (valN x.2 b0 b1 b2 b3, x.2) else (65533, 1) := by
  subst hx hS
  by_cases h1 : 1 < n
  · by_cases h2 : 2 < n
    · have n3 : ¬ n < 3 := by omega
      by_cases hs : lo ≤ b1 ∧ b1 ≤ hi
      · have hs' : ¬ (b1 < lo ∨ hi < b1) := by omega
        by_cases ht : b2 < 128 ∨ 191 < b2
        · simp [slowN, h1, h2, n3, hs, hs', ht]
        · simp [slowN, valN, h1, h2, n3, hs, hs', ht]
      · have hs' : b1 < lo ∨ hi < b1 := by omega
        simp [slowN, h1, n3, hs, hs']
    · have n3 : n < 3 := by omega
      by_cases hs : lo ≤ b1 ∧ b1 ≤ hi <;> simp [slowN, h1, h2, n3, hs]
  · have n3 : n < 3 := by omega
    simp [slowN, h1, n3]
theorem form4 (n b0 b1 b2 b3 lo hi : Nat) (S : Bool) (hS : S = decide (lo ≤ b1 ∧ b1 ≤ hi)) (x : Nat × Nat)
    (hx : x = if 1 < n then (if (!S) = true then (0, 4) else if 2 < n then (if (decide (b2 < 128) || decide (191 < b2)) = true then (0, 4) else if 3 < n then (if (decide (b3 < 128) || decide (191 < b3)) = true then (0, 4) else (4, 4)) else (3, 4)) else (2, 4)) else (1, 4)) :
    slowN n b0 b1 b2 b3 4 lo hi = if decide (x.1 = x.2 ∧ 0 < x.2) = true then (valN x.2 b0 b1 b2 b3, x.2) else (65533, 1) := by
  subst hx hS
  by_cases h1 : 1 < n
  · by_cases h2 : 2 < n
    · by_cases h3 : 3 < n
      · have n4 : ¬ n < 4 := by omega
        by_cases hs : lo ≤ b1 ∧ b1 ≤ hi
        · have hs' : ¬ (b1 < lo ∨ hi < b1) := by omega
          by_cases ht : b2 < 128 ∨ 191 < b2
          · simp [slowN, h1, h2, n4, hs, hs', ht]
          · by_cases hu : b3 < 128 ∨ 191 < b3
            · simp [slowN, h1, h2, h3, n4, hs, hs', ht, hu]
            · simp [slowN, valN, h1, h2, h3, n4, hs, hs', ht, hu]
        · have hs' : b1 < lo ∨ hi < b1 := by omega
          simp [slowN, h1, n4, hs, hs']
      · have n4 : n < 4 := by omega
        by_cases hs : lo ≤ b1 ∧ b1 ≤ hi <;> by_cases ht : b2 < 128 ∨ 191 < b2 <;> simp [slowN, h1, h2, h3, n4, hs, ht]
    · have n4 : n < 4 := by omega
      by_cases hs : lo ≤ b1 ∧ b1 ≤ hi <;> simp [slowN, h1, h2, n4, hs]
  · have n4 : n < 4 := by omega
    simp [slowN, h1, n4]

/-- the answer of Head, as numbers -/
def isFull (s : List UInt8) : Bool := decide ((headP s).1 = (headP s).2 ∧ 0 < (headP s).2)

set_option maxHeartbeats 4000000 in
theorem head_dec (s : List UInt8) (h : s ≠ []) : dec s = if isFull s = true then (valN (headP s).2 (byteAt s 0) (byteAt s 1) (byteAt s 2) (byteAt s 3), (headP s).2) else (65533, 1) := by
  have hp : 1 ≤ s.length := List.length_pos_iff.2 h
  have hl : ¬ s.length = 0 := by omega
  have l0 := byteAt_lt s 0
  have l1 := byteAt_lt s 1
  have l2 := byteAt_lt s 2
  have l3 := byteAt_lt s 3
  have hb1 := bad1 s
  have hb2 := badJ s 2 (by decide)
  have hb3 := badJ s 3 (by decide)
  have hH : headP s = if needP (byteAt s 0) = 0 then (0, 0) else headFrom s (needP (byteAt s 0)) (needP (byteAt s 0)) 1 := by simp [headP, hl]
  unfold isFull
  rw [hH]
  unfold dec
  have e1 := head1 s
  have e2 := head2 s
  have e3 := head3 s
  have e4 := head4 s
  rw [hb1] at e2 e3 e4
  rw [hb2] at e3 e4
  rw [hb3] at e4
  generalize byteAt s 0 = b0 at *
  generalize byteAt s 1 = b1 at *
  generalize byteAt s 2 = b2 at *
  generalize byteAt s 3 = b3 at *
  generalize s.length = n at *
  clear hb1 hb2 hb3 hH h hl
  rcases (show b0 < 128 ∨ (128 ≤ b0 ∧ b0 < 194) ∨ (194 ≤ b0 ∧ b0 < 224) ∨ b0 = 224 ∨ (225 ≤ b0 ∧ b0 < 237 ∨ 238 ≤ b0 ∧ b0 < 240) ∨ b0 = 237 ∨ b0 = 240 ∨ (241 ≤ b0 ∧ b0 < 244) ∨ b0 = 244 ∨ 245 ≤ b0 by omega) with c | c | c | c | c | c | c | c | c | c
  · have hn : needP b0 = 1 := by unfold needP; rw [if_pos c]
    rw [hn, e1]
    simp [valN, decodeN, c]
  · have hn : needP b0 = 0 := by unfold needP; repeat (first | rw [if_neg (by omega)])
    rw [hn]
    simp
    unfold decodeN
    repeat' split
    all_goals first | rfl | (exfalso; omega)
  · have hn : needP b0 = 2 := by unfold needP; rw [if_neg (by omega), if_pos (by omega)]
    rw [hn, ← slow_C2 n b0 b1 b2 b3 hp l1 l2 l3 c, if_neg (show ¬ (2 : Nat) = 0 by decide)]
    exact form2 n b0 b1 b2 b3 128 191 (secP b0 b1) (by unfold secP loP hiP; rw [if_neg (by omega), if_neg (by omega), if_neg (by omega), if_neg (by omega)]) _ e2
  · have hn : needP b0 = 3 := by unfold needP; rw [if_neg (by omega), if_neg (by omega), if_pos (by omega)]
    rw [hn, ← slow_E0 n b0 b1 b2 b3 hp l1 l2 l3 c, if_neg (show ¬ (3 : Nat) = 0 by decide)]
    exact form3 n b0 b1 b2 b3 160 191 (secP b0 b1) (by unfold secP loP hiP; subst c; rfl) _ e3
  · have hn : needP b0 = 3 := by unfold needP; rw [if_neg (by omega), if_neg (by omega), if_pos (by omega)]
    rw [hn, ← slow_E1 n b0 b1 b2 b3 hp l1 l2 l3 c, if_neg (show ¬ (3 : Nat) = 0 by decide)]
    exact form3 n b0 b1 b2 b3 128 191 (secP b0 b1) (by unfold secP loP hiP; rw [if_neg (by omega), if_neg (by omega), if_neg (by omega), if_neg (by omega)]) _ e3
  · have hn : needP b0 = 3 := by unfold needP; rw [if_neg (by omega), if_neg (by omega), if_pos (by omega)]
    rw [hn, ← slow_ED n b0 b1 b2 b3 hp l1 l2 l3 c, if_neg (show ¬ (3 : Nat) = 0 by decide)]
    exact form3 n b0 b1 b2 b3 128 159 (secP b0 b1) (by unfold secP loP hiP; subst c; rfl) _ e3
  · have hn : needP b0 = 4 := by unfold needP; rw [if_neg (by omega), if_neg (by omega), if_neg (by omega), if_pos (by omega)]
    rw [hn, ← slow_F0 n b0 b1 b2 b3 hp l1 l2 l3 c, if_neg (show ¬ (4 : Nat) = 0 by decide)]
    exact form4 n b0 b1 b2 b3 144 191 (secP b0 b1) (by unfold secP loP hiP; subst c; rfl) _ e4
  · have hn : needP b0 = 4 := by unfold needP; rw [if_neg (by omega), if_neg (by omega), if_neg (by omega), if_pos (by omega)]
    rw [hn, ← slow_F1 n b0 b1 b2 b3 hp l1 l2 l3 c, if_neg (show ¬ (4 : Nat) = 0 by decide)]
    exact form4 n b0 b1 b2 b3 128 191 (secP b0 b1) (by unfold secP loP hiP; rw [if_neg (by omega), if_neg (by omega), if_neg (by omega), if_neg (by omega)]) _ e4
  · have hn : needP b0 = 4 := by unfold needP; rw [if_neg (by omega), if_neg (by omega), if_neg (by omega), if_pos (by omega)]
    rw [hn, ← slow_F4 n b0 b1 b2 b3 hp l1 l2 l3 c, if_neg (show ¬ (4 : Nat) = 0 by decide)]
    exact form4 n b0 b1 b2 b3 128 143 (secP b0 b1) (by unfold secP loP hiP; subst c; rfl) _ e4
  · have hn : needP b0 = 0 := by unfold needP; repeat (first | rw [if_neg (by omega)])
    rw [hn]
    simp
    unfold decodeN
    repeat' split
    all_goals first | rfl | (exfalso; omega)

end Go.Proofs.YtjoiagaadofndaaDoor
