/-
  Plain lemmas: the document's decoder tells a rune just where the library's does. No program is walked here, and nothing is assumed.
-/
import Derived.Test.YtjoiagaadofndaaDoorHeadP
import Derived.Test.YtjoiagaadofndaaDoorPutP
namespace Go.Proofs.YtjoiagaadofndaaDoor
open Go.Lib

/-- the document's decoder waits: all bytes are the beginning of a form that is not whole -/
def waits (s : List UInt8) : Bool := decide (0 < (headP s).1 ∧ (headP s).1 = s.length)

theorem wait2 (n b1 b2 lo hi : Nat) (hn : 1 ≤ n) (S : Bool) (hS : S = decide (lo ≤ b1 ∧ b1 ≤ hi)) (x : Nat × Nat) (hx : x = if 1 < n then (if (!S) = true then (0, 2) else (2, 2)) else (1, 2)) :
    (decide (2 ≤ n) || (decide (1 < n) && (decide (b1 < lo) || decide (hi < b1))) || (decide (2 < n) && (decide (b2 < 128) || decide (191 < b2)))) = (decide (x.1 = x.2 ∧ 0 < x.2) || !decide (0 < x.1 ∧ x.1 = n)) := by
  subst hx hS
  by_cases h1 : 1 < n
  · have n2 : 2 ≤ n := by omega
    by_cases hs : lo ≤ b1 ∧ b1 ≤ hi <;> simp [h1, n2, hs]
  · obtain rfl : n = 1 := by omega
    simp
theorem wait3 (n b1 b2 lo hi : Nat) (hn : 1 ≤ n) (S : Bool) (hS : S = decide (lo ≤ b1 ∧ b1 ≤ hi)) (x : Nat × Nat)
    (hx : x = if 1 < n then (if (!S) = true then (0, 3) else if 2 < n then (if (decide (b2 < 128) || decide (191 < b2)) = true then (0, 3) else (3, 3)) else (2, 3)) else (1, 3)) :
    (decide (3 ≤ n) || (decide (1 < n) && (decide (b1 < lo) || decide (hi < b1))) || (decide (2 < n) && (decide (b2 < 128) || decide (191 < b2)))) = (decide (x.1 = x.2 ∧ 0 < x.2) || !decide (0 < x.1 ∧ x.1 = n)) := by
  subst hx hS
  by_cases h1 : 1 < n
  · by_cases h2 : 2 < n
    · have n3 : 3 ≤ n := by omega
      by_cases hs : lo ≤ b1 ∧ b1 ≤ hi
      · by_cases ht : b2 < 128 ∨ 191 < b2 <;> simp [h1, h2, n3, hs, ht]
      · simp [h1, n3, hs]
    · obtain rfl : n = 2 := by omega
      by_cases hs : lo ≤ b1 ∧ b1 ≤ hi
      · simp [hs]
      · have hs' : b1 < lo ∨ hi < b1 := by omega
        simp [hs, hs']
  · obtain rfl : n = 1 := by omega
    simp
theorem wait4 (n b1 b2 b3 lo hi : Nat) (hn : 1 ≤ n) (S : Bool) (hS : S = decide (lo ≤ b1 ∧ b1 ≤ hi)) (x : Nat × Nat)
    (hx : x = if 1 < n then (if (!S) = true then (0, 4) else if 2 < n then (if (decide (b2 < 128) || decide (191 < b2)) = true then (0, 4) else if 3 < n then (if (decide (b3 < 128) || decide (191 < b3)) = true then (0, 4) else (4, 4)) else (3, 4)) else (2, 4)) else (1, 4)) :
    (decide (4 ≤ n) || (decide (1 < n) && (decide (b1 < lo) || decide (hi < b1))) || (decide (2 < n) && (decide (b2 < 128) || decide (191 < b2)))) = (decide (x.1 = x.2 ∧ 0 < x.2) || !decide (0 < x.1 ∧ x.1 = n)) := by
  subst hx hS
  by_cases h1 : 1 < n
  · by_cases h2 : 2 < n
    · by_cases h3 : 3 < n
      · have n4 : 4 ≤ n := by omega
        by_cases hs : lo ≤ b1 ∧ b1 ≤ hi
        · by_cases ht : b2 < 128 ∨ 191 < b2
          · simp [h1, h2, n4, hs, ht]
          · by_cases hu : b3 < 128 ∨ 191 < b3 <;> simp [h1, h2, h3, n4, hs, ht, hu]
        · simp [h1, n4, hs]
      · obtain rfl : n = 3 := by omega
        by_cases hs : lo ≤ b1 ∧ b1 ≤ hi
        · by_cases ht : b2 < 128 ∨ 191 < b2
          · simp [hs, ht]
          · simp [hs, ht]
            omega
        · have hs' : b1 < lo ∨ hi < b1 := by omega
          simp [hs, hs']
    · obtain rfl : n = 2 := by omega
      by_cases hs : lo ≤ b1 ∧ b1 ≤ hi
      · simp [hs]
      · have hs' : b1 < lo ∨ hi < b1 := by omega
        simp [hs, hs']
  · obtain rfl : n = 1 := by omega
    simp

set_option maxHeartbeats 4000000 in
theorem full_waits (s : List UInt8) (h : s ≠ []) : fullP s = (isFull s || !waits s) := by
  have hp : 1 ≤ s.length := List.length_pos_iff.2 h
  have hl : ¬ s.length = 0 := by omega
  have hb1 := bad1 s
  have hb2 := badJ s 2 (by decide)
  have hb3 := badJ s 3 (by decide)
  have hH : headP s = if needP (byteAt s 0) = 0 then (0, 0) else headFrom s (needP (byteAt s 0)) (needP (byteAt s 0)) 1 := by simp [headP, hl]
  have hF : fullP s = fullN s.length (byteAt s 0) (byteAt s 1) (byteAt s 2) := by unfold fullP; rw [show decide (0 < s.length) = true from decide_eq_true hp]; rfl
  unfold isFull waits
  rw [hH, hF]
  unfold fullN
  have e1 := head1 s
  have e2 := head2 s
  have e3 := head3 s
  have e4 := head4 s
  rw [hb1] at e2 e3 e4
  rw [hb2] at e3 e4
  rw [hb3] at e4
  generalize byteAt s 0 = b0 at *
  generalize byteAt s 1 = b1 at *
  generalize byteAt s 2 = b2 at *
  generalize byteAt s 3 = b3 at *
  generalize s.length = n at *
  clear hb1 hb2 hb3 hH hF h hl
  rcases (show b0 < 128 ∨ (128 ≤ b0 ∧ b0 < 194) ∨ (194 ≤ b0 ∧ b0 < 224) ∨ b0 = 224 ∨ (225 ≤ b0 ∧ b0 < 237 ∨ 238 ≤ b0 ∧ b0 < 240) ∨ b0 = 237 ∨ b0 = 240 ∨ (241 ≤ b0 ∧ b0 < 244) ∨ b0 = 244 ∨ 245 ≤ b0 by omega) with c | c | c | c | c | c | c | c | c | c
  · have hn : needP b0 = 1 := by unfold needP; rw [if_pos c]
    have ht : firstT b0 = 240 := by unfold firstT; rw [if_pos c]
    rw [hn, ht, e1]
    simp
  · have hn : needP b0 = 0 := by unfold needP; repeat (first | rw [if_neg (by omega)])
    have ht : firstT b0 = 241 := by unfold firstT; rw [if_neg (by omega), if_pos (by omega)]
    rw [hn, ht]
    simp [hp]
  · have hn : needP b0 = 2 := by unfold needP; rw [if_neg (by omega), if_pos (by omega)]
    rw [hn, firstT_C2 c, if_neg (show ¬ (2 : Nat) = 0 by decide)]
    exact wait2 n b1 b2 128 191 hp (secP b0 b1) (by unfold secP loP hiP; rw [if_neg (by omega), if_neg (by omega), if_neg (by omega), if_neg (by omega)]) _ e2
  · have hn : needP b0 = 3 := by unfold needP; rw [if_neg (by omega), if_neg (by omega), if_pos (by omega)]
    rw [hn, firstT_E0 c, if_neg (show ¬ (3 : Nat) = 0 by decide)]
    exact wait3 n b1 b2 160 191 hp (secP b0 b1) (by unfold secP loP hiP; subst c; rfl) _ e3
  · have hn : needP b0 = 3 := by unfold needP; rw [if_neg (by omega), if_neg (by omega), if_pos (by omega)]
    rw [hn, firstT_E1 c, if_neg (show ¬ (3 : Nat) = 0 by decide)]
    exact wait3 n b1 b2 128 191 hp (secP b0 b1) (by unfold secP loP hiP; rw [if_neg (by omega), if_neg (by omega), if_neg (by omega), if_neg (by omega)]) _ e3
  · have hn : needP b0 = 3 := by unfold needP; rw [if_neg (by omega), if_neg (by omega), if_pos (by omega)]
    rw [hn, firstT_ED c, if_neg (show ¬ (3 : Nat) = 0 by decide)]
    exact wait3 n b1 b2 128 159 hp (secP b0 b1) (by unfold secP loP hiP; subst c; rfl) _ e3
  · have hn : needP b0 = 4 := by unfold needP; rw [if_neg (by omega), if_neg (by omega), if_neg (by omega), if_pos (by omega)]
    rw [hn, firstT_F0 c, if_neg (show ¬ (4 : Nat) = 0 by decide)]
    exact wait4 n b1 b2 b3 144 191 hp (secP b0 b1) (by unfold secP loP hiP; subst c; rfl) _ e4
  · have hn : needP b0 = 4 := by unfold needP; rw [if_neg (by omega), if_neg (by omega), if_neg (by omega), if_pos (by omega)]
    rw [hn, firstT_F1 c, if_neg (show ¬ (4 : Nat) = 0 by decide)]
    exact wait4 n b1 b2 b3 128 191 hp (secP b0 b1) (by unfold secP loP hiP; rw [if_neg (by omega), if_neg (by omega), if_neg (by omega), if_neg (by omega)]) _ e4
  · have hn : needP b0 = 4 := by unfold needP; rw [if_neg (by omega), if_neg (by omega), if_neg (by omega), if_pos (by omega)]
    rw [hn, firstT_F4 c, if_neg (show ¬ (4 : Nat) = 0 by decide)]
    exact wait4 n b1 b2 b3 128 143 hp (secP b0 b1) (by unfold secP loP hiP; subst c; rfl) _ e4
  · have hn : needP b0 = 0 := by unfold needP; repeat (first | rw [if_neg (by omega)])
    have ht : firstT b0 = 241 := by unfold firstT; repeat (first | rw [if_neg (by omega)])
    rw [hn, ht]
    simp [hp]

/-- pieces, each flushed or not: what is held behind them -/
def heldAfter : List UInt8 → List (List UInt8 × Bool) → List UInt8
  | h, [] => h
  | h, (p, f) :: ps => heldAfter (if f = true then [] else (putAll (h ++ p)).2) ps

end Go.Proofs.YtjoiagaadofndaaDoor
