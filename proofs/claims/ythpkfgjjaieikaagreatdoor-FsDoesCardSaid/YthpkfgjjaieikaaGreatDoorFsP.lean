/-
  Paths, as plain functions on lists of bytes: the names between slashes, which paths are valid, which path lies below which. No program is walked here, and nothing is assumed.
-/
import Derived.Lib.IndexLaws
import Derived.Lib.Strings
namespace Go.Proofs.YthpkfgjjaieikaaGreatDoor
open Go.Lib

/-- the names between slashes -/
def names : List UInt8 → List (List UInt8)
  | [] => [[]]
  | c :: r => if c = 47 then [] :: names r else
    match names r with
    | n :: t => (c :: n) :: t
    | [] => [[c]]
def nameOk (n : List UInt8) : Bool := !(n == [] || n == [46] || n == [46, 46])
/-- a valid path -/
def goodP : List UInt8 → Bool
  | 47 :: r => decide (r.length < 1024) && (names r).all nameOk
  | _ => false

theorem names_ne (s : List UInt8) : names s ≠ [] := by
  cases s with
  | nil => simp [names]
  | cons c r =>
    simp only [names]
    split
    · simp
    · split <;> simp
theorem names_cons (c : UInt8) (r : List UInt8) (h : c ≠ 47) : names (c :: r) = (c :: (names r).headD []) :: (names r).tail := by
  simp only [names, if_neg h]
  cases hn : names r with
  | nil => exact absurd hn (names_ne r)
  | cons n t => rfl
theorem names_plain (s : List UInt8) (h : ∀ k : Nat, s[k]? ≠ some 47) : names s = [s] := by
  induction s with
  | nil => rfl
  | cons c r ih =>
    have hc : c ≠ 47 := fun e => h 0 (by simp [e])
    rw [names_cons c r hc, ih fun k => by have := h (k + 1); simpa using this]
    rfl
theorem names_cut (s : List UInt8) (i : Nat) (h1 : s[i]? = some 47) (h2 : ∀ k : Nat, k < i → s[k]? ≠ some 47) : names s = s.take i :: names (s.drop (i + 1)) := by
  induction s generalizing i with
  | nil => simp at h1
  | cons c r ih =>
    cases i with
    | zero =>
      simp at h1
      subst h1
      simp [names]
    | succ i =>
      have hc : c ≠ 47 := fun e => h2 0 (by omega) (by simp [e])
      have := ih i (by simpa using h1) fun k hk => by have := h2 (k + 1) (by omega); simpa using this
      rw [names_cons c r hc, this]
      simp

/-- what one call of Index tells -/
theorem names_none {s : List UInt8} (h : indexByte s 47 = -1) : names s = [s] := names_plain s fun k => indexByte_none h k
theorem names_some {s : List UInt8} {i : Nat} (h : indexByte s 47 = i) : names s = s.take i :: names (s.drop (i + 1)) :=
  names_cut s i (indexByte_some h).1 (indexByte_some h).2
theorem index_lt {s : List UInt8} {i : Nat} (h : indexByte s 47 = i) : i < s.length := (List.getElem?_eq_some_iff.1 (indexByte_some h).1).1

theorem goodP_root {r : List UInt8} : goodP (47 :: r) = (decide (r.length < 1024) && (names r).all nameOk) := rfl
theorem goodP_len {s : List UInt8} (h : goodP s = true) : s.length ≤ 1024 := by
  unfold goodP at h
  split at h
  · rw [Bool.and_eq_true, decide_eq_true_eq] at h
    have := h.1
    rw [List.length_cons]
    omega
  · cases h
theorem hasPrefix_root (s : List UInt8) : hasPrefix s [47] = true ↔ ∃ r, s = 47 :: r := by
  unfold hasPrefix
  cases s with
  | nil => simp
  | cons c r =>
    simp only [List.isPrefixOf, Bool.and_true, beq_iff_eq]
    exact ⟨fun h => ⟨r, by rw [h]⟩, fun ⟨_, h⟩ => by injection h with h _; exact h.symm⟩
theorem goodP_not {s : List UInt8} (h : hasPrefix s [47] = false) : goodP s = false := by
  unfold goodP
  split
  · simp [hasPrefix] at h
  · rfl
theorem goodP_long {s : List UInt8} (h : 1024 < s.length) : goodP s = false := by
  cases hg : goodP s with
  | false => rfl
  | true => have := goodP_len hg; omega

/-- a path lies below a directory -/
def belowP (dir path : List UInt8) : Bool := hasPrefix path dir && (dir == [47] || hasPrefix (path.drop dir.length) [47])

end Go.Proofs.YthpkfgjjaieikaaGreatDoor
