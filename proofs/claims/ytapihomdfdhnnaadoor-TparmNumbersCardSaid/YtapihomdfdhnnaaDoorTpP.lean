/-
  The percent language of package tparm, as plain data and plain functions: how a string is read, what its parts are. No program is walked here, and nothing is assumed.
-/
import Derived.Test.YtapihomdfdhnnaaDoorTpBase
import Derived.Lib.Strings
import Derived.Lib.Bytealg
import Derived.Lib.Repeat
namespace Go.Proofs.YtapihomdfdhnnaaDoor
open Go.RowKit Go.Lib

/-- a value: a number, a text, whether it is a text -/
structure PrmD where
  num : Int
  text : List UInt8
  is : Bool
deriving DecidableEq
def prm0 : PrmD := ⟨0, [], false⟩
/-- how a value is written -/
structure FmtD where
  left : Bool
  plus : Bool
  sharp : Bool
  blank : Bool
  zero : Bool
  width : Nat
  prec : Int
deriving DecidableEq
def fmt0 : FmtD := ⟨false, false, false, false, false, 0, -1⟩
def fmtZ : FmtD := ⟨false, false, false, false, false, 0, 0⟩
/-- a sequence, or a run of bytes -/
structure ItemD where
  pos : Nat
  verb : UInt8
  num : Int
  text : List UInt8
  form : FmtD
deriving DecidableEq
def item0 : ItemD := ⟨0, 0, 0, [], fmtZ⟩

def byteAt (s : List UInt8) (i : Nat) : UInt8 := s.getD i 0
def isDigitP (c : UInt8) : Bool := decide (48 ≤ c.toNat) && decide (c.toNat ≤ 57)
def isLetterP (c : UInt8) : Bool := decide (97 ≤ c.toNat) && decide (c.toNat ≤ 122) || decide (65 ≤ c.toNat) && decide (c.toNat ≤ 90)
/-- the number that the digits ahead make, at most g; how many they are -/
def numP (g : Nat) : List UInt8 → Nat → Nat × Nat
  | [], n => (n, 0)
  | c :: t, n => if isDigitP c then ((numP g t (min (10 * n + (c.toNat - 48)) g)).1, (numP g t (min (10 * n + (c.toNat - 48)) g)).2 + 1) else (n, 0)
def setP (f : FmtD) (c : UInt8) : FmtD :=
  if c = 45 then { f with left := true } else if c = 43 then { f with plus := true } else if c = 35 then { f with sharp := true } else if c = 32 then { f with blank := true } else if c = 48 then { f with zero := true } else f
abbrev plainFlags : List UInt8 := [35, 32, 48]
abbrev colonFlags : List UInt8 := [35, 32, 48, 45, 43]
/-- the flags ahead; how many they are -/
def flagsP (fl : List UInt8) : List UInt8 → FmtD → FmtD × Nat
  | [], f => (f, 0)
  | c :: t, f => if 0 ≤ indexByte fl c then ((flagsP fl t (setP f c)).1, (flagsP fl t (setP f c)).2 + 1) else (f, 0)
abbrev formatVerbs : List UInt8 := [100, 111, 120, 88, 115]
abbrev plainVerbs : List UInt8 := [37, 99, 105, 108, 43, 45, 42, 47, 109, 38, 124, 94, 61, 62, 60, 65, 79, 33, 126, 63, 116, 101, 59]

/-- where a format's parts begin -/
def fmtAt1 (s : List UInt8) : Nat := if byteAt s 1 = 58 then 2 else 1
def fmtFl (s : List UInt8) : List UInt8 := if byteAt s 1 = 58 then colonFlags else plainFlags
def fmtF (s : List UInt8) : FmtD × Nat := flagsP (fmtFl s) (s.drop (fmtAt1 s)) fmt0
def fmtAt2 (s : List UInt8) : Nat := fmtAt1 s + (fmtF s).2
def fmtW (s : List UInt8) : Nat × Nat := numP 1001 (s.drop (fmtAt2 s)) 0
def fmtAt3 (s : List UInt8) : Nat := fmtAt2 s + (fmtW s).2
def fmtDot (s : List UInt8) : Bool := hasPrefix (s.drop (fmtAt3 s)) [46]
def fmtPr (s : List UInt8) : Nat × Nat := numP 1001 (s.drop (fmtAt3 s + 1)) 0
def fmtAt4 (s : List UInt8) : Nat := if fmtDot s then fmtAt3 s + (1 + (fmtPr s).2) else fmtAt3 s
def fmtPrec (s : List UInt8) : Int := if fmtDot s then (fmtPr s).1 else -1
def fmtBad (s : List UInt8) : Bool := decide (fmtAt4 s = s.length) || decide (indexByte formatVerbs (byteAt s (fmtAt4 s)) < 0) || decide (1000 < max ((fmtW s).1 : Int) (fmtPrec s))
def fmtIt (s : List UInt8) : FmtD := { (fmtF s).1 with width := (fmtW s).1, prec := fmtPrec s }
/-- a format: what it says, where it ends; 0: it is none -/
def formattedP (s : List UInt8) : ItemD × Nat :=
  if fmtBad s then (item0, 0) else (⟨0, byteAt s (fmtAt4 s), 0, [], fmtIt s⟩, fmtAt4 s + 1)
def intNeg (s : List UInt8) : Bool := hasPrefix (s.drop 2) [45]
def intAt (s : List UInt8) : Nat := if intNeg s then 3 else 2
def intN (s : List UInt8) : Nat × Nat := numP 999999999 (s.drop (intAt s)) 0
def intBad (s : List UInt8) : Bool := decide ((intN s).2 = 0) || decide (9 < (intN s).2) || !hasPrefix (s.drop (intAt s + (intN s).2)) [125]
def integerP (s : List UInt8) : ItemD × Nat :=
  if intBad s then (item0, 0) else (⟨0, 123, (if intNeg s then -1 else 1) * (intN s).1, [], fmtZ⟩, intAt s + (intN s).2 + 1)
def sequenceP (s : List UInt8) : ItemD × Nat :=
  if s.length < 2 then (item0, 0)
  else if byteAt s 1 = 112 then (if 2 < s.length ∧ 49 ≤ (byteAt s 2).toNat ∧ (byteAt s 2).toNat ≤ 57 then (⟨0, 112, (byteAt s 2).toNat - 48, [], fmtZ⟩, 3) else (item0, 0))
  else if byteAt s 1 = 80 ∨ byteAt s 1 = 103 then (if 2 < s.length ∧ isLetterP (byteAt s 2) = true then (⟨0, byteAt s 1, (byteAt s 2).toNat, [], fmtZ⟩, 3) else (item0, 0))
  else if byteAt s 1 = 39 then (if 3 < s.length ∧ byteAt s 3 = 39 then (⟨0, 123, (byteAt s 2).toNat, [], fmtZ⟩, 4) else (item0, 0))
  else if byteAt s 1 = 123 then integerP s
  else if 0 ≤ indexByte plainVerbs (byteAt s 1) then (⟨0, byteAt s 1, 0, [], fmtZ⟩, 2)
  else formattedP s
def firstP (s : List UInt8) : ItemD × Nat :=
  if indexByte s 37 = 0 then sequenceP s
  else if indexByte s 37 = -1 then (⟨0, 0, 0, s, fmtZ⟩, s.length)
  else (⟨0, 0, 0, s.take (indexByte s 37).toNat, fmtZ⟩, (indexByte s 37).toNat)
/-- what a string is made of, or where it is wrong -/
def parseFrom : Nat → List UInt8 → Nat → Except Nat (List ItemD)
  | 0, _, _ => .ok []
  | n + 1, s, p =>
    if s.length ≤ p then .ok []
    else if (firstP (s.drop p)).2 = 0 then .error p
    else match parseFrom n s (p + (firstP (s.drop p)).2) with
      | .ok l => .ok ({ (firstP (s.drop p)).1 with pos := p } :: l)
      | .error q => .error q
def parseP (s : List UInt8) : Except Nat (List ItemD) := parseFrom (s.length + 1) s 0

theorem numP_le (g : Nat) : ∀ s n, n ≤ g → (numP g s n).1 ≤ g := by
  intro s
  induction s with
  | nil => intro n h; exact h
  | cons c t ih =>
    intro n h
    unfold numP
    split
    · exact ih _ (Nat.min_le_right _ _)
    · exact h
theorem numP_len (g : Nat) : ∀ s n, (numP g s n).2 ≤ s.length := by
  intro s
  induction s with
  | nil => intro n; exact Nat.le_refl _
  | cons c t ih =>
    intro n
    unfold numP
    split
    · exact Nat.succ_le_succ (ih _)
    · exact Nat.zero_le _
theorem flagsP_len (fl : List UInt8) : ∀ s f, (flagsP fl s f).2 ≤ s.length := by
  intro s
  induction s with
  | nil => intro f; exact Nat.le_refl _
  | cons c t ih =>
    intro f
    unfold flagsP
    split
    · exact Nat.succ_le_succ (ih _)
    · exact Nat.zero_le _
theorem fmtAt1_le (s : List UInt8) (h : 2 ≤ s.length) : fmtAt1 s ≤ s.length := by unfold fmtAt1; split <;> omega
theorem fmtAt2_le (s : List UInt8) (h : 2 ≤ s.length) : fmtAt2 s ≤ s.length := by
  have h1 := fmtAt1_le s h
  have h2 := flagsP_len (fmtFl s) (s.drop (fmtAt1 s)) fmt0
  rw [List.length_drop] at h2
  unfold fmtAt2 fmtF
  omega
theorem fmtAt3_le (s : List UInt8) (h : 2 ≤ s.length) : fmtAt3 s ≤ s.length := by
  have h1 := fmtAt2_le s h
  have h2 := numP_len 1001 (s.drop (fmtAt2 s)) 0
  rw [List.length_drop] at h2
  unfold fmtAt3 fmtW
  omega
theorem prefix_one {s : List UInt8} {p : Nat} {c : UInt8} (h : hasPrefix (s.drop p) [c] = true) : p < s.length ∧ byteAt s p = c := by
  unfold hasPrefix at h
  have hl : p < s.length := by
    rcases Nat.lt_or_ge p s.length with hl | hl
    · exact hl
    · rw [List.drop_eq_nil_of_le hl] at h
      simp at h
  rw [List.drop_eq_getElem_cons hl, List.isPrefixOf_cons_cons, Bool.and_eq_true] at h
  have hc : c = s[p] := eq_of_beq h.1
  exact ⟨hl, by unfold byteAt; rw [List.getD_eq_getElem?_getD, List.getElem?_eq_getElem hl]; exact hc.symm⟩
theorem fmtAt4_le (s : List UInt8) (h : 2 ≤ s.length) : fmtAt4 s ≤ s.length := by
  have h1 := fmtAt3_le s h
  unfold fmtAt4
  split
  · next hd =>
    have := (prefix_one hd).1
    have h2 := numP_len 1001 (s.drop (fmtAt3 s + 1)) 0
    rw [List.length_drop] at h2
    unfold fmtPr
    omega
  · exact h1
theorem formattedP_len (s : List UInt8) (h : 2 ≤ s.length) : (formattedP s).2 ≤ s.length := by
  unfold formattedP
  split
  · exact Nat.zero_le _
  · next hb =>
    have h4 := fmtAt4_le s h
    have : fmtAt4 s ≠ s.length := by
      intro e
      apply hb
      unfold fmtBad
      simp [e]
    show fmtAt4 s + 1 ≤ _
    omega
theorem integerP_len (s : List UInt8) : (integerP s).2 ≤ s.length := by
  unfold integerP
  split
  · exact Nat.zero_le _
  · next hb =>
    have : hasPrefix (s.drop (intAt s + (intN s).2)) [125] = true := by
      unfold intBad at hb
      simp at hb
      exact hb.2
    have := (prefix_one this).1
    show intAt s + (intN s).2 + 1 ≤ _
    omega
theorem sequenceP_len (s : List UInt8) : (sequenceP s).2 ≤ s.length := by
  unfold sequenceP
  split
  · exact Nat.zero_le _
  · next h2 =>
    have h2 : 2 ≤ s.length := by omega
    split
    · split
      · next h => exact h.1
      · exact Nat.zero_le _
    · split
      · split
        · next h => exact h.1
        · exact Nat.zero_le _
      · split
        · split
          · next h => exact h.1
          · exact Nat.zero_le _
        · split
          · exact integerP_len s
          · split
            · exact h2
            · exact formattedP_len s h2
theorem indexByte_len (s : List UInt8) (c : UInt8) : indexByte s c ≤ s.length := by
  induction s with
  | nil => show (-1 : Int) ≤ _; omega
  | cons b l ih =>
    unfold indexByte
    rw [List.length_cons]
    split
    · omega
    · split
      · omega
      · omega
theorem firstP_len (s : List UInt8) : (firstP s).2 ≤ s.length := by
  unfold firstP
  split
  · exact sequenceP_len s
  · split
    · exact Nat.le_refl _
    · have := indexByte_len s 37
      show (indexByte s 37).toNat ≤ _
      omega
end Go.Proofs.YtapihomdfdhnnaaDoor
