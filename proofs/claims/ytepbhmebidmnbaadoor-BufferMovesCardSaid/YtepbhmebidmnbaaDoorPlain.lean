/-
  Plain functions and lemmas on integers and lists that the proofs of this seat use; no program is spoken of here, and nothing is assumed.
-/
import Derived.WalkKit
namespace Go.Proofs.YtepbhmebidmnbaaDoor

/-- a control -/
def ctl (r : Int) : Bool := decide (0 ≤ r ∧ r ≤ 31 ∨ 127 ≤ r ∧ r ≤ 159)
/-- a valid rune -/
def vld (r : Int) : Bool := decide (0 ≤ r ∧ r < 55296 ∨ 57343 < r ∧ r ≤ 1114111)
/-- the table of widths -/
def widT : List (Int × Int × Int) :=
  [(768, 879, 0), (1155, 1161, 0), (1425, 1469, 0), (1552, 1562, 0), (1611, 1631, 0), (3633, 3633, 0), (3636, 3642, 0), (3655, 3662, 0), (6832, 6911, 0), (7616, 7679, 0),
   (8203, 8207, 0), (8400, 8447, 0), (12441, 12442, 0), (65024, 65039, 0), (65056, 65071, 0), (4352, 4447, 2), (11904, 12350, 2), (12353, 13311, 2), (13312, 19903, 2), (19968, 40959, 2),
   (40960, 42191, 2), (44032, 55203, 2), (63744, 64255, 2), (65072, 65135, 2), (65280, 65376, 2), (65504, 65510, 2), (127744, 128591, 2), (129280, 129535, 2), (131072, 262141, 2)]
/-- the first row that has r, from row k on -/
def widFrom : List (Int × Int × Int) → Int → Int
  | [], _ => 1
  | s :: l, r => if s.1 ≤ r ∧ r ≤ s.2.1 then s.2.2 else widFrom l r
def wid (r : Int) : Int := if ctl r = true ∨ vld r = false then 0 else widFrom widT r


/-- a row's three cells -/
def widRow (s : Int × Int × Int) : List Value := [.int .i32 s.1, .int .i32 s.2.1, .int .i64 s.2.2]
/-- the cells of the table of widths -/
def widCells : Array Value := (widT.flatMap widRow).toArray

theorem rows3 (l : List (Int × Int × Int)) (k : Nat) (s : Int × Int × Int) (h : l[k]? = some s) : ((l.flatMap widRow).drop (k * 3)).take 3 = widRow s := by
  induction l generalizing k with
  | nil => simp at h
  | cons x l ih =>
    cases k with
    | zero => simp at h; subst h; simp [widRow]
    | succ k =>
      have : (k + 1) * 3 = k * 3 + 1 + 1 + 1 := by omega
      rw [this]
      simpa [widRow, List.flatMap_cons] using ih k (by simpa using h)
theorem widRow_at (k : Nat) (s : Int × Int × Int) (h : widT[k]? = some s) : widCells.extract (k * 3) (k * 3 + 3) = #[.int .i32 s.1, .int .i32 s.2.1, .int .i64 s.2.2] := by
  have e := rows3 widT k s h
  unfold widCells
  rw [List.extract_toArray, List.extract_eq_take_drop, show k * 3 + 3 - k * 3 = 3 by omega, e]
  rfl
theorem widFrom_at (k : Nat) (s : Int × Int × Int) (r : Int) (h : widT[k]? = some s) : widFrom (widT.drop k) r = if s.1 ≤ r ∧ r ≤ s.2.1 then s.2.2 else widFrom (widT.drop (k + 1)) r := by
  obtain ⟨hk, rfl⟩ := List.getElem?_eq_some_iff.1 h
  rw [List.drop_eq_getElem_cons hk]
  rfl
theorem widT_len : widT.length = 29 := rfl

end Go.Proofs.YtepbhmebidmnbaaDoor
