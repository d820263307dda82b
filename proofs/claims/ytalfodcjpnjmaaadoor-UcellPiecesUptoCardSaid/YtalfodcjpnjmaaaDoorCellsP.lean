/-
  Plain functions: the cells that runes occupy. No program is spoken of here, and nothing is assumed.
-/
import Derived.Test.YtalfodcjpnjmaaaDoorPlain
namespace Go.Proofs.YtalfodcjpnjmaaaDoor

/-- a cell: its text and its width -/
abbrev Cel := ByteArray × Int
/-- a cell's three values -/
def celVals (c : Cel) : List Value := [.string c.1, .int .i64 c.2, .int .i64 0]
def cellsVals (l : List Cel) : List Value := l.flatMap celVals
/-- a narrow cell of one rune -/
def nar (r : Int) : Cel := (Utf8.encode r, 1)
/-- a tab -/
def tabP (l : List Cel) (start : Nat) : List Cel := l ++ List.replicate (8 - (start + l.length) % 8) (nar 32)
/-- a rune of no width joins the nearest cell with a text, from cell k - 1 down -/
def combP (l : List Cel) (r : Int) : Nat → List Cel
  | 0 => l ++ [(⟨#[32]⟩ ++ Utf8.encode r, 1)]
  | k + 1 => if (l.getD k (ByteArray.empty, 0)).1.size = 0 then combP l r k else if (l.getD k (ByteArray.empty, 0)).1.size ≤ 32 then l.set k ((l.getD k (ByteArray.empty, 0)).1 ++ Utf8.encode r, (l.getD k (ByteArray.empty, 0)).2) else l
/-- one rune more -/
def runeP (l : List Cel) (r : Int) (start : Nat) : List Cel :=
  if r = 9 then tabP l start
  else if ctl r = true ∧ r ≤ 127 then l ++ [nar 94, nar (bits .xor .i32 r 64)]
  else if ctl r = true ∨ vld r = false then l ++ [nar 65533]
  else if wid r = 0 then combP l r l.length
  else if wid r = 2 then l ++ [(Utf8.encode r, 2), (ByteArray.empty, 0)]
  else l ++ [nar r]
def cellsP (start : Nat) (rs : List Int) : List Cel := rs.foldl (fun l r => runeP l r start) []

theorem cellsVals_length (l : List Cel) : (cellsVals l).length = l.length * 3 := by
  induction l with
  | nil => rfl
  | cons c l ih => simp [cellsVals, celVals, List.flatMap_cons] at ih ⊢; omega
theorem cellsVals_append (l m : List Cel) : cellsVals (l ++ m) = cellsVals l ++ cellsVals m := by simp [cellsVals]
theorem cellsVals_one (l : List Cel) : ∀ u ∈ cellsVals l, u.oneCell' = true := by
  intro u hu
  simp only [cellsVals, List.mem_flatMap] at hu
  obtain ⟨c, _, hc⟩ := hu
  simp only [celVals, List.mem_cons, List.mem_nil_iff, or_false] at hc
  rcases hc with rfl | rfl | rfl <;> rfl
theorem combP_skip (l : List Cel) (r : Int) (j : Nat) (h : (l.getD j (ByteArray.empty, 0)).1.size = 0) : combP l r (j + 1) = combP l r j := by simp only [combP]; rw [if_pos h]
theorem combP_join (l : List Cel) (r : Int) (j : Nat) (h : ¬ (l.getD j (ByteArray.empty, 0)).1.size = 0) (h32 : (l.getD j (ByteArray.empty, 0)).1.size ≤ 32) :
    combP l r (j + 1) = l.set j ((l.getD j (ByteArray.empty, 0)).1 ++ Utf8.encode r, (l.getD j (ByteArray.empty, 0)).2) := by simp only [combP]; rw [if_neg h, if_pos h32]
theorem combP_full (l : List Cel) (r : Int) (j : Nat) (h : ¬ (l.getD j (ByteArray.empty, 0)).1.size = 0) (h32 : ¬ (l.getD j (ByteArray.empty, 0)).1.size ≤ 32) :
    combP l r (j + 1) = l := by simp only [combP]; rw [if_neg h, if_neg h32]
theorem cellsVals_at (l : List Cel) : ∀ j, j < l.length → (cellsVals l)[j * 3]? = some (.string (l.getD j (ByteArray.empty, 0)).1) := by
  induction l with
  | nil => intro j h; simp at h
  | cons c l ih =>
    intro j h
    cases j with
    | zero => rfl
    | succ j =>
      rw [show (j + 1) * 3 = j * 3 + 1 + 1 + 1 by omega]
      simpa [cellsVals, celVals, List.flatMap_cons] using ih j (by simpa using h)
theorem cellsVals_set (l : List Cel) (s : ByteArray) : ∀ j, j < l.length → (cellsVals l).set (j * 3) (.string s) = cellsVals (l.set j (s, (l.getD j (ByteArray.empty, 0)).2)) := by
  induction l with
  | nil => intro j h; simp at h
  | cons c l ih =>
    intro j h
    cases j with
    | zero => rfl
    | succ j =>
      rw [show (j + 1) * 3 = j * 3 + 1 + 1 + 1 by omega]
      simpa [cellsVals, celVals, List.flatMap_cons] using ih j (by simpa using h)
theorem combP_length (l : List Cel) (r : Int) (k : Nat) : (combP l r k).length ≤ l.length + 1 := by
  induction k with
  | zero => simp [combP]
  | succ k ih =>
    simp only [combP]
    repeat' split
    · exact ih
    · simp
    · omega
theorem runeP_length (l : List Cel) (r : Int) (start : Nat) : (runeP l r start).length ≤ l.length + 8 := by
  have := combP_length l r l.length
  unfold runeP
  repeat' split
  all_goals (try simp [tabP])
  all_goals omega
theorem cellsP_snoc (start : Nat) (rs : List Int) (r : Int) : cellsP start (rs ++ [r]) = runeP (cellsP start rs) r start := by simp [cellsP, List.foldl_append]
theorem foldP_length (start : Nat) (rs : List Int) : ∀ l : List Cel, (rs.foldl (fun l r => runeP l r start) l).length ≤ l.length + 8 * rs.length := by
  induction rs with
  | nil => intro l; simp
  | cons r rs ih =>
    intro l
    have h1 := ih (runeP l r start)
    have h2 := runeP_length l r start
    simp only [List.foldl_cons, List.length_cons]
    omega
theorem cellsP_length (start : Nat) (rs : List Int) : (cellsP start rs).length ≤ 8 * rs.length := by
  have := foldP_length start rs []
  simpa [cellsP] using this

end Go.Proofs.YtalfodcjpnjmaaaDoor
