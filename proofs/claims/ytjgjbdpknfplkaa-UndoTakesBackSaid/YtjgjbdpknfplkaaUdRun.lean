/-
  Plain facts on lists of edits made to a line, and taken back group by group. No program is spoken of here, and nothing is assumed.
-/
import Derived.Test.YtjgjbdpknfplkaaUdInvP
namespace Go.Proofs.Ytjgjbdpknfplkaa

/-- edits applied one behind the other lead from a line to a line -/
def Done : List Int → List Ed → List Int → Prop
  | l, [], r => l = r
  | l, e :: es, r => apErr l e = 0 ∧ Done (apLine l e) es r
theorem Done.append {l r t : List Int} {es fs : List Ed} (h : Done l es r) (k : Done r fs t) : Done l (es ++ fs) t := by
  induction es generalizing l with
  | nil => cases h; exact k
  | cons e es ih => exact ⟨h.1, ih h.2⟩
theorem Done.short {l r : List Int} {es : List Ed} (h : Done l es r) (hl : l.length ≤ 1024) : r.length ≤ 1024 := by
  induction es generalizing l with
  | nil => cases h; exact hl
  | cons e es ih => exact ih h.2 (apErr_zero h.1).2.2.1
/-- the line behind the first k edits -/
def afterK : List Int → List Ed → Nat → List Int
  | l, _, 0 => l
  | l, [], _ => l
  | l, e :: es, k + 1 => afterK (apLine l e) es k
theorem Done.at {l r : List Int} {es : List Ed} (h : Done l es r) {k : Nat} (hk : k < es.length) : apErr (afterK l es k) es[k] = 0 ∧ afterK l es (k + 1) = apLine (afterK l es k) es[k] := by
  induction es generalizing l k with
  | nil => simp at hk
  | cons e es ih =>
    cases k with
    | zero => exact ⟨h.1, by cases es <;> rfl⟩
    | succ k => exact ih h.2 (by simpa using hk)
theorem Done.end' {l r : List Int} {es : List Ed} (h : Done l es r) : afterK l es es.length = r := by
  induction es generalizing l with
  | nil => cases h; rfl
  | cons e es ih => exact ih h.2
theorem afterK_short {l r : List Int} {es : List Ed} (h : Done l es r) (hl : l.length ≤ 1024) : ∀ k, k ≤ es.length → (afterK l es k).length ≤ 1024 := by
  intro k hk
  induction es generalizing l k with
  | nil =>
    obtain rfl : k = 0 := by simpa using hk
    exact hl
  | cons e es ih =>
    cases k with
    | zero => exact hl
    | succ k => exact ih h.2 (apErr_zero h.1).2.2.1 k (by simpa using hk)
/-- the groups, taken back one by one, lead over the lines that were noted to the line at first -/
def Rel : List (List Ed) → List Int → List (List Int) → List Int → Prop
  | [], now, ws, line => ws = [] ∧ now = line
  | g :: r, now, ws, line => match ws with
    | [] => False
    | w :: ws => Done now (g.map Ed.inv) w ∧ Rel r w ws line
theorem Rel.len {gs : List (List Ed)} {now line : List Int} {ws : List (List Int)} (h : Rel gs now ws line) : ws.length = gs.length := by
  induction gs generalizing now ws with
  | nil => rw [h.1]; rfl
  | cons g r ih =>
    cases ws with
    | nil => exact h.elim
    | cons w ws => simp [ih h.2]
theorem Rel.all {gs : List (List Ed)} {now line : List Int} {ws : List (List Int)} (h : Rel gs now ws line) : Done now (gs.flatten.map Ed.inv) line := by
  induction gs generalizing now ws with
  | nil => exact h.2
  | cons g r ih =>
    cases ws with
    | nil => exact h.elim
    | cons w ws =>
      rw [List.flatten_cons, List.map_append]
      exact h.1.append (ih h.2)
/-- one more edit, in the last group or in a group of its own -/
theorem Rel.push {gs : List (List Ed)} {now line : List Int} {ws : List (List Int)} (h : Rel gs now ws line) {e : Ed} (he : apErr now e = 0) (hn : now.length ≤ 1024) {j : Bool} (hj : j = true → gs ≠ []) : Rel (pushG gs e j) (apLine now e) (if j = true then ws else now :: ws) line := by
  have hb := inv_back he hn
  have hb2 : apErr (apLine now e) e.inv = 0 ∧ apLine (apLine now e) e.inv = now := ⟨hb.1, by rw [← (apErr_zero hb.1).2.2.2]; exact hb.2⟩
  cases j with
  | false => exact ⟨⟨hb2.1, by rw [hb2.2]; rfl⟩, h⟩
  | true =>
    cases gs with
    | nil => exact absurd rfl (hj rfl)
    | cons g r =>
      cases ws with
      | nil => exact h.elim
      | cons w ws => exact ⟨⟨hb2.1, by rw [hb2.2]; exact h.1⟩, h.2⟩
end Go.Proofs.Ytjgjbdpknfplkaa
