/-
  A history in memory: its block of four cells, the row of its lines; and the plain words of what it says.
-/
import Derived.Test.YtojhppcnpjajaaaHlRow
namespace Go.Proofs.Ytojhppcnpjajaaa
open Go.RowKit Go.Shelf Go.Lib
attribute [local go_sem] Oper.semAt_some

/-- a line: its text and its time -/
abbrev HL := ByteArray × Int
def hlCells (x : HL) : List Value := [.string x.1, .int .i64 x.2]
def hlVals (l : List HL) : List Value := l.flatMap hlCells
theorem hlVals_cons (x : HL) (l : List HL) : hlVals (x :: l) = .string x.1 :: .int .i64 x.2 :: hlVals l := rfl
theorem hlVals_length (l : List HL) : (hlVals l).length = l.length * 2 := by
  induction l with
  | nil => rfl
  | cons x l ih => rw [hlVals_cons, List.length_cons, List.length_cons, List.length_cons, ih]; omega
theorem hlVals_append (a b : List HL) : hlVals (a ++ b) = hlVals a ++ hlVals b := List.flatMap_append
theorem hlVals_drop (l : List HL) (k : Nat) : hlVals (l.drop k) = (hlVals l).drop (k * 2) := by
  induction l generalizing k with
  | nil => simp [hlVals]
  | cons x l ih =>
    cases k with
    | zero => simp
    | succ k => rw [List.drop_succ_cons, ih, hlVals_cons, show (k + 1) * 2 = k * 2 + 1 + 1 by omega, List.drop_succ_cons, List.drop_succ_cons]
theorem hlVals_take (l : List HL) (k : Nat) : hlVals (l.take k) = (hlVals l).take (k * 2) := by
  induction l generalizing k with
  | nil => simp [hlVals]
  | cons x l ih =>
    cases k with
    | zero => simp [hlVals]
    | succ k => rw [List.take_succ_cons, hlVals_cons, ih, hlVals_cons, show (k + 1) * 2 = k * 2 + 1 + 1 by omega, List.take_succ_cons, List.take_succ_cons]
theorem hlVals_at {l : List HL} {i : Nat} {x : HL} (h : l[i]? = some x) : (hlVals l)[i * 2]? = some (.string x.1) ∧ (hlVals l)[i * 2 + 1]? = some (.int .i64 x.2) := by
  have h1 : (l.drop i)[0]? = some x := by rw [List.getElem?_drop, Nat.add_zero, h]
  have e : l.drop i = x :: l.drop (i + 1) := by
    have hi := (List.getElem?_eq_some_iff.1 h).1
    have hx := (List.getElem?_eq_some_iff.1 h).2
    rw [List.drop_eq_getElem_cons hi, hx]
  have h2 : (hlVals l).drop (i * 2) = .string x.1 :: .int .i64 x.2 :: hlVals (l.drop (i + 1)) := by rw [← hlVals_drop, e, hlVals_cons]
  constructor
  · rw [show i * 2 = i * 2 + 0 by omega, ← List.getElem?_drop, h2]; rfl
  · rw [← List.getElem?_drop, h2]; rfl
theorem hlVals_one (l : List HL) : ∀ v ∈ hlVals l, v.oneCell' = true := by
  intro v hv
  simp only [hlVals, List.mem_flatMap, hlCells] at hv
  obtain ⟨x, _, hv⟩ := hv
  simp at hv
  rcases hv with rfl | rfl <;> rfl
/-- the slice v holds the lines l -/
def HH (w : World) (v : Value) (l : List HL) : Prop := ∃ A c, v = .slice A l.length c ∧ l.length ≤ c ∧ Src w 2 A c l.length (hlVals l)
theorem HH.below {w w' : World} {v : Value} {l : List HL} (h : HH w v l) (hb : Below w.heap.size w w') : HH w' v l := by
  obtain ⟨A, c, e, hc, hs⟩ := h
  exact ⟨A, c, e, hc, hs.below hb⟩
theorem HH.drewN {w : World} {v : Value} {l : List HL} (h : HH w v l) (n : Nat) : HH (w.drewN n) v l := by
  obtain ⟨A, c, e, hc, hs⟩ := h
  exact ⟨A, c, e, hc, ⟨hs.len, hs.nil, hs.cells⟩⟩
theorem HH.form {w : World} {v : Value} {l : List HL} (h : HH w v l) : ∃ A c, v = .slice A l.length c := by
  obtain ⟨A, c, e, _⟩ := h
  exact ⟨A, c, e⟩
theorem HH.len {w : World} {A : Option Addr} {n c : Nat} {l : List HL} (h : HH w (.slice A n c) l) : n = l.length := by
  obtain ⟨A', c', e, _⟩ := h
  injection e
theorem HH.cell {w : World} {A : Option Addr} {n c : Nat} {l : List HL} (h : HH w (.slice A n c) l) {i : Nat} {x : HL} (hi : l[i]? = some x) : ∃ b off, A = some ⟨b, off, none⟩ ∧ b < w.heap.size ∧ w.cell? ⟨b, off + i * 2, none⟩ = some (.string x.1) ∧ w.cell? ⟨b, off + i * 2 + 1, none⟩ = some (.int .i64 x.2) := by
  obtain ⟨A', c', e, _, hs⟩ := h
  injection e with e1 e2 e3
  subst e1
  obtain ⟨b, off, rfl, hlt, hc⟩ := hs.cells (by have := (List.getElem?_eq_some_iff.1 hi).1; omega)
  obtain ⟨h1, h2⟩ := hlVals_at hi
  exact ⟨b, off, rfl, hlt, hc _ _ h1, by rw [Nat.add_assoc]; exact hc _ _ h2⟩
theorem HH.nil (w : World) : HH w (.slice none 0 0) [] := ⟨none, 0, rfl, Nat.le_refl _, by simp [hlVals], fun _ => ⟨rfl, rfl⟩, fun h => by simp at h⟩
abbrev HSeg (w : World) (v : Value) (l : List HL) : Prop := Seg w 69 2 v l.length (hlVals l)
theorem HSeg.holds {w : World} {v : Value} {l : List HL} (h : HSeg w v l) : HH w v l := by
  obtain ⟨A, c, e, hc, hs⟩ := h.form
  exact ⟨A, c, e, hc, hs⟩
theorem HSeg.cut {w : World} {A : Option Addr} {n c : Nat} {l : List HL} (h : HSeg w (.slice A n c) l) {k : Nat} (hk : k ≤ l.length) : HSeg w (.slice (tailA A c k 2) (l.length - k) (c - k)) (l.drop k) := by
  obtain ⟨A', c', e, _⟩ := h.form
  injection e with e1 e2 e3
  subst e2
  have := Seg.cut h hk
  unfold HSeg
  rw [List.length_drop, hlVals_drop]
  exact this

/-- what a history says: its lines, the oldest first; the number of the first one; how many are kept -/
structure HS where
  ls : List HL
  base : Int
  most : Nat
/-- a history in memory -/
structure LAt (w : World) (g : Nat) (v : Value) (S : HS) : Prop where
  row : w.heap[g]? = some (.cells #[v, .int .i64 S.base, .int .i64 (S.most : Int), .bool true] 87 (0, 0))
  seg : HSeg w v S.ls
  le : S.ls.length ≤ S.most
  most : S.most ≤ 4096
/-- the blocks of a history -/
def Own (g : Nat) (v : Value) (k : Nat) : Prop := k = g ∨ v.ownBlock = some k
section
variable {w w' : World} {g : Nat} {v : Value} {S : HS}
theorem LAt.kept (h : LAt w g v S) (hk : ∀ k, Own g v k → w'.heap[k]? = w.heap[k]?) : LAt w' g v S := ⟨(hk g (.inl rfl)).trans h.row, h.seg.kept fun k hv => hk k (.inr hv), h.le, h.most⟩
theorem LAt.lt (h : LAt w g v S) : ∀ k, Own g v k → k < w.heap.size := fun k hk => hk.elim (fun e => e ▸ heap_lt h.row) fun e => (h.seg.block k e).1
theorem LAt.below (h : LAt w g v S) (hb : Below w.heap.size w w') : LAt w' g v S := h.kept fun k hk => hb.block k (h.lt k hk)
theorem LAt.form (h : LAt w g v S) : ∃ A c, v = .slice A S.ls.length c := h.seg.holds.form
theorem LAt.cells (h : LAt w g v S) : w.cell? ⟨g, 0, none⟩ = some v ∧ w.cell? ⟨g, 1, none⟩ = some (.int .i64 S.base) ∧ w.cell? ⟨g, 2, none⟩ = some (.int .i64 (S.most : Int)) ∧ w.cell? ⟨g, 3, none⟩ = some (.bool true) :=
  ⟨cell_of_row w g 0 _ _ _ h.row, cell_of_row w g 1 _ _ _ h.row, cell_of_row w g 2 _ _ _ h.row, cell_of_row w g 3 _ _ _ h.row⟩
theorem LAt.frozen (h : LAt w g v S) (k : Nat) : w.frozen? ⟨g, k, none⟩ = false := frozen_of_row w g k _ _ h.row
theorem LAt.len (h : LAt w g v S) : S.ls.length ≤ 4096 := Nat.le_trans h.le h.most
end
/-- is i a place among n? -/
def plc (n : Nat) (i : Int) : Bool := decide (0 ≤ i ∧ i < (n : Int))
set_option maxRecDepth 1000000 in
theorem usable_any (w : World) (g : Nat) (c3 : w.cell? ⟨g, 3, none⟩ = some (.bool true)) : Calls Try.prog 51 #[.pointer (some ⟨g, 0, none⟩)] w fun e w' => e = .returned (.bool true) ∧ w = w' := by
  go_enter Try.func51, Try.ntmps51
  go_wp2
  go_ret
  exact ⟨rfl, rfl⟩
set_option maxRecDepth 1000000 in
theorem kept_any (w : World) (g : Nat) (v : Value) (S : HS) (h : LAt w g v S) : Calls Try.prog 50 #[.pointer (some ⟨g, 0, none⟩)] w fun e w' => e = .returned (.agg #[v, .int .i64 S.base, .int .i64 (S.most : Int)]) ∧ Below w.heap.size w w' := by
  obtain ⟨A, c, rfl⟩ := h.form
  have hb := (Below.refl w.heap.size w).alloc (Nat.le_refl _) (.cells #[.slice none 0 0, .int .i64 0, .int .i64 0] 85)
  have h1 := h.below hb
  obtain ⟨c0, c1, c2, c3⟩ := h1.cells
  have CU := Lib.hid (usable_any _ g c3)
  clear h h1 hb
  go_enter Try.func50, Try.ntmps50
  go_wp2_with (go_at_call 51; refine (CU.out).mono ?_; rintro e w1 ⟨rfl, rfl⟩)
  refine bodyPost_ret (v := .agg #[.slice A S.ls.length c, .int .i64 S.base, .int .i64 (S.most : Int)]) (by simp [results, Try.results50, go_sem]) rfl ⟨rfl, ?_⟩
  exact (Below.refl w.heap.size w).alloc (Nat.le_refl _) _
end Go.Proofs.Ytojhppcnpjajaaa
