/-
  A buffer in memory: its one block; slices of its array. No program is walked here, and nothing is assumed.
-/
import Derived.Test.YtepbhmebidmnbaaDoorBfP
import Derived.Test.YtepbhmebidmnbaaDoorBfBase
namespace Go.Proofs.YtepbhmebidmnbaaDoor
open Go.RowKit Go.Shelf Go.Lib

/-- all that a buffer's block says -/
structure BR where
  A : List Int
  u : Nat
  v : Nat
  pt : Nat
  mr : Int
def BR.tl (R : BR) : List Value := [.int .i64 R.u, .int .i64 R.v, .bool true, .int .i64 R.pt, .int .i64 R.mr]
def BR.row (R : BR) : List Value := runeVals R.A ++ R.tl
structure BROk (R : BR) : Prop where
  len : R.A.length = 1024
  sum : R.u + R.v ≤ 1024
def BR.S (R : BR) : BS := ⟨gapLine R.A R.u R.v, R.pt, R.mr⟩
def BRAt (w : World) (g : Nat) (R : BR) : Prop := w.heap[g]? = some (.cells R.row.toArray 70 (0, 0))
def BufAt (w : World) (g : Nat) (S : BS) : Prop := ∃ R, BROk R ∧ BRAt w g R ∧ R.S = S ∧ BOk S

theorem runeVals_length (l : List Int) : (runeVals l).length = l.length := by simp [runeVals]
theorem runeVals_one (l : List Int) : ∀ v ∈ runeVals l, v.oneCell' = true := by
  intro v hv
  simp only [runeVals, List.mem_map] at hv
  obtain ⟨x, _, rfl⟩ := hv
  rfl
theorem runeVals_append (a b : List Int) : runeVals (a ++ b) = runeVals a ++ runeVals b := List.map_append
theorem BR.row_A {R : BR} (h : BROk R) (k : Nat) (hk : k < 1024) : R.row[k]? = (runeVals R.A)[k]? := List.getElem?_append_left (by rw [runeVals_length, h.len]; exact hk)
theorem BR.row_tl {R : BR} (h : BROk R) (k : Nat) : R.row[1024 + k]? = R.tl[k]? := by
  unfold BR.row
  rw [List.getElem?_append_right (by rw [runeVals_length, h.len]; omega), runeVals_length, h.len, Nat.add_sub_cancel_left]
theorem BR.row_length {R : BR} (h : BROk R) : R.row.length = 1029 := by simp [BR.row, BR.tl, runeVals_length, h.len]
theorem BR.set_tl {R : BR} (h : BROk R) (k : Nat) (x : Value) : R.row.set (1024 + k) x = runeVals R.A ++ R.tl.set k x := by
  unfold BR.row
  rw [List.set_append, if_neg (by rw [runeVals_length, h.len]; omega), runeVals_length, h.len, Nat.add_sub_cancel_left]

section
variable {w : World} {g : Nat} {R : BR}
theorem BRAt.lt (h : BRAt w g R) : g < w.heap.size := (Array.getElem?_eq_some_iff.1 h).1
theorem BRAt.cell (h : BRAt w g R) {k : Nat} {v : Value} (hk : R.row[k]? = some v) : w.cell? ⟨g, k, none⟩ = some v := by
  rw [cell_of_row w g k _ _ _ h, List.getElem?_toArray]; exact hk
theorem BRAt.frozen (h : BRAt w g R) (k : Nat) : w.frozen? ⟨g, k, none⟩ = false := frozen_of_row w g k _ _ h
theorem BRAt.set (h : BRAt w g R) {k : Nat} {v : Value} {R' : BR} (e : R.row.set k v = R'.row) : BRAt (w.setCell ⟨g, k, none⟩ v) g R' := by
  unfold BRAt
  rw [Go.heap_setCell_same w g k _ _ v h, List.setIfInBounds_toArray, e]
theorem BRAt.same {w' : World} (h : BRAt w g R) (e : w'.heap[g]? = w.heap[g]?) : BRAt w' g R := e.trans h
theorem BRAt.below {w' : World} (h : BRAt w g R) (hb : Below w.heap.size w w') : BRAt w' g R := h.same (hb.block g h.lt)
/-- its cells -/
structure BCells (w : World) (g : Nat) (R : BR) : Prop where
  c0 : w.cell? ⟨g, 1024, none⟩ = some (.int .i64 R.u)
  c1 : w.cell? ⟨g, 1025, none⟩ = some (.int .i64 R.v)
  c2 : w.cell? ⟨g, 1026, none⟩ = some (.bool true)
  c3 : w.cell? ⟨g, 1027, none⟩ = some (.int .i64 R.pt)
  c4 : w.cell? ⟨g, 1028, none⟩ = some (.int .i64 R.mr)
theorem BRAt.cells (h : BRAt w g R) (ok : BROk R) : BCells w g R :=
  ⟨h.cell (BR.row_tl ok 0), h.cell (BR.row_tl ok 1), h.cell (BR.row_tl ok 2), h.cell (BR.row_tl ok 3), h.cell (BR.row_tl ok 4)⟩
/-- a slice of its array -/
theorem BRAt.holds (h : BRAt w g R) (ok : BROk R) {a b c : Nat} (hab : a ≤ b) (hb : b ≤ 1024) (hc : b - a ≤ c) (p : Addr) (hp : a < b → p = ⟨g, a, none⟩) : Holds1 w (.slice (some p) (b - a) c) (runeVals (cutOf R.A a b)) := by
  have hl : (runeVals (cutOf R.A a b)).length = b - a := by rw [runeVals_length, cutOf_length _ (by rw [ok.len]; exact hb)]
  refine ⟨some p, c, by rw [hl], ⟨by rw [hl]; exact hc, fun e => by cases e⟩, fun hn => ?_⟩
  rw [hl] at hn
  refine ⟨g, a, by rw [hp (by omega)], h.lt, fun j u hu => ?_⟩
  have hj : j < b - a := by rw [← hl]; exact (List.getElem?_eq_some_iff.1 hu).1
  refine h.cell ?_
  rw [BR.row_A ok _ (by omega)]
  rw [← hu]
  unfold runeVals
  rw [List.getElem?_map, List.getElem?_map, cutOf_at, if_pos (by omega)]
end
section
variable {w : World} {g : Nat} {S : BS}
theorem BufAt.lt (h : BufAt w g S) : g < w.heap.size := by obtain ⟨R, _, h, _⟩ := h; exact h.lt
theorem BufAt.ok (h : BufAt w g S) : BOk S := by obtain ⟨_, _, _, _, h⟩ := h; exact h
theorem BufAt.same {w' : World} (h : BufAt w g S) (e : w'.heap[g]? = w.heap[g]?) : BufAt w' g S := by
  obtain ⟨R, ok, h, e1, e2⟩ := h
  exact ⟨R, ok, h.same e, e1, e2⟩
theorem BufAt.below {w' : World} (h : BufAt w g S) (hb : Below w.heap.size w w') : BufAt w' g S := h.same (hb.block g h.lt)
end
/-- the buffer's block is the one block that turns -/
abbrev Only (g : Nat) : Nat → Prop := fun k => k = g
theorem only_set (w : World) (g k : Nat) (v : Value) : Touch (Only g) w (w.setCell ⟨g, k, none⟩ v) := Touch.setCell w ⟨g, k, none⟩ v rfl

/-- a slice of the array, cut at a and b -/
def cutAt (g a : Nat) : Addr := if 1024 = a then ⟨g, 0, none⟩ else ⟨g, a, none⟩
theorem cutAt_lt {g a : Nat} (h : a < 1024) : cutAt g a = ⟨g, a, none⟩ := if_neg (by omega)
theorem slice_arr (g a b : Nat) (hab : a ≤ b) (hb : b ≤ 1024) (W : World) : (Instr.sliceAt 66 (.pointer (some ⟨g, 0, none⟩)) (some (.int .i64 (a : Int))) (some (.int .i64 (b : Int))) none).run Tryd.prog W = .ok (.slice (some (cutAt g a)) (b - a) (1024 - a)) W := by
  simp [Instr.sliceAt, Instr.sureAddr, Instr.sliceBounds, Instr.sliceBound, asIntOf, run_underlying Tryd.underlying66, go_sem]
  rw [if_pos hb, if_pos hab]
  rfl
theorem slice_from (g a : Nat) (ha : a ≤ 1024) (W : World) : (Instr.sliceAt 66 (.pointer (some ⟨g, 0, none⟩)) (some (.int .i64 (a : Int))) none none).run Tryd.prog W = .ok (.slice (some (cutAt g a)) (1024 - a) (1024 - a)) W := by
  simp [Instr.sliceAt, Instr.sureAddr, Instr.sliceBounds, Instr.sliceBound, asIntOf, run_underlying Tryd.underlying66, go_sem]
  rw [if_pos ha]
  rfl
theorem BRAt.cut {w : World} {g : Nat} {R : BR} (h : BRAt w g R) (ok : BROk R) {a b : Nat} (hab : a ≤ b) (hb : b ≤ 1024) : Holds1 w (.slice (some (cutAt g a)) (b - a) (1024 - a)) (runeVals (cutOf R.A a b)) :=
  h.holds ok hab hb (by omega) _ fun hlt => cutAt_lt (by omega)
/-- runes copied onto the array -/
theorem copy_arr {w : World} {g : Nat} {R : BR} (hR : BRAt w g R) (ok : BROk R) (ty : TypeId) {a : Nat} {x : List Int} {A : Option Addr} {n c : Nat} (hx : Holds1 w (.slice A n c) (runeVals x)) (hfit : a + x.length ≤ 1024) :
    ∃ w', (Builtin.copy_ #[22, 22] ty #[.slice (some (cutAt g a)) (1024 - a) (1024 - a), .slice A n c]).run Tryd.prog w = .ok (goInt x.length) w' ∧ BRAt w' g { R with A := splice R.A a x } ∧ Touch (Only g) w w' := by
  have hn : n = x.length := by
    obtain ⟨A', c', e, _⟩ := hx
    injection e with e1 e2
    rw [e2, runeVals_length]
  subst hn
  rcases Nat.eq_zero_or_pos x.length with h0 | h0
  · obtain rfl : x = [] := List.eq_nil_of_length_eq_zero h0
    refine ⟨w, run_copy_none (P := Tryd.prog) w 22 22 ty 21 _ _ _ _ _ _ Tryd.underlying22 (by kernel_rfl) (by simp), ?_, Touch.refl _ _⟩
    have e : splice R.A a ([] : List Int) = R.A := by simp [splice]
    rw [e]
    exact hR
  · obtain ⟨A', c', e, hc, hcell⟩ := hx
    injection e with e1 e2 e3
    subst e1 e3
    rw [runeVals_length] at hcell
    obtain ⟨b, off, rfl, _, hj⟩ := hcell h0
    have e : cutAt g a = ⟨g, a, none⟩ := cutAt_lt (by omega)
    rw [e]
    have hsz : R.row.toArray.size = 1029 := by rw [List.size_toArray, BR.row_length ok]
    have hrun := run_copy_row (P := Tryd.prog) w 22 22 ty 21 g a (1024 - a) (1024 - a) ⟨b, off, none⟩ x.length c R.row.toArray 70 (runeVals x) Tryd.underlying22 (by kernel_rfl) hR (by rw [runeVals_length]; exact (Nat.min_eq_left (by omega)).symm) (fun j v hv => by rw [add_off]; exact hj j v hv) (by rw [runeVals_length, hsz]; omega) (runeVals_one x)
    rw [runeVals_length] at hrun
    refine ⟨_, hrun, ?_, ⟨rfl, rfl, rfl, by simp [World.setRow], fun k _ hk => setRow_other w g k _ hk⟩⟩
    unfold BRAt
    rw [setRow_heap w g _ _ _ _ hR]
    congr 3
    unfold BR.row splice
    rw [List.take_append_of_le_length (by rw [runeVals_length, ok.len]; omega), List.drop_append_of_le_length (by rw [runeVals_length, ok.len]; omega)]
    simp [runeVals, BR.tl]
end Go.Proofs.YtepbhmebidmnbaaDoor
