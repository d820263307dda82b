/-
  Entries of package tinfo in memory: a list of capabilities, an entry in a box, an entry as a value. No program is walked here, and nothing is assumed.
-/
import Derived.Test.YtcfgppjhgobboaaGreatDoorTiRefPlace
import Derived.Test.YtcfgppjhgobboaaGreatDoorTmBase
namespace Go.Proofs.YtcfgppjhgobboaaGreatDoor
open Go.RowKit Go.Shelf Go.Lib

def capCells (c : CapD) : List Value := [.int .i64 c.st, .int .i64 c.num, str c.text]
def capVals (l : List CapD) : List Value := l.flatMap capCells
abbrev capVal (c : CapD) : Value := .agg #[.int .i64 c.st, .int .i64 c.num, str c.text]
def extCells (x : ExtD) : List Value := [.int .i64 x.kind, str x.name, .int .i64 x.cap.st, .int .i64 x.cap.num, str x.cap.text]
def extVals (l : List ExtD) : List Value := l.flatMap extCells
abbrev extVal (x : ExtD) : Value := .agg #[.int .i64 x.kind, str x.name, .int .i64 x.cap.st, .int .i64 x.cap.num, str x.cap.text]
theorem capVals_length (l : List CapD) : (capVals l).length = l.length * 3 := by
  induction l with
  | nil => rfl
  | cons x l ih => simp only [capVals, List.flatMap_cons, List.length_append] at ih ⊢; rw [ih]; simp [capCells]; omega
theorem extVals_length (l : List ExtD) : (extVals l).length = l.length * 5 := by
  induction l with
  | nil => rfl
  | cons x l ih => simp only [extVals, List.flatMap_cons, List.length_append] at ih ⊢; rw [ih]; simp [extCells]; omega
theorem capVals_append (a b : List CapD) : capVals (a ++ b) = capVals a ++ capVals b := List.flatMap_append
theorem extVals_append (a b : List ExtD) : extVals (a ++ b) = extVals a ++ extVals b := List.flatMap_append
theorem capVals_one (l : List CapD) : ∀ u ∈ capVals l, u.oneCell' = true := by
  intro u hu
  obtain ⟨c, _, hc⟩ := List.mem_flatMap.1 hu
  simp [capCells] at hc
  rcases hc with rfl | rfl | rfl <;> rfl
theorem extVals_one (l : List ExtD) : ∀ u ∈ extVals l, u.oneCell' = true := by
  intro u hu
  obtain ⟨c, _, hc⟩ := List.mem_flatMap.1 hu
  simp [extCells] at hc
  rcases hc with rfl | rfl | rfl | rfl | rfl <;> rfl
theorem capVals_at {l : List CapD} {i : Nat} {c : CapD} (h : l[i]? = some c) (j : Nat) (hj : j < 3) : (capVals l)[i * 3 + j]? = (capCells c)[j]? := by
  induction l generalizing i with
  | nil => simp at h
  | cons x l ih =>
    cases i with
    | zero =>
      simp at h
      subst h
      simp only [capVals, List.flatMap_cons]
      rw [List.getElem?_append_left (by simp [capCells]; omega)]
      simp
    | succ i =>
      have := ih (by simpa using h)
      simp only [capVals, List.flatMap_cons] at this ⊢
      rw [List.getElem?_append_right (by simp [capCells]; omega), ← this]
      congr 1
      simp [capCells]
      omega
theorem extVals_at {l : List ExtD} {i : Nat} {c : ExtD} (h : l[i]? = some c) (j : Nat) (hj : j < 5) : (extVals l)[i * 5 + j]? = (extCells c)[j]? := by
  induction l generalizing i with
  | nil => simp at h
  | cons x l ih =>
    cases i with
    | zero =>
      simp at h
      subst h
      simp only [extVals, List.flatMap_cons]
      rw [List.getElem?_append_left (by simp [extCells]; omega)]
      simp
    | succ i =>
      have := ih (by simpa using h)
      simp only [extVals, List.flatMap_cons] at this ⊢
      rw [List.getElem?_append_right (by simp [extCells]; omega), ← this]
      congr 1
      simp [extCells]
      omega

/-- a slice that reads as a list of capabilities -/
def CapsV (W : World) (v : Value) (l : List CapD) : Prop := ∃ A cap, v = .slice A l.length cap ∧ l.length ≤ cap ∧ l.length * 32 ≤ 140737488355328 ∧ Src W 3 A cap l.length (capVals l)
def ExtsV (W : World) (v : Value) (l : List ExtD) : Prop := ∃ A cap, v = .slice A l.length cap ∧ l.length ≤ cap ∧ l.length * 56 ≤ 140737488355328 ∧ Src W 5 A cap l.length (extVals l)
theorem Src.same {w w' : World} {size : Nat} {A : Option Addr} {c m : Nat} {xs : List Value} (h : Src w size A c m xs) (hsz : w.heap.size ≤ w'.heap.size) (hb : ∀ k off, A = some ⟨k, off, none⟩ → k < w.heap.size → w'.heap[k]? = w.heap[k]?) : Src w' size A c m xs := by
  refine ⟨h.len, h.nil, fun hm => ?_⟩
  obtain ⟨k, off, e, hk, hc⟩ := h.cells hm
  exact ⟨k, off, e, Nat.lt_of_lt_of_le hk hsz, fun j u hu => (World.cell?_of_block (w := w) (w' := w') (a := ⟨k, off + j, none⟩) (hb k off e hk)).trans (hc j u hu)⟩
theorem CapsV.below {w w' : World} {v : Value} {l : List CapD} (h : CapsV w v l) (hb : Below w.heap.size w w') : CapsV w' v l := by
  obtain ⟨A, cap, e, h1, h2, h3⟩ := h
  exact ⟨A, cap, e, h1, h2, h3.below hb⟩
theorem ExtsV.below {w w' : World} {v : Value} {l : List ExtD} (h : ExtsV w v l) (hb : Below w.heap.size w w') : ExtsV w' v l := by
  obtain ⟨A, cap, e, h1, h2, h3⟩ := h
  exact ⟨A, cap, e, h1, h2, h3.below hb⟩
theorem CapsV.drewN {w : World} {v : Value} {l : List CapD} (h : CapsV w v l) (n : Nat) : CapsV (w.drewN n) v l := h.below ⟨rfl, rfl, rfl, Nat.le_refl _, fun _ _ => rfl⟩
/-- where one element lies -/
theorem CapsV.cells {w : World} {A : Option Addr} {n cap : Nat} {l : List CapD} (h : CapsV w (.slice A n cap) l) {i : Nat} {c : CapD} (hi : l[i]? = some c) :
    ∃ k off, A = some ⟨k, off, none⟩ ∧ k < w.heap.size ∧ w.cell? ⟨k, off + i * 3, none⟩ = some (.int .i64 c.st) ∧ w.cell? ⟨k, off + i * 3 + 1, none⟩ = some (.int .i64 c.num) ∧ w.cell? ⟨k, off + i * 3 + 2, none⟩ = some (str c.text) := by
  obtain ⟨A', cap', e, h1, h2, h3⟩ := h
  injection e with e1 e2 e3
  subst e1
  have hlt := (List.getElem?_eq_some_iff.1 hi).1
  obtain ⟨k, off, e, hk, hc⟩ := h3.cells (by omega)
  refine ⟨k, off, e, hk, ?_, ?_, ?_⟩
  · exact hc (i * 3) _ (by have := capVals_at hi 0 (by omega); simpa [capCells] using this)
  · exact hc (i * 3 + 1) _ (by rw [capVals_at hi 1 (by omega)]; rfl)
  · exact hc (i * 3 + 2) _ (by rw [capVals_at hi 2 (by omega)]; rfl)
theorem ExtsV.cells {w : World} {A : Option Addr} {n cap : Nat} {l : List ExtD} (h : ExtsV w (.slice A n cap) l) {i : Nat} {c : ExtD} (hi : l[i]? = some c) :
    ∃ k off, A = some ⟨k, off, none⟩ ∧ k < w.heap.size ∧ w.cell? ⟨k, off + i * 5, none⟩ = some (.int .i64 c.kind) ∧ w.cell? ⟨k, off + i * 5 + 1, none⟩ = some (str c.name) ∧ w.cell? ⟨k, off + i * 5 + 2, none⟩ = some (.int .i64 c.cap.st) ∧ w.cell? ⟨k, off + i * 5 + 3, none⟩ = some (.int .i64 c.cap.num) ∧ w.cell? ⟨k, off + i * 5 + 4, none⟩ = some (str c.cap.text) := by
  obtain ⟨A', cap', e, h1, h2, h3⟩ := h
  injection e with e1 e2 e3
  subst e1
  have hlt := (List.getElem?_eq_some_iff.1 hi).1
  obtain ⟨k, off, e, hk, hc⟩ := h3.cells (by omega)
  refine ⟨k, off, e, hk, ?_, ?_, ?_, ?_, ?_⟩
  · exact hc (i * 5) _ (by have := extVals_at hi 0 (by omega); simpa [extCells] using this)
  · exact hc (i * 5 + 1) _ (by rw [extVals_at hi 1 (by omega)]; rfl)
  · exact hc (i * 5 + 2) _ (by rw [extVals_at hi 2 (by omega)]; rfl)
  · exact hc (i * 5 + 3) _ (by rw [extVals_at hi 3 (by omega)]; rfl)
  · exact hc (i * 5 + 4) _ (by rw [extVals_at hi 4 (by omega)]; rfl)

/-- a row of capabilities of the call's own -/
def CapRow (W : World) (v : Value) (l : List CapD) : Prop := W.ownsRow 0 37 3 v l.length (capVals l)
def ExtRow (W : World) (v : Value) (l : List ExtD) : Prop := W.ownsRow 0 48 5 v l.length (extVals l)
theorem own_src {w : World} {base size n : Nat} {e : TypeId} {v : Value} {xs : List Value} (h : w.ownsRow base e size v n xs) : ∃ A cap, v = .slice A n cap ∧ n ≤ cap ∧ Src w size A cap n xs := by
  obtain ⟨A, cap, rfl, h1, h2⟩ := own_form h
  refine ⟨A, cap, rfl, h1, ?_⟩
  have := own_head h (Nat.le_refl n)
  rw [List.take_of_length_le (by rw [h.1]; exact Nat.le_refl _)] at this
  exact this
theorem CapRow.reads {w : World} {v : Value} {l : List CapD} (h : CapRow w v l) (hl : l.length * 32 ≤ 140737488355328) : CapsV w v l := by
  obtain ⟨A, cap, e, h1, h2⟩ := own_src h
  exact ⟨A, cap, e, h1, hl, h2⟩
theorem ExtRow.reads {w : World} {v : Value} {l : List ExtD} (h : ExtRow w v l) (hl : l.length * 56 ≤ 140737488355328) : ExtsV w v l := by
  obtain ⟨A, cap, e, h1, h2⟩ := own_src h
  exact ⟨A, cap, e, h1, hl, h2⟩
theorem own_same {w w' : World} {base size n : Nat} {e : TypeId} {v : Value} {xs : List Value} (h : w.ownsRow base e size v n xs) (hb : ∀ k, v.ownBlock = some k → w'.heap[k]? = w.heap[k]?) : w'.ownsRow base e size v n xs := by
  obtain ⟨h1, h2⟩ := h
  refine ⟨h1, ?_⟩
  rcases h2 with h2 | ⟨g, cap, cur, hv, hg, hh, r⟩
  · exact .inl h2
  · exact .inr ⟨g, cap, cur, hv, hg, (hb g (by rw [hv]; rfl)).trans hh, r⟩
theorem own_zero {w : World} {base size n : Nat} {e : TypeId} {v : Value} {xs : List Value} (h : w.ownsRow base e size v n xs) : w.ownsRow 0 e size v n xs := by
  obtain ⟨h1, h2⟩ := h
  refine ⟨h1, ?_⟩
  rcases h2 with h2 | ⟨g, cap, cur, hv, hg, r⟩
  · exact .inl h2
  · exact .inr ⟨g, cap, cur, hv, Nat.zero_le _, r⟩
theorem own_lt {w : World} {base size n : Nat} {e : TypeId} {v : Value} {xs : List Value} (h : w.ownsRow base e size v n xs) : ∀ k, v.ownBlock = some k → base ≤ k ∧ k < w.heap.size := by
  intro k hk
  rcases h.2 with ⟨rfl, _⟩ | ⟨g, cap, cur, rfl, hg, hh, _⟩
  · cases hk
  · simp [Value.ownBlock] at hk
    subst hk
    exact ⟨hg, (Array.getElem?_eq_some_iff.1 hh).1⟩

/-- an entry at block tb: its blocks are of FP -/
structure TermAt (W : World) (FP : Nat → Prop) (tb : Nat) (v : Nat → Value) (ve : Value) (t : TermD) : Prop where
  cells : W.heap[tb]? = some (.cells #[str t.names, .bool t.wide, v 0, v 1, v 2, ve] 26 (0, 0))
  rows : ∀ i : Nat, i < 3 → CapRow W (v i) (listOf t i)
  exts : ExtRow W ve t.exts
  self : FP tb
  own : ∀ i : Nat, i < 3 → ∀ b, (v i).ownBlock = some b → FP b ∧ b ≠ tb
  owne : ∀ b, ve.ownBlock = some b → FP b ∧ b ≠ tb
  apart : ∀ i j : Nat, i < 3 → j < 3 → i ≠ j → ∀ b, (v i).ownBlock = some b → (v j).ownBlock ≠ some b
  aparte : ∀ i : Nat, i < 3 → ∀ b, (v i).ownBlock = some b → ve.ownBlock ≠ some b
theorem TermAt.lt {W : World} {FP : Nat → Prop} {tb : Nat} {v : Nat → Value} {ve : Value} {t : TermD} (h : TermAt W FP tb v ve t) : tb < W.heap.size := (Array.getElem?_eq_some_iff.1 h.cells).1
theorem TermAt.more {W : World} {FP FP' : Nat → Prop} {tb : Nat} {v : Nat → Value} {ve : Value} {t : TermD} (h : TermAt W FP tb v ve t) (hP : ∀ k, k < W.heap.size → FP k → FP' k) : TermAt W FP' tb v ve t :=
  ⟨h.cells, h.rows, h.exts, hP _ h.lt h.self, fun i hi b hb => ⟨hP _ (own_lt (h.rows i hi) b hb).2 (h.own i hi b hb).1, (h.own i hi b hb).2⟩, fun b hb => ⟨hP _ (own_lt h.exts b hb).2 (h.owne b hb).1, (h.owne b hb).2⟩, h.apart, h.aparte⟩
theorem TermAt.same {W W' : World} {FP : Nat → Prop} {tb : Nat} {v : Nat → Value} {ve : Value} {t : TermD} (h : TermAt W FP tb v ve t) (hb : ∀ k, k < W.heap.size → FP k → W'.heap[k]? = W.heap[k]?) : TermAt W' FP tb v ve t :=
  ⟨(hb _ h.lt h.self).trans h.cells, fun i hi => own_same (h.rows i hi) fun k hk => hb k (own_lt (h.rows i hi) k hk).2 (h.own i hi k hk).1, own_same h.exts fun k hk => hb k (own_lt h.exts k hk).2 (h.owne k hk).1, h.self, h.own, h.owne, h.apart, h.aparte⟩
theorem TermAt.below {W W' : World} {FP : Nat → Prop} {tb : Nat} {v : Nat → Value} {ve : Value} {t : TermD} (h : TermAt W FP tb v ve t) (hb : Below W.heap.size W W') : TermAt W' FP tb v ve t := h.same fun k hk _ => hb.block k hk

/-- an entry as a value -/
abbrev termVal (t : TermD) (v : Nat → Value) (ve : Value) : Value := .agg #[str t.names, .bool t.wide, v 0, v 1, v 2, ve]
structure TermV (W : World) (v : Nat → Value) (ve : Value) (t : TermD) : Prop where
  caps : ∀ i : Nat, i < 3 → CapsV W (v i) (listOf t i)
  exts : ExtsV W ve t.exts
theorem TermV.below {W W' : World} {v : Nat → Value} {ve : Value} {t : TermD} (h : TermV W v ve t) (hb : Below W.heap.size W W') : TermV W' v ve t := ⟨fun i hi => (h.caps i hi).below hb, h.exts.below hb⟩

end Go.Proofs.YtcfgppjhgobboaaGreatDoor
