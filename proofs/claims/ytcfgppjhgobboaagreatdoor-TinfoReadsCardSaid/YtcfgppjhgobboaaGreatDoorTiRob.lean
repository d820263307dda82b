/-
  Entries that stay what they are while other blocks are written; num of the document.
-/
import Derived.Test.YtcfgppjhgobboaaGreatDoorTmObjs
namespace Go.Proofs.YtcfgppjhgobboaaGreatDoor
open Go.RowKit Go.Shelf Go.Lib
attribute [local go_sem] Oper.semAt_some

/-- a list that stays whatever becomes of the blocks of T -/
def Rob (T : Nat → Prop) (W : World) (u : Value) (l : List CapD) : Prop := ∀ W', Touch T W W' → CapsV W' u l
structure RobT (T : Nat → Prop) (W : World) (v : Nat → Value) (ve : Value) (t : TermD) : Prop where
  caps : ∀ i : Nat, i < 3 → Rob T W (v i) (listOf t i)
  exts : ∀ W', Touch T W W' → ExtsV W' ve t.exts
theorem Rob.next {T : Nat → Prop} {W W' : World} {u : Value} {l : List CapD} (h : Rob T W u l) (ht : Touch T W W') : Rob T W' u l := fun _ h2 => h _ (ht.trans h2)
theorem Rob.val {T : Nat → Prop} {W : World} {u : Value} {l : List CapD} (h : Rob T W u l) : CapsV W u l := h W (Touch.refl _ _)
theorem RobT.next {T : Nat → Prop} {W W' : World} {v : Nat → Value} {ve : Value} {t : TermD} (h : RobT T W v ve t) (ht : Touch T W W') : RobT T W' v ve t := ⟨fun i hi => (h.caps i hi).next ht, fun _ h2 => h.exts _ (ht.trans h2)⟩
theorem RobT.below {T : Nat → Prop} {W W' : World} {v : Nat → Value} {ve : Value} {t : TermD} (h : RobT T W v ve t) (ht : Below W.heap.size W W') : RobT T W' v ve t := h.next (Touch.of_below ht)
theorem RobT.val {T : Nat → Prop} {W : World} {v : Nat → Value} {ve : Value} {t : TermD} (h : RobT T W v ve t) : TermV W v ve t := ⟨fun i hi => (h.caps i hi).val, h.exts _ (Touch.refl _ _)⟩
theorem Rob.of_row {T : Nat → Prop} {W : World} {u : Value} {l : List CapD} (hr : CapRow W u l) (ho : ∀ b, u.ownBlock = some b → ¬ T b) (hl : l.length * 32 ≤ 140737488355328) : Rob T W u l :=
  fun _ ht => hr.kept (fun b hb => ht.block b (own_lt hr b hb).2 (ho b hb)) hl
/-- what is read stays while new blocks are written -/
theorem RobT.fresh {w : World} {v : Nat → Value} {ve : Value} {t : TermD} (h : TermV w v ve t) : RobT (fun k => w.heap.size ≤ k) w v ve t :=
  ⟨fun i hi _ ht => (h.caps i hi).below (ht.below (Nat.le_refl _) fun _ hk => hk), fun _ ht => h.exts.below (ht.below (Nat.le_refl _) fun _ hk => hk)⟩

/-- the answer: an entry that stays -/
def RobPost (T : Nat → Prop) (w : World) (t : TermD) (e : Ending) (w' : World) : Prop := ∃ u ue, e = .returned (termVal t u ue) ∧ RobT T w' u ue t ∧ Below w.heap.size w w'
theorem RobT.slices {T : Nat → Prop} {W : World} {v : Nat → Value} {ve : Value} {t : TermD} (h : RobT T W v ve t) : ∃ A0 n0 A1 n1 A2 n2 A3 n3, termVal t v ve = .agg #[str t.names, .bool t.wide, .slice A0 t.bools.length n0, .slice A1 t.nums.length n1, .slice A2 t.strs.length n2, .slice A3 t.exts.length n3] ∧
    (t.bools.length * 32 ≤ 140737488355328 ∧ t.nums.length * 32 ≤ 140737488355328 ∧ t.strs.length * 32 ≤ 140737488355328) ∧
    Rob T W (.slice A0 t.bools.length n0) t.bools ∧ Rob T W (.slice A1 t.nums.length n1) t.nums ∧ Rob T W (.slice A2 t.strs.length n2) t.strs ∧ (∀ W', Touch T W W' → ExtsV W' (.slice A3 t.exts.length n3) t.exts) := by
  obtain ⟨A0, n0, A1, n1, A2, n2, A3, n3, e0, e1, e2, e3, ⟨s0, s1, s2, _⟩, _⟩ := h.val.forms
  have h0 := h.caps 0 (by omega)
  have h1 := h.caps 1 (by omega)
  have h2 := h.caps 2 (by omega)
  have h3 := h.exts
  rw [e0] at h0
  rw [e1] at h1
  rw [e2] at h2
  rw [e3] at h3
  exact ⟨A0, n0, A1, n1, A2, n2, A3, n3, by rw [termVal, e0, e1, e2, e3], ⟨s0, s1, s2⟩, h0, h1, h2, h3⟩
theorem RobT.mk4 {T : Nat → Prop} {W : World} {p q r s : Value} {t : TermD} (h0 : Rob T W p t.bools) (h1 : Rob T W q t.nums) (h2 : Rob T W r t.strs) (h3 : ∀ W', Touch T W W' → ExtsV W' s t.exts) : RobT T W (tri p q r) s t := by
  refine ⟨fun i hi => ?_, h3⟩
  match i, hi with
  | 0, _ => exact h0
  | 1, _ => exact h1
  | 2, _ => exact h2
/-- the blocks of T, and the two boxes of a call -/
def Two (T : Nat → Prop) (w : World) (k : Nat) : Prop := T k ∨ k = w.heap.size ∨ k = w.heap.size + 1
theorem two_grow {T : Nat → Prop} {w W W' : World} (h : Touch T w W) (h' : Touch (Two T w) W W') : Touch T w W' := touch_grow h (h'.mono fun k _ hk => by
  rcases hk with hk | hk | hk
  · exact .inl hk
  · exact .inr (by omega)
  · exact .inr (by omega))
theorem Rob.two {T : Nat → Prop} {w W : World} {u : Value} {l : List CapD} (h : Rob T w u l) (hW : Touch T w W) : Rob (Two T w) W u l := fun _ h2 => h _ (two_grow hW h2)
theorem exts_two {T : Nat → Prop} {w W : World} {u : Value} {l : List ExtD} (h : ∀ W', Touch T w W' → ExtsV W' u l) (hW : Touch T w W) : ∀ W', Touch (Two T w) W W' → ExtsV W' u l := fun _ h2 => h _ (two_grow hW h2)
theorem Rob.less {T : Nat → Prop} {w W : World} {u : Value} {l : List CapD} (h : Rob (Two T w) W u l) : Rob T W u l := fun _ h2 => h _ (h2.mono fun _ _ hk => .inl hk)
theorem Rob.new {T : Nat → Prop} {w W2 W : World} {u : Value} {l : List CapD} (hT : ∀ k, T k → k < w.heap.size) (hs : w.heap.size + 2 ≤ W2.heap.size) (hr : CapRow W u l) (ho : ∀ b, u.ownBlock = some b → W2.heap.size ≤ b) (hl : l.length * 32 ≤ 140737488355328) : Rob (Two T w) W u l :=
  Rob.of_row hr (fun b hb hk => by
    have := ho b hb
    rcases hk with hk | hk | hk
    · have := hT b hk; omega
    · omega
    · omega) hl
/-- a call's two boxes -/
structure TwoB (w W : World) (nm : List UInt8) (wd : Bool) (p q r s : Value) : Prop where
  box : W.heap[w.heap.size]? = some (termObj nm wd p q r s)
  res : W.heap[w.heap.size + 1]? = some termZero
  below : Below w.heap.size w W
  tabs : Tabs W
theorem TwoB.made {w : World} (hT : Tabs w) (nm : List UInt8) (wd : Bool) (p q r s : Value) : TwoB w ((w.alloc (termObj nm wd p q r s)).alloc termZero) nm wd p q r s := by
  have hb : Below w.heap.size w ((w.alloc (termObj nm wd p q r s)).alloc termZero) := ((Below.refl _ w).alloc (Nat.le_refl _) _).alloc (by simp) _
  refine ⟨?_, ?_, hb, hT.below hb⟩
  · rw [Below.heap_alloc _ _ _ (by simp)]; exact World.alloc_heap_new w _
  · have := World.alloc_heap_new (w.alloc (termObj nm wd p q r s)) termZero; rwa [World.size_alloc] at this
theorem TwoB.next {w W W' : World} {nm : List UInt8} {wd : Bool} {p q r s : Value} (h : TwoB w W nm wd p q r s) (hb : Below W.heap.size W W') : TwoB w W' nm wd p q r s :=
  ⟨(hb.block _ (Array.getElem?_eq_some_iff.1 h.box).1).trans h.box, (hb.block _ (Array.getElem?_eq_some_iff.1 h.res).1).trans h.res, h.below.trans (hb.mono h.below.size), h.tabs.below hb⟩
theorem TwoB.put {w W : World} {nm : List UInt8} {wd : Bool} {p q r s : Value} (h : TwoB w W nm wd p q r s) (hT : Tabs w) (j : Nat) (u : Value) {p' q' r' s' : Value} (he : (#[str nm, .bool wd, p, q, r, s] : Array Value).setIfInBounds j u = #[str nm, .bool wd, p', q', r', s']) : TwoB w (W.setCell ⟨w.heap.size, j, none⟩ u) nm wd p' q' r' s' := by
  have ht : Touch (fun k => k = w.heap.size) W (W.setCell ⟨w.heap.size, j, none⟩ u) := Touch.setCell (T := fun k => k = w.heap.size) W ⟨w.heap.size, j, none⟩ u rfl
  refine ⟨?_, ?_, ?_, ?_⟩
  · have := heap_setCell_same W w.heap.size j _ _ u h.box
    rw [he] at this
    exact this
  · exact (ht.block _ (Array.getElem?_eq_some_iff.1 h.res).1 (by omega)).trans h.res
  · exact (Touch.trans (Touch.of_below (T := fun k => w.heap.size ≤ k) h.below) (ht.mono fun k _ hk => by omega)).below (Nat.le_refl _) fun k hk => hk
  · exact h.tabs.touch ht fun k hk => by have := hT.lt; omega
theorem TwoB.cells {w W : World} {nm : List UInt8} {wd : Bool} {p q r s : Value} (h : TwoB w W nm wd p q r s) :
    W.cell? ⟨w.heap.size, 0, none⟩ = some (str nm) ∧ W.cell? ⟨w.heap.size, 1, none⟩ = some (.bool wd) ∧ W.cell? ⟨w.heap.size, 2, none⟩ = some p ∧ W.cell? ⟨w.heap.size, 3, none⟩ = some q ∧ W.cell? ⟨w.heap.size, 4, none⟩ = some r ∧ W.cell? ⟨w.heap.size, 5, none⟩ = some s ∧ (∀ j, W.frozen? ⟨w.heap.size, j, none⟩ = false) :=
  ⟨cell_of_row W _ 0 _ _ _ h.box, cell_of_row W _ 1 _ _ _ h.box, cell_of_row W _ 2 _ _ _ h.box, cell_of_row W _ 3 _ _ _ h.box, cell_of_row W _ 4 _ _ _ h.box, cell_of_row W _ 5 _ _ _ h.box, fun j => frozen_of_row W _ j _ _ h.box⟩
theorem TwoB.size {w W : World} {nm : List UInt8} {wd : Bool} {p q r s : Value} (h : TwoB w W nm wd p q r s) : w.heap.size + 2 ≤ W.heap.size := (Array.getElem?_eq_some_iff.1 h.res).1
theorem TwoB.done {w W : World} {nm : List UInt8} {wd : Bool} {p q r s : Value} (h : TwoB w W nm wd p q r s) (rt : TermD) (y : Nat → Value) (ye : Value) (T : Nat → Prop) : Touch (Two T w) W (storeTerm W (w.heap.size + 1) rt y ye) ∧ Below w.heap.size w (storeTerm W (w.heap.size + 1) rt y ye) := by
  have ht := storeTerm_touch W (w.heap.size + 1) rt y ye
  exact ⟨ht.mono fun k _ hk => .inr (.inr hk), (Touch.trans (Touch.of_below (T := fun k => w.heap.size ≤ k) h.below) (ht.mono fun k _ hk => by omega)).below (Nat.le_refl _) fun k hk => hk⟩
end Go.Proofs.YtcfgppjhgobboaaGreatDoor
