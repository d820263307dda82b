/-
  Rows that a law writes: what a store into them asks, and what stays. No program is walked here, and nothing is assumed.
-/
import Derived.Test.YtcfgppjhgobboaaGreatDoorTiOwnR
import Derived.Test.YtcfgppjhgobboaaGreatDoorTiRefShip
namespace Go.Proofs.YtcfgppjhgobboaaGreatDoor
open Go.RowKit Go.Lib

/-- m cells from A on may be written; they lie in a block from B on, below S -/
def WrV (B S : Nat) (W : World) (A : Option Addr) (m : Nat) : Prop := 0 < m → ∃ g cs T, A = some ⟨g, 0, none⟩ ∧ B ≤ g ∧ g < S ∧ W.heap[g]? = some (.cells cs T (0, 0)) ∧ m ≤ cs.size
theorem WrV.of_row {B : Nat} {W : World} {e : TypeId} {size n cap : Nat} {A : Option Addr} {xs : List Value} (h : W.ownsRow 0 e size (.slice A n cap) n xs) (hB : ∀ b, (Value.slice A n cap).ownBlock = some b → B ≤ b) : WrV B W.heap.size W A (n * size) := by
  intro hm
  rcases h.2 with ⟨e1, h0⟩ | ⟨g, cap', cur, e1, _, hg, hn, _, hs, _⟩
  · subst h0; simp at hm
  · injection e1 with e1 e2 e3
    subst e1
    have := (Array.getElem?_eq_some_iff.1 hg).1
    refine ⟨g, cur, e, rfl, hB g rfl, this, hg, ?_⟩
    rw [hs]
    exact Nat.mul_le_mul_right _ (by omega)
theorem WrV.next {B S : Nat} {W W' : World} {A : Option Addr} {m : Nat} (h : WrV B S W A m) (hb : Below W.heap.size W W') : WrV B S W' A m := fun hm => by
  obtain ⟨g, cs, T, e, h1, h2, h3, h4⟩ := h hm
  exact ⟨g, cs, T, e, h1, h2, (hb.block _ (Array.getElem?_eq_some_iff.1 h3).1).trans h3, h4⟩
theorem WrV.set {B S : Nat} {W : World} {A : Option Addr} {m : Nat} (h : WrV B S W A m) (b j : Nat) (u : Value) : WrV B S (W.setCell ⟨b, j, none⟩ u) A m := fun hm => by
  obtain ⟨g, cs, T, e, h1, h2, h3, h4⟩ := h hm
  by_cases hbg : b = g
  · subst hbg
    exact ⟨b, _, T, e, h1, h2, heap_setCell_same W b j _ _ u h3, by simpa using h4⟩
  · exact ⟨g, cs, T, e, h1, h2, (Below.heap_setCell W ⟨b, j, none⟩ u g fun e => hbg e.symm).trans h3, h4⟩
theorem WrV.at {B S : Nat} {W : World} {A : Option Addr} {m : Nat} (h : WrV B S W A m) (hm : 0 < m) : ∃ g, A = some ⟨g, 0, none⟩ ∧ B ≤ g ∧ g < S ∧ (∀ j, j < m → ∃ x, W.cell? ⟨g, j, none⟩ = some x) ∧ ∀ j, W.frozen? ⟨g, j, none⟩ = false := by
  obtain ⟨g, cs, T, e, h1, h2, h3, h4⟩ := h hm
  exact ⟨g, e, h1, h2, fun j hj => ⟨cs[j]'(by omega), by rw [cell_of_row W g j _ _ _ h3]; exact Array.getElem?_eq_getElem (by omega)⟩, fun j => frozen_of_row W g j _ _ h3⟩
/-- while the rows of an entry are written: its box, the slice of its rows -/
structure OwW (W1 : World) (S b8 hd : Nat) (A : Option Addr) (n cap : Nat) (W : World) : Prop where
  base : Below W1.heap.size W1 W
  sz : W1.heap.size ≤ S ∧ S ≤ b8 ∧ S ≤ hd ∧ b8 < W.heap.size ∧ hd < W.heap.size
  box : W.cell? ⟨b8, 5, none⟩ = some (.slice A n cap)
  exts : WrV W1.heap.size S W A (n * 5) ∧ n ≤ cap ∧ n * 5 ≤ 140737488355328
  hdr : ∀ q, q < 3 → ∃ A' n' cap', W.cell? ⟨hd, q, none⟩ = some (.slice A' n' cap') ∧ WrV W1.heap.size S W A' (n' * 3) ∧ n' ≤ cap' ∧ n' * 3 ≤ 140737488355328
theorem OwW.set {W1 W : World} {S b8 hd n cap : Nat} {A : Option Addr} (h : OwW W1 S b8 hd A n cap W) {g : Nat} (h1 : W1.heap.size ≤ g) (h2 : g < S) (j : Nat) (u : Value) : OwW W1 S b8 hd A n cap (W.setCell ⟨g, j, none⟩ u) := by
  have ht : Touch (fun k => k = g) W (W.setCell ⟨g, j, none⟩ u) := Touch.setCell (T := fun k => k = g) W ⟨g, j, none⟩ u rfl
  obtain ⟨s1, s2, s3, s4, s5⟩ := h.sz
  have hs := ht.size
  refine ⟨(Touch.trans (Touch.of_below (T := fun k => W1.heap.size ≤ k) h.base) (ht.mono fun k _ hk => by omega)).below (Nat.le_refl _) fun k hk => hk, ⟨s1, s2, s3, by omega, by omega⟩, ?_, ⟨h.exts.1.set g j u, h.exts.2⟩, fun q hq => ?_⟩
  · exact (ht.cell (p := ⟨b8, 5, none⟩) s4 (by show ¬ b8 = g; omega)).trans h.box
  · obtain ⟨A', n', cap', e1, e2, e3⟩ := h.hdr q hq
    exact ⟨A', n', cap', (ht.cell (p := ⟨hd, q, none⟩) s5 (by show ¬ hd = g; omega)).trans e1, e2.set g j u, e3⟩
def OwOut (W1 : World) (S b8 hd : Nat) (A : Option Addr) (n cap : Nat) (i : Value) (W : World) : Prop := ∃ k : Nat, i = .int .i64 k ∧ k ≤ 3 ∧ OwW W1 S b8 hd A n cap W
def OwIn (W1 : World) (S b8 hd : Nat) (A : Option Addr) (n cap : Nat) (A' : Option Addr) (n' : Nat) (i : Value) (W : World) : Prop := ∃ k : Nat, i = .int .i64 k ∧ k ≤ n' ∧ OwW W1 S b8 hd A n cap W ∧ WrV W1.heap.size S W A' (n' * 3)
def OwEx (W1 : World) (S b8 hd : Nat) (A : Option Addr) (n cap : Nat) (i : Value) (W : World) : Prop := ∃ k : Nat, i = .int .i64 k ∧ k ≤ n ∧ OwW W1 S b8 hd A n cap W
/-- while the texts of an entry are written -/
structure OwA (W1 : World) (S b : Nat) (A : Option Addr) (n cap : Nat) (W : World) : Prop where
  base : Below W1.heap.size W1 W
  sz : W1.heap.size ≤ S ∧ S ≤ b ∧ b < W.heap.size
  box : W.cell? ⟨b, 4, none⟩ = some (.slice A n cap)
  row : WrV W1.heap.size S W A (n * 3)
theorem OwA.set {W1 W : World} {S b n cap : Nat} {A : Option Addr} (h : OwA W1 S b A n cap W) {g : Nat} (h1 : W1.heap.size ≤ g) (h2 : g < S) (j : Nat) (u : Value) : OwA W1 S b A n cap (W.setCell ⟨g, j, none⟩ u) := by
  have ht : Touch (fun k => k = g) W (W.setCell ⟨g, j, none⟩ u) := Touch.setCell (T := fun k => k = g) W ⟨g, j, none⟩ u rfl
  obtain ⟨s1, s2, s3⟩ := h.sz
  have hs := ht.size
  refine ⟨(Touch.trans (Touch.of_below (T := fun k => W1.heap.size ≤ k) h.base) (ht.mono fun k _ hk => by omega)).below (Nat.le_refl _) fun k hk => hk, ⟨s1, s2, by omega⟩, ?_, h.row.set g j u⟩
  exact (ht.cell (p := ⟨b, 4, none⟩) s3 (by show ¬ b = g; omega)).trans h.box
def OwAR (W1 : World) (S b : Nat) (A : Option Addr) (n cap : Nat) (i : Value) (W : World) : Prop := ∃ k : Nat, i = .int .i64 k ∧ k ≤ n ∧ OwA W1 S b A n cap W
end Go.Proofs.YtcfgppjhgobboaaGreatDoor
