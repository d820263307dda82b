/-
  Blocks that lie in memory while a law's calls run. No program is walked here, and nothing is assumed.
-/
import Derived.Test.YtcfgppjhgobboaaGreatDoorTiRefSet2
import Derived.Test.YtcfgppjhgobboaaGreatDoorTiRefSame
import Derived.Test.YtcfgppjhgobboaaGreatDoorTiSetsP
namespace Go.Proofs.YtcfgppjhgobboaaGreatDoor
open Go.RowKit Go.Lib

structure Objs (w W : World) (l : List (Nat × Obj)) : Prop where
  objs : ∀ p ∈ l, W.heap[p.1]? = some p.2
  below : Below w.heap.size w W
  tabs : Tabs W
theorem Objs.none {w : World} (hT : Tabs w) : Objs w w [] := ⟨(fun _ h => by cases h), Below.refl _ _, hT⟩
theorem Objs.next {w W W' : World} {l : List (Nat × Obj)} (h : Objs w W l) (hb : Below W.heap.size W W') : Objs w W' l :=
  ⟨fun p hp => (hb.block _ (Array.getElem?_eq_some_iff.1 (h.objs p hp)).1).trans (h.objs p hp), h.below.trans (hb.mono h.below.size), h.tabs.below hb⟩
theorem Objs.push {w W : World} {l : List (Nat × Obj)} (h : Objs w W l) (o : Obj) : Objs w (W.alloc o) ((W.heap.size, o) :: l) := by
  have h' := h.next ((Below.refl W.heap.size W).alloc (Nat.le_refl _) o)
  refine ⟨fun p hp => ?_, h'.below, h'.tabs⟩
  rcases List.mem_cons.1 hp with rfl | hp
  · exact World.alloc_heap_new W o
  · exact h'.objs p hp
theorem Objs.tail {w W : World} {x : Nat × Obj} {l : List (Nat × Obj)} (h : Objs w W (x :: l)) : Objs w W l := ⟨fun p hp => h.objs p (List.mem_cons_of_mem _ hp), h.below, h.tabs⟩
theorem Objs.cell {w W : World} {l : List (Nat × Obj)} (h : Objs w W l) {b : Nat} {cs : Array Value} {t : TypeId} (hm : (b, Obj.cells cs t (0, 0)) ∈ l) (j : Nat) : W.cell? ⟨b, j, .none⟩ = cs[j]? := cell_of_row W b j _ _ _ (h.objs _ hm)
theorem Objs.frozen {w W : World} {l : List (Nat × Obj)} (h : Objs w W l) {b : Nat} {cs : Array Value} {t : TypeId} (hm : (b, Obj.cells cs t (0, 0)) ∈ l) (j : Nat) : W.frozen? ⟨b, j, .none⟩ = false := frozen_of_row W b j _ _ (h.objs _ hm)
abbrev capObj (c : CapD) : Obj := .cells #[.int .i64 c.st, .int .i64 c.num, str c.text] 37
theorem setP_fits {t : TermD} {name : List UInt8} {c : CapD} (h : Fits t) : Fits (setP t name c).1 := by
  have h0 : Fits term0 := ⟨fun i hi => by
    match i, hi with
    | 0, _ => simp [term0, listOf]
    | 1, _ => simp [term0, listOf]
    | 2, _ => simp [term0, listOf], by simp [term0]⟩
  unfold setP
  split
  · exact h0
  · next u hu =>
    split
    · exact fits_put h hu
    · exact h0
theorem Objs.term {w W : World} {l : List (Nat × Obj)} (h : Objs w W l) {b : Nat} {nm : List UInt8} {wd : Bool} {p q r s : Value} (hm : (b, termObj nm wd p q r s) ∈ l) :
    W.cell? ⟨b, 0, .none⟩ = some (str nm) ∧ W.cell? ⟨b, 1, .none⟩ = some (.bool wd) ∧ W.cell? ⟨b, 2, .none⟩ = some p ∧ W.cell? ⟨b, 3, .none⟩ = some q ∧ W.cell? ⟨b, 4, .none⟩ = some r ∧ W.cell? ⟨b, 5, .none⟩ = some s :=
  ⟨h.cell hm 0, h.cell hm 1, h.cell hm 2, h.cell hm 3, h.cell hm 4, h.cell hm 5⟩
theorem Objs.cap {w W : World} {l : List (Nat × Obj)} (h : Objs w W l) {b : Nat} {c : CapD} (hm : (b, capObj c) ∈ l) :
    W.cell? ⟨b, 0, .none⟩ = some (.int .i64 c.st) ∧ W.cell? ⟨b, 1, .none⟩ = some (.int .i64 c.num) ∧ W.cell? ⟨b, 2, .none⟩ = some (str c.text) :=
  ⟨h.cell hm 0, h.cell hm 1, h.cell hm 2⟩
theorem TermV.slices {W : World} {v : Nat → Value} {ve : Value} {t : TermD} (h : TermV W v ve t) : ∃ A0 n0 A1 n1 A2 n2 A3 n3, termVal t v ve = .agg #[str t.names, .bool t.wide, .slice A0 t.bools.length n0, .slice A1 t.nums.length n1, .slice A2 t.strs.length n2, .slice A3 t.exts.length n3] ∧
    TermV W (tri (.slice A0 t.bools.length n0) (.slice A1 t.nums.length n1) (.slice A2 t.strs.length n2)) (.slice A3 t.exts.length n3) t := by
  obtain ⟨A0, n0, A1, n1, A2, n2, A3, n3, e0, e1, e2, e3, _, g0, g1, g2, g3⟩ := h.forms
  exact ⟨A0, n0, A1, n1, A2, n2, A3, n3, by rw [termVal, e0, e1, e2, e3], TermV.mk4 g0 g1 g2 g3⟩
theorem SetPost.slices {w w' : World} {u : TermD} {er : Int} {e : Ending} (h : SetPost w (u, er) e w') (hf : Fits u) : ∃ A0 n0 A1 n1 A2 n2 A3 n3,
    e = .returned (.tuple #[.agg #[str u.names, .bool u.wide, .slice A0 u.bools.length n0, .slice A1 u.nums.length n1, .slice A2 u.strs.length n2, .slice A3 u.exts.length n3], .int .i64 er]) ∧
    TermV w' (tri (.slice A0 u.bools.length n0) (.slice A1 u.nums.length n1) (.slice A2 u.strs.length n2)) (.slice A3 u.exts.length n3) u ∧ Below w.heap.size w w' := by
  obtain ⟨v, ve, he, hr, hb⟩ := h
  obtain ⟨A0, n0, A1, n1, A2, n2, A3, n3, h1, h2⟩ := (hr.reads hf).slices
  exact ⟨A0, n0, A1, n1, A2, n2, A3, n3, by rw [he]; simp only; rw [h1], h2, hb⟩
theorem RSetPost.slices {w w' : World} {u : TermD} {er : Int} {e : Ending} (h : RSetPost w (u, er) e w') : ∃ A0 n0 A1 n1 A2 n2 A3 n3,
    e = .returned (.tuple #[.agg #[str u.names, .bool u.wide, .slice A0 u.bools.length n0, .slice A1 u.nums.length n1, .slice A2 u.strs.length n2, .slice A3 u.exts.length n3], .int .i64 er]) ∧
    TermV w' (tri (.slice A0 u.bools.length n0) (.slice A1 u.nums.length n1) (.slice A2 u.strs.length n2)) (.slice A3 u.exts.length n3) u ∧ Below w.heap.size w w' := by
  obtain ⟨v, ve, he, hr, hb⟩ := h
  obtain ⟨A0, n0, A1, n1, A2, n2, A3, n3, h1, h2⟩ := hr.slices
  exact ⟨A0, n0, A1, n1, A2, n2, A3, n3, by rw [he]; simp only; rw [h1], h2, hb⟩
theorem below_alloc (W : World) (o : Obj) : Below W.heap.size W (W.alloc o) := (Below.refl _ _).alloc (Nat.le_refl _) o
end Go.Proofs.YtcfgppjhgobboaaGreatDoor
