/-
  What a name gets once a capability has been set: plain lists. No program is walked here, and nothing is assumed.
  Blocks that lie in memory while a law's calls run. No program is walked here, and nothing is assumed.
-/
import Derived.Test.YtcfgppjhgobboaaGreatDoorTiSet
import Derived.Test.YtcfgppjhgobboaaGreatDoorTmRefSet
import Derived.Test.YtcfgppjhgobboaaGreatDoorTiRefSame
namespace Go.Proofs.YtcfgppjhgobboaaGreatDoor
section
open Go.RowKit Go.Lib

theorem extIdx_modify (l : List ExtD) (i : Nat) (c : CapD) (nm : List UInt8) : extIdx (l.modify i (withCap c)) nm = extIdx l nm := by
  induction l generalizing i with
  | nil => simp
  | cons x l ih =>
    cases i with
    | zero =>
      simp only [List.modify_zero_cons, extIdx, List.findIdx?_cons]
      rfl
    | succ i =>
      have := ih i
      simp only [extIdx] at this
      simp only [List.modify_succ_cons, extIdx, List.findIdx?_cons, this]
theorem getP_placed (l : List CapD) (n : Nat) (c : CapD) : getP (placedP l n c) n = c := by
  unfold getP placedP
  rw [List.getD_eq_getElem?_getD, List.getElem?_set_self (by simp; omega)]
  rfl
theorem getP_placed_ne (l : List CapD) {n m : Nat} (c : CapD) (h : n ≠ m) : getP (placedP l n c) m = getP l m := by
  unfold getP placedP
  rw [List.getD_eq_getElem?_getD, List.getD_eq_getElem?_getD, List.getElem?_set_ne h]
  by_cases hm : m < l.length
  · rw [List.getElem?_append_left hm]
  · rw [List.getElem?_append_right (by omega), List.getElem?_eq_none (show l.length ≤ m by omega)]
    rw [List.getElem?_replicate]
    split <;> rfl
theorem findR_set {t u : TermD} {name : List UInt8} {c : CapD} (h : putTP t name c = some u) : (findR u name).2 = (c, true) := by
  unfold putTP at h
  split at h
  · next k n hq =>
    injection h with h
    subst h
    obtain ⟨hk, hn0, hn⟩ := placeP_small hq
    obtain ⟨k', hk', rfl⟩ : ∃ k' : Nat, k' < 3 ∧ k = k' := ⟨k.toNat, by omega, by omega⟩
    rw [findR, hq]
    simp only
    rw [withList_of t k' hk' _ k' hk', if_pos rfl, getP_placed]
  · next hq =>
    split at h
    · next i hx =>
      injection h with h
      subst h
      obtain ⟨x, hi, _⟩ := extIdx_at hx
      rw [findR, hq]
      simp only [extR]
      rw [show (fun x : ExtD => ({ x with cap := c } : ExtD)) = withCap c from rfl, extIdx_modify, hx]
      simp only [List.getElem?_modify_eq, hi]
      rfl
    · cases h
theorem findR_other {t u : TermD} {name other : List UInt8} {c : CapD} (h : putTP t name c = some u) (hne : ¬ other = name) : (findR u other).2.1 = (findR t other).2.1 := by
  unfold putTP at h
  split at h
  · next k n hq =>
    injection h with h
    subst h
    obtain ⟨hk, hn0, hn⟩ := placeP_small hq
    obtain ⟨k', hk', rfl⟩ : ∃ k' : Nat, k' < 3 ∧ k = k' := ⟨k.toNat, by omega, by omega⟩
    unfold findR
    cases ho : placeP other with
    | none => simp only; rw [(withList_rest t _ _).2.2]
    | some q =>
      obtain ⟨k2, n2⟩ := q
      obtain ⟨hk2, hn20, hn2⟩ := placeP_small ho
      obtain ⟨k2', hk2', rfl⟩ : ∃ k2' : Nat, k2' < 3 ∧ k2 = k2' := ⟨k2.toNat, by omega, by omega⟩
      simp only
      rw [withList_of t k' hk' _ k2' hk2']
      by_cases hkk : k2' = k'
      · subst hkk
        rw [if_pos rfl]
        refine getP_placed_ne _ _ fun e => hne ?_
        have : n = n2 := by omega
        subst this
        exact placeP_inj ho hq
      · rw [if_neg hkk]
  · next hq =>
    split at h
    · next i hx =>
      injection h with h
      subst h
      obtain ⟨x, hi, hxn⟩ := extIdx_at hx
      unfold findR
      cases ho : placeP other with
      | some q => rfl
      | none =>
        simp only [extR]
        rw [show (fun x : ExtD => ({ x with cap := c } : ExtD)) = withCap c from rfl, extIdx_modify]
        cases hj : extIdx t.exts other with
        | none => rfl
        | some j =>
          obtain ⟨y, hy, hyn⟩ := extIdx_at hj
          have hij : i ≠ j := by
            rintro rfl
            rw [hi] at hy
            injection hy with hy
            subst hy
            exact hne (hyn.symm.trans hxn)
          simp only [List.getElem?_modify_ne _ _ hij, hy]
    · cases h
theorem setP_ok {t u : TermD} {name : List UInt8} {c : CapD} (h : setP t name c = (u, 0)) : putTP t name c = some u := by
  unfold setP at h
  split at h
  · injection h with _ h; cases h
  · next r hr =>
    split at h
    · injection h with h; rw [hr, h]
    · next hne => injection h with _ h; exact absurd h hne
end

section
open Go.RowKit Go.Lib

structure Objs (w W : World) (l : List (Nat × Obj)) : Prop where
  objs : ∀ p ∈ l, W.heap[p.1]? = some p.2
  below : Below w.heap.size w W
  tabs : Tabs W
theorem Objs.none {w : World} (hT : Tabs w) : Objs w w [] := ⟨(fun _ h => by cases h), Below.refl _ _, hT⟩
theorem Objs.next {w W W' : World} {l : List (Nat × Obj)} (h : Objs w W l) (hb : Below W.heap.size W W') : Objs w W' l :=
  ⟨fun p hp => (hb.block _ (Array.getElem?_eq_some_iff.1 (h.objs p hp)).1).trans (h.objs p hp), h.below.trans (hb.mono h.below.size), h.tabs.below hb⟩
theorem Objs.push {w W : World} {l : List (Nat × Obj)} (h : Objs w W l) (o : Obj) : Objs w (W.alloc o) ((W.heap.size, o) :: l) := by
  have h' := h.next ((Below.refl W.heap.size W).alloc (Nat.le_refl _) o)
  refine ⟨fun p hp => ?_, h'.below, h'.tabs⟩
  rcases List.mem_cons.1 hp with rfl | hp
  · exact World.alloc_heap_new W o
  · exact h'.objs p hp
theorem Objs.tail {w W : World} {x : Nat × Obj} {l : List (Nat × Obj)} (h : Objs w W (x :: l)) : Objs w W l := ⟨fun p hp => h.objs p (List.mem_cons_of_mem _ hp), h.below, h.tabs⟩
theorem Objs.cell {w W : World} {l : List (Nat × Obj)} (h : Objs w W l) {b : Nat} {cs : Array Value} {t : TypeId} (hm : (b, Obj.cells cs t (0, 0)) ∈ l) (j : Nat) : W.cell? ⟨b, j, .none⟩ = cs[j]? := cell_of_row W b j _ _ _ (h.objs _ hm)
theorem Objs.frozen {w W : World} {l : List (Nat × Obj)} (h : Objs w W l) {b : Nat} {cs : Array Value} {t : TypeId} (hm : (b, Obj.cells cs t (0, 0)) ∈ l) (j : Nat) : W.frozen? ⟨b, j, .none⟩ = false := frozen_of_row W b j _ _ (h.objs _ hm)
abbrev capObj (c : CapD) : Obj := .cells #[.int .i64 c.st, .int .i64 c.num, str c.text] 37
theorem setP_fits {t : TermD} {name : List UInt8} {c : CapD} (h : Fits t) : Fits (setP t name c).1 := by
  have h0 : Fits term0 := ⟨fun i hi => by
    match i, hi with
    | 0, _ => simp [term0, listOf]
    | 1, _ => simp [term0, listOf]
    | 2, _ => simp [term0, listOf], by simp [term0]⟩
  unfold setP
  split
  · exact h0
  · next u hu =>
    split
    · exact fits_put h hu
    · exact h0
theorem Objs.term {w W : World} {l : List (Nat × Obj)} (h : Objs w W l) {b : Nat} {nm : List UInt8} {wd : Bool} {p q r s : Value} (hm : (b, termObj nm wd p q r s) ∈ l) :
    W.cell? ⟨b, 0, .none⟩ = some (str nm) ∧ W.cell? ⟨b, 1, .none⟩ = some (.bool wd) ∧ W.cell? ⟨b, 2, .none⟩ = some p ∧ W.cell? ⟨b, 3, .none⟩ = some q ∧ W.cell? ⟨b, 4, .none⟩ = some r ∧ W.cell? ⟨b, 5, .none⟩ = some s :=
  ⟨h.cell hm 0, h.cell hm 1, h.cell hm 2, h.cell hm 3, h.cell hm 4, h.cell hm 5⟩
theorem Objs.cap {w W : World} {l : List (Nat × Obj)} (h : Objs w W l) {b : Nat} {c : CapD} (hm : (b, capObj c) ∈ l) :
    W.cell? ⟨b, 0, .none⟩ = some (.int .i64 c.st) ∧ W.cell? ⟨b, 1, .none⟩ = some (.int .i64 c.num) ∧ W.cell? ⟨b, 2, .none⟩ = some (str c.text) :=
  ⟨h.cell hm 0, h.cell hm 1, h.cell hm 2⟩
theorem TermV.slices {W : World} {v : Nat → Value} {ve : Value} {t : TermD} (h : TermV W v ve t) : ∃ A0 n0 A1 n1 A2 n2 A3 n3, termVal t v ve = .agg #[str t.names, .bool t.wide, .slice A0 t.bools.length n0, .slice A1 t.nums.length n1, .slice A2 t.strs.length n2, .slice A3 t.exts.length n3] ∧
    TermV W (tri (.slice A0 t.bools.length n0) (.slice A1 t.nums.length n1) (.slice A2 t.strs.length n2)) (.slice A3 t.exts.length n3) t := by
  obtain ⟨A0, n0, A1, n1, A2, n2, A3, n3, e0, e1, e2, e3, _, g0, g1, g2, g3⟩ := h.forms
  exact ⟨A0, n0, A1, n1, A2, n2, A3, n3, by rw [termVal, e0, e1, e2, e3], TermV.mk4 g0 g1 g2 g3⟩
theorem SetPost.slices {w w' : World} {u : TermD} {er : Int} {e : Ending} (h : SetPost w (u, er) e w') (hf : Fits u) : ∃ A0 n0 A1 n1 A2 n2 A3 n3,
    e = .returned (.tuple #[.agg #[str u.names, .bool u.wide, .slice A0 u.bools.length n0, .slice A1 u.nums.length n1, .slice A2 u.strs.length n2, .slice A3 u.exts.length n3], .int .i64 er]) ∧
    TermV w' (tri (.slice A0 u.bools.length n0) (.slice A1 u.nums.length n1) (.slice A2 u.strs.length n2)) (.slice A3 u.exts.length n3) u ∧ Below w.heap.size w w' := by
  obtain ⟨v, ve, he, hr, hb⟩ := h
  obtain ⟨A0, n0, A1, n1, A2, n2, A3, n3, h1, h2⟩ := (hr.reads hf).slices
  exact ⟨A0, n0, A1, n1, A2, n2, A3, n3, by rw [he]; simp only; rw [h1], h2, hb⟩
theorem RSetPost.slices {w w' : World} {u : TermD} {er : Int} {e : Ending} (h : RSetPost w (u, er) e w') : ∃ A0 n0 A1 n1 A2 n2 A3 n3,
    e = .returned (.tuple #[.agg #[str u.names, .bool u.wide, .slice A0 u.bools.length n0, .slice A1 u.nums.length n1, .slice A2 u.strs.length n2, .slice A3 u.exts.length n3], .int .i64 er]) ∧
    TermV w' (tri (.slice A0 u.bools.length n0) (.slice A1 u.nums.length n1) (.slice A2 u.strs.length n2)) (.slice A3 u.exts.length n3) u ∧ Below w.heap.size w w' := by
  obtain ⟨v, ve, he, hr, hb⟩ := h
  obtain ⟨A0, n0, A1, n1, A2, n2, A3, n3, h1, h2⟩ := hr.slices
  exact ⟨A0, n0, A1, n1, A2, n2, A3, n3, by rw [he]; simp only; rw [h1], h2, hb⟩
theorem below_alloc (W : World) (o : Obj) : Below W.heap.size W (W.alloc o) := (Below.refl _ _).alloc (Nat.le_refl _) o
end
end Go.Proofs.YtcfgppjhgobboaaGreatDoor
