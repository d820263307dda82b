/-
  Towards the document's Kill: rows of slices, appended and cut.
-/
import Derived.Test.YtknekldnipdpeaaKrRef3
namespace Go.Proofs.Ytknekldnipdpeaa
open Go.RowKit Go.Shelf Go.Lib

theorem info_row : (Try.prog.info? 30).map (fun i => (i.zero, i.size, i.bytes)) = some (some (.slice none 0 0), 1, 24) := by kernel_rfl
theorem row_size : ∀ W, (Go.sizeOf 30).run Try.prog W = .ok 1 W := fun W => by kernel_rfl
/-- slices appended to a row of the call's own; where the new row lies -/
theorem wpList_append_rows {ops : Array Oper} {rest : List Oper} {o : Oper} {a : Act} {w : World} {Q : Exit → Act → World → Prop} (hgd : o.guard = none) (s x : Operand)
    (ho : o.op = .call { callee := .builtin .append, args := #[s, x], argTypes := #[26, 26] }) (B : Nat) (v : Value) (n : Nat) (xs : List Value) (hs : a.eval s = v) (hrow : w.ownsRow B 30 1 v n xs) (A : Option Addr) (m c : Nat) (ys : List Value)
    (hx : a.eval x = .slice A m c) (hy : Src w 1 A c m ys) (h1 : ∀ u ∈ ys, u.oneCell' = true) (hl : n + m ≤ 1000000000000) (hB : B ≤ w.heap.size)
    (h : ∀ A' n' c' w', n' = n + m → w'.ownsRow B 30 1 (.slice A' n' c') n' (xs ++ ys) → Below B w w' → w.grownBy w' v.ownBlock → ((Value.slice A' n' c').ownBlock = v.ownBlock ∨ (Value.slice A' n' c').ownBlock = some w.heap.size) → wpList Try.prog ops Q rest (a.put o.dst (.slice A' n' c')) w') : wpList Try.prog ops Q (o :: rest) a w := by
  refine wpList_plain hgd fun K hK => ?_
  obtain ⟨i, hi, hz, hs2, hby⟩ := info_parts info_row
  obtain ⟨v', w', hr, h4, h5, h6⟩ := run_append_src (P := Try.prog) w B 26 o.type 30 i _ 1 24 Try.underlying26 hi hz hs2 hby rfl (by decide) v n xs hrow hy h1 (by unfold maxLen; omega) (by omega) hB
  obtain ⟨A2, c2, rfl, _⟩ := own_form h4
  unfold Oper.wp
  simp [execOp, ho, resolve, invoke, builtin, hs, hx, hr, Result.andThen]
  refine hK _ _ ?_
  have := h A2 _ c2 w' rfl h4 (grown_below h5 hB fun k hk => (own_lt hrow k hk).1) h5 h6
  simpa using this
theorem own_cut {w : World} {B : Nat} {e : TypeId} {A : Option Addr} {n c m : Nat} {xs : List Value} (h : w.ownsRow B e 1 (.slice A n c) n xs) (hm : m ≤ n) : w.ownsRow B e 1 (.slice A m c) m (xs.take m) := by
  have hl : xs.length = n := by simpa using h.1
  refine ⟨by rw [List.length_take]; omega, ?_⟩
  rcases h.2 with ⟨e1, h0⟩ | ⟨g, cap, cur, e1, hg, hh, hn, hc, hs, ht⟩
  · injection e1 with e1 e2 e3
    subst e1 e3
    obtain rfl : m = 0 := by omega
    exact .inl ⟨rfl, rfl⟩
  · injection e1 with e1 e2 e3
    subst e1 e3
    refine .inr ⟨g, c, cur, rfl, hg, hh, by omega, hc, hs, ?_⟩
    rw [← ht, List.take_take]
    congr 1
    omega
theorem built_own {w : World} {B : Nat} (x : Value) (hB : B ≤ w.heap.size) : (w.alloc (.cells #[x] 30)).ownsRow B 30 1 (.slice (some ⟨w.heap.size, 0, none⟩) 1 1) 1 [x] :=
  ⟨rfl, .inr ⟨w.heap.size, 1, #[x], rfl, hB, alloc_new _ _, Nat.le_refl _, by decide, rfl, rfl⟩⟩
theorem LRow.one {K : Nat → Prop} {w : World} {v : Value} {es : List (List Int)} (h : LRow K w v es) : ∃ xs : List Value, w.ownsRow 0 30 1 v es.length xs ∧ (∀ k, v.ownBlock = some k → K k) ∧ (∀ (i : Nat) (l : List Int), es[i]? = some l → ∃ x, xs[i]? = some x ∧ RIn K w x l ∧ l.length ≤ 1024) ∧ (∀ u ∈ xs, u.oneCell' = true) := by
  obtain ⟨xs, h1, h2, h3⟩ := h
  refine ⟨xs, h1, h2, h3, fun u hu => ?_⟩
  obtain ⟨i, hi⟩ := List.getElem?_of_mem hu
  have hlt : i < es.length := by
    have := (List.getElem?_eq_some_iff.1 hi).1
    have hl : xs.length = es.length := by simpa using h1.1
    omega
  obtain ⟨x, h4, h5, _⟩ := h3 i es[i] (List.getElem?_eq_getElem hlt)
  rw [hi] at h4
  injection h4 with h4
  subst h4
  obtain ⟨A, c, rfl⟩ := h5.form
  rfl
/-- the row of a new world: a new text ahead of some that stay -/
theorem LRow.cons {K : Nat → Prop} {w W : World} {es : List (List Int)} {xs : List Value} {v' tv : Value} {t : List Int}
    (h3 : ∀ (i : Nat) (l : List Int), es[i]? = some l → ∃ x, xs[i]? = some x ∧ RIn K w x l ∧ l.length ≤ 1024) (ha : Agree K w W) (m : Nat) (hm : m ≤ es.length + 1)
    (hrow : W.ownsRow 0 30 1 v' m ((tv :: xs).take m)) (hob : ∀ k, v'.ownBlock = some k → More K w W k) (ht : RIn (More K w W) W tv t) (htl : t.length ≤ 1024) : LRow (More K w W) W v' ((t :: es).take m) := by
  have hlen : ((t :: es).take m).length = m := by rw [List.length_take, List.length_cons]; omega
  refine ⟨(tv :: xs).take m, by rw [hlen]; exact hrow, hob, fun i l hi => ?_⟩
  rw [List.getElem?_take] at hi ⊢
  split at hi
  · next him =>
    rw [if_pos him]
    cases i with
    | zero =>
      simp at hi
      subst hi
      exact ⟨tv, rfl, ht, htl⟩
    | succ i =>
      rw [List.getElem?_cons_succ] at hi ⊢
      obtain ⟨x, h4, h5, h6⟩ := h3 i l hi
      exact ⟨x, h4, (h5.to ha).mono fun k hk => .inl hk, h6⟩
  · cases hi
theorem WAt.made {K : Nat → Prop} {w W : World} {r : Nat} {S : KS} (h : WAt K w r S) {es : List (List Int)} {v' : Value} (hW : W.heap[r]? = some (.cells #[v', .int .i64 0] 28 (0, 0))) (hL : LRow (More K w W) W v' es) (ht : Touch (Only r) w W) (hm : es.length ≤ 60) (hne : 0 < es.length) : WAt (More K w W) W r ⟨es, 0⟩ := by
  refine ⟨⟨v', hW, hL⟩, hm, .inl hne, Nat.lt_of_lt_of_le h.lt ht.size, ?_, ?_⟩
  · rintro (hk | ⟨hk, _⟩)
    · exact h.off hk
    · exact absurd h.lt (by omega)
  · rintro k (hk | ⟨_, hk⟩)
    · exact Nat.lt_of_lt_of_le (h.inw k hk) ht.size
    · exact hk
theorem WAt.more {K : Nat → Prop} {w W : World} {r : Nat} {S : KS} (h : WAt K w r S) (hb : Below w.heap.size w W) : WAt (More K w W) W r S := by
  obtain ⟨⟨v, h1, h2⟩, h3, h4, h5, h6, h7⟩ := h.below hb
  refine ⟨⟨v, h1, h2.mono fun k hk => .inl hk⟩, h3, h4, h5, ?_, ?_⟩
  · rintro (hk | ⟨hk, _⟩)
    · exact h6 hk
    · exact absurd h.lt (by omega)
  · rintro k (hk | ⟨_, hk⟩)
    · exact h7 k hk
    · exact hk
def WPost (K : Nat → Prop) (w : World) (r : Nat) (err : Int) (S : KS) (e : Ending) (w' : World) : Prop := e = .returned (.int .i64 err) ∧ WAt (More K w w') w' r S ∧ Touch (Only r) w w'
end Go.Proofs.Ytknekldnipdpeaa
