/-
  Rows of the law's own that are written over; a copy of a list of texts.
-/
import Derived.Test.YtknekldnipdpeaaKrDoP
namespace Go.Proofs.Ytknekldnipdpeaa
open Go.RowKit Go.Shelf Go.Lib

/-- a row of n runes, whatever they are -/
def WR (W : World) (x : Value) (n : Nat) : Prop := (n = 0 ∧ ∃ A c, x = .slice A 0 c) ∨ ∃ b c cur, x = .slice (some ⟨b, 0, none⟩) n c ∧ W.heap[b]? = some (.cells cur 21 (0, 0)) ∧ n ≤ c ∧ cur.size = c
theorem WR.of {W : World} {B n : Nat} {x : Value} {l : List Int} (h : RRow W B x l) (hn : n = l.length) : WR W x n := by
  subst hn
  rcases id h.2 with ⟨rfl, h0⟩ | ⟨g, cap, cur, rfl, _, hg, hn, _, hs, _⟩
  · exact .inl ⟨h0, none, 0, rfl⟩
  · exact .inr ⟨g, cap, cur, rfl, hg, hn, by simpa using hs⟩
theorem WR.form {W : World} {x : Value} {n : Nat} (h : WR W x n) : ∃ A c, x = .slice A n c := by
  rcases h with ⟨rfl, A, c, rfl⟩ | ⟨b, c, cur, rfl, _⟩
  · exact ⟨A, c, rfl⟩
  · exact ⟨_, c, rfl⟩
theorem WR.set {W : World} {x : Value} {n : Nat} (h : WR W x n) (b j : Nat) (u : Value) : WR (W.setCell ⟨b, j, none⟩ u) x n := by
  rcases h with h | ⟨b', c, cur, rfl, hh, hn, hs⟩
  · exact .inl h
  · by_cases e : b' = b
    · subst e
      exact .inr ⟨b', c, _, rfl, heap_setCell_same W b' j _ _ _ hh, hn, by simpa using hs⟩
    · exact .inr ⟨b', c, cur, rfl, (Below.heap_setCell W ⟨b, j, none⟩ u b' e).trans hh, hn, hs⟩
theorem WR.same {W W' : World} {x : Value} {n : Nat} (h : WR W x n) (hb : ∀ k, k < W.heap.size → (∃ cur, W.heap[k]? = some (.cells cur 21 (0, 0))) → W'.heap[k]? = W.heap[k]?) : WR W' x n := by
  rcases h with h | ⟨b', c, cur, rfl, hh, hn, hs⟩
  · exact .inl h
  · exact .inr ⟨b', c, cur, rfl, (hb b' (Array.getElem?_eq_some_iff.1 hh).1 ⟨cur, hh⟩).trans hh, hn, hs⟩
theorem WR.below {W W' : World} {x : Value} {n : Nat} (h : WR W x n) (hb : Below W.heap.size W W') : WR W' x n := h.same fun k hk _ => hb.block k hk
/-- where the j-th rune lies -/
theorem WR.at {W : World} {A : Option Addr} {n c j : Nat} (h : WR W (.slice A n c) n) (hj : j < n) : ∃ b, A = some ⟨b, 0, none⟩ ∧ (∃ u, W.cell? ⟨b, j, none⟩ = some u) ∧ W.frozen? ⟨b, j, none⟩ = false ∧ (Value.slice A n c).ownBlock = some b := by
  rcases h with ⟨h0, _⟩ | ⟨b, c', cur, e, hh, hn, hs⟩
  · omega
  · injection e with e1 e2 e3
    subst e1
    exact ⟨b, rfl, ⟨cur[j]'(by omega), by rw [cell_of_row W b j _ _ _ hh]; exact Array.getElem?_eq_getElem _⟩, frozen_of_row W b j _ _ hh, rfl⟩
/-- a row under way: slices of runes of the call's own -/
def ARow (W : World) (B : Nat) (v : Value) (es : List (List Int)) (xs : List Value) : Prop :=
  W.ownsRow B 30 1 v es.length xs ∧ ∀ (i : Nat) (l : List Int), es[i]? = some l → ∃ x, xs[i]? = some x ∧ RRow W B x l
theorem ARow.below {W W' : World} {B : Nat} {v : Value} {es : List (List Int)} {xs : List Value} (h : ARow W B v es xs) (hb : Below W.heap.size W W') : ARow W' B v es xs := by
  refine ⟨own_below h.1 hb, fun i l hi => ?_⟩
  obtain ⟨x, h3, h4⟩ := h.2 i l hi
  exact ⟨x, h3, h4.below hb⟩
theorem ARow.snoc {W W' : World} {B : Nat} {v v' x : Value} {es : List (List Int)} {l : List Int} {xs : List Value} {m : Nat} (h : ARow W B v es xs) (hx : RRow W B x l) (hm : m = es.length + 1) (hrow : W'.ownsRow B 30 1 v' m (xs ++ [x])) (hg : W.grownBy W' v.ownBlock) : ARow W' B v' (es ++ [l]) (xs ++ [x]) := by
  have hlen : (es ++ [l]).length = m := by rw [List.length_append]; simp; omega
  have keep : ∀ {y : Value} {z : List Int}, RRow W B y z → RRow W' B y z := fun {y z} hr => own_same hr fun k hk => hg.block k (own_lt hr k hk).2 fun e => by
    obtain ⟨c1, e1⟩ := own_kind hr hk
    obtain ⟨c2, e2⟩ := own_kind h.1 e.symm
    rw [e1] at e2
    injection e2 with e2
    injection e2 with _ e2
    exact absurd e2 (by decide)
  have hxl : xs.length = es.length := by simpa using h.1.1
  refine ⟨by rw [hlen]; exact hrow, fun i z hi => ?_⟩
  by_cases hlt : i < es.length
  · rw [List.getElem?_append_left hlt] at hi
    obtain ⟨y, h3, h4⟩ := h.2 i z hi
    exact ⟨y, by rw [List.getElem?_append_left (by omega)]; exact h3, keep h4⟩
  · have hi' : i = es.length := by
      have := (List.getElem?_eq_some_iff.1 hi).1
      rw [List.length_append] at this
      simp at this
      omega
    subst hi'
    rw [List.getElem?_append_right (Nat.le_refl _), Nat.sub_self] at hi
    simp at hi
    subst hi
    exact ⟨x, by rw [List.getElem?_append_right (by omega), hxl, Nat.sub_self]; rfl, keep hx⟩
theorem ARow.mat {W : World} {B : Nat} {v : Value} {es : List (List Int)} {xs : List Value} (h : ARow W B v es xs) (hl : es.length ≤ 140737488355328) (he : ∀ l ∈ es, l.length ≤ 35184372087808) : Mat W v es := by
  refine ⟨hl, he, ?_⟩
  rcases id h.1.2 with ⟨rfl, h0⟩ | ⟨g, cap, cur, rfl, _, hg, hn, _, hs, ht⟩
  · exact ⟨none, 0, by rw [h0], fun hp => by omega⟩
  · refine ⟨some ⟨g, 0, none⟩, cap, rfl, fun _ => ⟨g, 0, rfl, (Array.getElem?_eq_some_iff.1 hg).1, fun i l hi => ?_⟩⟩
    obtain ⟨x, h4, h5⟩ := h.2 i l hi
    refine ⟨x, ?_, h5.holds⟩
    rw [Nat.zero_add, cell_of_row W g i cur _ (0, 0) hg]
    rw [← ht, List.getElem?_take] at h4
    split at h4
    · rw [← h4, Array.getElem?_toList]
    · cases h4
/-- slices appended to a row of the call's own, up to what a slice can hold -/
theorem wpList_append_rows2 {ops : Array Oper} {rest : List Oper} {o : Oper} {a : Act} {w : World} {Q : Exit → Act → World → Prop} (hgd : o.guard = none) (s x : Operand)
    (ho : o.op = .call { callee := .builtin .append, args := #[s, x], argTypes := #[26, 26] }) (B : Nat) (v : Value) (n : Nat) (xs : List Value) (hs : a.eval s = v) (hrow : w.ownsRow B 30 1 v n xs) (A : Option Addr) (m c : Nat) (ys : List Value)
    (hx : a.eval x = .slice A m c) (hy : Src w 1 A c m ys) (h1 : ∀ u ∈ ys, u.oneCell' = true) (hl : (n + m) * 24 ≤ 140737488355328) (hB : B ≤ w.heap.size)
    (h : ∀ A' n' c' w', n' = n + m → w'.ownsRow B 30 1 (.slice A' n' c') n' (xs ++ ys) → Below B w w' → w.grownBy w' v.ownBlock → ((Value.slice A' n' c').ownBlock = v.ownBlock ∨ (Value.slice A' n' c').ownBlock = some w.heap.size) → wpList Try.prog ops Q rest (a.put o.dst (.slice A' n' c')) w') : wpList Try.prog ops Q (o :: rest) a w := by
  refine wpList_plain hgd fun K hK => ?_
  obtain ⟨i, hi, hz, hs2, hby⟩ := info_parts info_row
  obtain ⟨v', w', hr, h4, h5, h6⟩ := run_append_src (P := Try.prog) w B 26 o.type 30 i _ 1 24 Try.underlying26 hi hz hs2 hby rfl (by decide) v n xs hrow hy h1 (by unfold maxLen; omega) (by omega) hB
  obtain ⟨A2, c2, rfl, _⟩ := own_form h4
  unfold Oper.wp
  simp [execOp, ho, resolve, invoke, builtin, hs, hx, hr, Result.andThen]
  refine hK _ _ ?_
  have := h A2 _ c2 w' rfl h4 (grown_below h5 hB fun k hk => (own_lt hrow k hk).1) h5 h6
  simpa using this
/-- rows that may be written: what stays else -/
structure OwnI (X : Nat → Prop) (Wd : World) (rows : List (Value × Nat)) (W : World) : Prop where
  t : Touch X Wd W
  rows : ∀ p ∈ rows, WR W p.1 p.2
theorem OwnI.set {X : Nat → Prop} {Wd W : World} {rows : List (Value × Nat)} (h : OwnI X Wd rows W) {b : Nat} (hb : X b) (j : Nat) (u : Value) : OwnI X Wd rows (W.setCell ⟨b, j, none⟩ u) :=
  ⟨h.t.trans (Touch.setCell W ⟨b, j, none⟩ u hb), fun p hp => (h.rows p hp).set b j u⟩
/-- both rings, and blocks of X that are neither's -/
structure DX (X : Nat → Prop) (w W : World) (g r : Nat) (S S' : KS) : Prop where
  ex : ∃ K K', RAt K W g S ∧ WAt K' W r S' ∧ ¬ K' g ∧ ¬ K r ∧ g ≠ r ∧ ∀ k, X k → ¬ K k ∧ ¬ K' k ∧ k ≠ g ∧ k ≠ r
  xin : ∀ k, X k → k < W.heap.size
  b : Below w.heap.size w W
  gw : w.heap.size ≤ g
  rw' : w.heap.size ≤ r
theorem DX.kill {X : Nat → Prop} {w W : World} {g r : Nat} {S S' : KS} (h : DX X w W g r S S') (way : Int) (v : Value) (l : List Int) (hv : Holds1 W v (runeVals l)) :
    Calls Try.prog 11 #[.pointer (some ⟨g, 0, none⟩), .int .i64 way, v] W fun e W' => e = .returned (.int .i64 (killErr S way l)) ∧ DX X w W' g r (killS S way l) S' ∧ Touch (Only g) W W' := by
  obtain ⟨⟨K, K', h1, h2, h3, h4, h5, hX⟩, hx, h6, h7, h8⟩ := h
  refine (kill_any W g S h1 way v l hv).mono ?_
  rintro e W' ⟨he, g1, g2⟩
  refine ⟨he, ⟨⟨_, K', g1, h2.to (Agree.of_touch g2 fun k hk e => ?_), h3, ?_, h5, fun k hk => ⟨?_, (hX k hk).2⟩⟩, fun k hk => Nat.lt_of_lt_of_le (hx k hk) g2.size, below_only h6 h7 g2, h7, h8⟩, g2⟩
  · simp only [Only] at e
    rcases hk with hk | hk
    · exact h3 (e ▸ hk)
    · exact h5 (e.symm.trans hk)
  · rintro (hk | ⟨hk, _⟩)
    · exact h4 hk
    · exact absurd h2.lt (by omega)
  · rintro (h | ⟨h, _⟩)
    · exact (hX k hk).1 h
    · exact absurd (hx k hk) (by omega)
theorem DX.wkill {X : Nat → Prop} {w W : World} {g r : Nat} {S S' : KS} (h : DX X w W g r S S') (way : Int) (v : Value) (l : List Int) (hv : Holds1 W v (runeVals l)) :
    Calls Try.prog 12 #[.pointer (some ⟨r, 0, none⟩), .int .i64 way, v] W fun e W' => e = .returned (.int .i64 (killErr S' way l)) ∧ DX X w W' g r S (killS S' way l) ∧ Touch (Only r) W W' := by
  obtain ⟨⟨K, K', h1, h2, h3, h4, h5, hX⟩, hx, h6, h7, h8⟩ := h
  refine (wkill_any W r S' h2 way v l hv).mono ?_
  rintro e W' ⟨he, g1, g2⟩
  refine ⟨he, ⟨⟨K, _, h1.to (Agree.of_touch g2 fun k hk e => ?_), g1, ?_, h4, h5, fun k hk => ⟨(hX k hk).1, ?_, (hX k hk).2.2⟩⟩, fun k hk => Nat.lt_of_lt_of_le (hx k hk) g2.size, below_only h6 h8 g2, h7, h8⟩, g2⟩
  · simp only [Only] at e
    rcases hk with hk | hk
    · exact h4 (e ▸ hk)
    · exact h5 (hk.symm.trans e)
  · rintro (hk | ⟨hk, _⟩)
    · exact h3 hk
    · exact absurd h1.lt (by omega)
  · rintro (h | ⟨h, _⟩)
    · exact (hX k hk).2.1 h
    · exact absurd (hx k hk) (by omega)
/-- blocks of X, and new ones, are written -/
theorem DX.touch {X T : Nat → Prop} {w W W' : World} {g r : Nat} {S S' : KS} (h : DX X w W g r S S') (ht : Touch T W W') (hT : ∀ k, T k → X k ∧ w.heap.size ≤ k) : DX X w W' g r S S' := by
  obtain ⟨⟨K, K', h1, h2, h3, h4, h5, hX⟩, hx, h6, h7, h8⟩ := h
  refine ⟨⟨K, K', h1.to (Agree.of_touch ht fun k hk e => ?_), h2.to (Agree.of_touch ht fun k hk e => ?_), h3, h4, h5, hX⟩, fun k hk => Nat.lt_of_lt_of_le (hx k hk) ht.size, h6.trans (ht.below h6.size fun k hk => (hT k hk).2), h7, h8⟩
  · obtain ⟨a1, a2, a3, a4⟩ := hX k (hT k e).1
    rcases hk with hk | hk
    · exact a1 hk
    · exact a3 hk
  · obtain ⟨a1, a2, a3, a4⟩ := hX k (hT k e).1
    rcases hk with hk | hk
    · exact a2 hk
    · exact a4 hk
theorem DX.di {X : Nat → Prop} {w W : World} {g r : Nat} {S S' : KS} (h : DX X w W g r S S') : DI w W g r S S' := by
  obtain ⟨⟨K, K', h1, h2, h3, h4, h5, _⟩, _, h6, h7, h8⟩ := h
  exact ⟨⟨K, K', h1, h2, h3, h4, h5⟩, h6, h7, h8⟩
/-- new blocks are written -/
theorem DI.fresh {w W W' : World} {g r : Nat} {S S' : KS} (h : DI w W g r S S') {T : Nat → Prop} (ht : Touch T W W') (hT : ∀ k, T k → W.heap.size ≤ k) : DI w W' g r S S' :=
  h.below (ht.below (Nat.le_refl _) hT)
/-- how it begins -/
theorem DX.start {w wr w1 w4 w5 : World} {g r : Nat} {S S' : KS} {K K' : Nat → Prop} (hR : RAt K w5 g S) (hV : WAt K' w5 r S') (hK : ∀ k, K k → wr.heap.size ≤ k) (hK1 : ∀ k, K k → k < w1.heap.size) (hK' : ∀ k, K' k → w1.heap.size ≤ k) (hg : wr.heap.size ≤ g) (hg1 : g < w1.heap.size) (hr : w1.heap.size ≤ r) (hr4 : r < w4.heap.size)
    (_ : w1.heap.size ≤ w4.heap.size) (hK4 : ∀ k, K' k → k < w4.heap.size) (h45 : w4.heap.size ≤ w5.heap.size) (hb : Below w.heap.size w w5) (hw : w.heap.size ≤ wr.heap.size) (_ : wr.heap.size ≤ w1.heap.size) :
    DX (fun k => k < wr.heap.size ∨ (w4.heap.size ≤ k ∧ k < w5.heap.size)) w w5 g r S S' := by
  refine ⟨⟨K, K', hR, hV, fun h => by have := hK' _ h; omega, fun h => by have := hK1 _ h; omega, by omega, ?_⟩, fun k hk => by omega, hb, by omega, by omega⟩
  rintro k (hk | ⟨hk, _⟩)
  · exact ⟨fun h => by have := hK _ h; omega, fun h => by have := hK' _ h; omega, by omega, by omega⟩
  · exact ⟨fun h => by have := hK1 _ h; omega, fun h => by have := hK4 _ h; omega, by omega, by omega⟩
end Go.Proofs.Ytknekldnipdpeaa
