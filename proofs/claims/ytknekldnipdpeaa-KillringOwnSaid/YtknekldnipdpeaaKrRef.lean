/-
  The document's ring in memory, and what its both, Yank and Rotate answer.
-/
import Derived.Test.YtknekldnipdpeaaKrJoinsP
namespace Go.Proofs.Ytknekldnipdpeaa
open Go.RowKit Go.Shelf Go.Lib
attribute [local go_sem] Oper.semAt_some

theorem holds_nil (w : World) : Holds1 w (.slice none 0 0) (runeVals []) := ⟨none, 0, rfl, ⟨Nat.le_refl _, fun _ => rfl⟩, fun h => by simp [runeVals] at h⟩
set_option maxRecDepth 1000000 in
theorem both_any (w : World) (x y : List Int) (v u : Value) (hx : Holds1 w v (runeVals x)) (hy : Holds1 w u (runeVals y)) (hl : x.length + y.length ≤ 35184372088832) :
    Calls Try.prog 31 #[v, u] w fun e w' => ∃ A c, e = .returned (.slice A (x ++ y).length c) ∧ RRow w' w.heap.size (.slice A (x ++ y).length c) (x ++ y) ∧ Below w.heap.size w w' := by
  obtain ⟨A1, c1, rfl, _⟩ := id hx
  obtain ⟨A2, c2, rfl, _⟩ := id hy
  rw [runeVals_length] at hx hy ⊢
  rw [runeVals_length]
  have HX := Lib.hid hx
  have HY := Lib.hid hy
  have HL1 : Hid (([] : List Int).length + x.length ≤ 35184372088832) := Lib.hid (by simp; omega)
  have HL := Lib.hid hl
  have tok1 : True := trivial
  clear hx hy hl
  generalize hxl : x.length = xl at *
  generalize hyl : y.length = yl at *
  have HXL := Lib.hid hxl
  have HYL := Lib.hid hyl
  clear hxl hyl
  go_enter Try.func31, Try.ntmps31
  go_wp2_with (first
    | (at_builtin; have tk := tok1; refine wpList_append_runes2 (by rfl) _ _ (by rfl) w.heap.size (.slice none 0 0) [] (by rfl) (RRow.nil _ _) A1 xl c1 x (by rfl) HX.out (by rw [HXL.out]; exact HL1.out) (Nat.le_refl _) ?_; rintro A3 n3 c3 w3 hn3 hrow hb3 hg3 ho3; rw [List.nil_append] at hrow hn3; have R3 := Lib.hid hrow; have B3 := Lib.hid hb3; have tok2 : True := trivial; clear hrow hb3 hg3 ho3 hn3 tk tok1)
    | (at_builtin; have tk := tok2; refine wpList_append_runes2 (by rfl) _ _ (by rfl) w.heap.size (.slice A3 n3 c3) x (by rfl) R3.out A2 yl c2 y (by rfl) (HY.out.below B3.out) (by rw [HXL.out, HYL.out]; exact HL.out) B3.out.size ?_; rintro A4 n4 c4 w4 hn4 hrow hb4 hg4 ho4; have R4 := Lib.hid hrow; have B4 := Lib.hid (B3.out.trans hb4); have HN4 := Lib.hid hn4; clear hrow hb4 hg4 ho4 hn4 tk tok2))
  go_ret
  have hn := HN4.out
  subst hn
  exact ⟨A4, c4, rfl, R4.out, B4.out⟩
/-- entries that a row of the document's ring holds; its blocks are K's -/
def LRow (K : Nat → Prop) (w : World) (v : Value) (es : List (List Int)) : Prop :=
  ∃ xs : List Value, w.ownsRow 0 30 1 v es.length xs ∧ (∀ k, v.ownBlock = some k → K k) ∧ ∀ (i : Nat) (l : List Int), es[i]? = some l → ∃ x, xs[i]? = some x ∧ RIn K w x l ∧ l.length ≤ 1024
theorem LRow.to {K : Nat → Prop} {w W : World} {v : Value} {es : List (List Int)} (h : LRow K w v es) (ha : Agree K w W) : LRow K W v es := by
  obtain ⟨xs, h1, h2, h3⟩ := h
  refine ⟨xs, own_same h1 fun k hk => ha.block k (h2 k hk) (own_lt h1 k hk).2, h2, fun i l hi => ?_⟩
  obtain ⟨x, h4, h5, h6⟩ := h3 i l hi
  exact ⟨x, h4, h5.to ha, h6⟩
theorem LRow.mono {K K' : Nat → Prop} {w : World} {v : Value} {es : List (List Int)} (h : LRow K w v es) (hK : ∀ k, K k → K' k) : LRow K' w v es := by
  obtain ⟨xs, h1, h2, h3⟩ := h
  refine ⟨xs, h1, fun k hk => hK k (h2 k hk), fun i l hi => ?_⟩
  obtain ⟨x, h4, h5, h6⟩ := h3 i l hi
  exact ⟨x, h4, h5.mono hK, h6⟩
theorem LRow.form {K : Nat → Prop} {w : World} {v : Value} {es : List (List Int)} (h : LRow K w v es) : ∃ A c, v = .slice A es.length c := by
  obtain ⟨xs, h1, _⟩ := h
  obtain ⟨A, c, e, _⟩ := own_form h1
  exact ⟨A, c, e⟩
theorem LRow.mat {K : Nat → Prop} {w : World} {v : Value} {es : List (List Int)} (h : LRow K w v es) (hl : es.length ≤ 140737488355328) : Mat w v es := by
  obtain ⟨xs, h1, _, h3⟩ := h
  refine ⟨hl, fun l hm => ?_, ?_⟩
  · obtain ⟨i, hi⟩ := List.getElem?_of_mem hm
    obtain ⟨_, _, _, h6⟩ := h3 i l hi
    omega
  · rcases h1.2 with ⟨rfl, h0⟩ | ⟨g, cap, cur, rfl, _, hg, hn, _, hs, ht⟩
    · exact ⟨none, 0, by rw [h0], fun hp => by omega⟩
    · refine ⟨some ⟨g, 0, none⟩, cap, rfl, fun _ => ⟨g, 0, rfl, (Array.getElem?_eq_some_iff.1 hg).1, fun i l hi => ?_⟩⟩
      obtain ⟨x, h4, h5, _⟩ := h3 i l hi
      refine ⟨x, ?_, h5.now⟩
      rw [Nat.zero_add, cell_of_row w g i cur _ (0, 0) hg]
      rw [← ht, List.getElem?_take] at h4
      split at h4
      · rw [← h4, Array.getElem?_toList]
      · cases h4
/-- the document's ring -/
structure WAt (K : Nat → Prop) (w : World) (r : Nat) (S : KS) : Prop where
  ex : ∃ v, w.heap[r]? = some (.cells #[v, .int .i64 (S.pl : Int)] 28 (0, 0)) ∧ LRow K w v S.es
  many : S.es.length ≤ 60
  pl : S.pl < S.es.length ∨ (S.pl = 0 ∧ S.es = [])
  lt : r < w.heap.size
  off : ¬ K r
  inw : ∀ k, K k → k < w.heap.size
section
variable {K : Nat → Prop}
theorem WAt.to {w W : World} {r : Nat} {S : KS} (h : WAt K w r S) (ha : Agree (fun k => K k ∨ k = r) w W) : WAt K W r S := by
  obtain ⟨v, h1, h2⟩ := h.ex
  exact ⟨⟨v, (ha.block r (.inr rfl) h.lt).trans h1, h2.to (ha.mono fun _ _ hk => .inl hk)⟩, h.many, h.pl, Nat.lt_of_lt_of_le h.lt ha.size, h.off, fun k hk => Nat.lt_of_lt_of_le (h.inw k hk) ha.size⟩
theorem WAt.below {w W : World} {r : Nat} {S : KS} (h : WAt K w r S) (hb : Below w.heap.size w W) : WAt K W r S := h.to (Agree.of_below hb)
theorem WAt.cells {w : World} {r : Nat} {S : KS} (h : WAt K w r S) : ∃ A c, w.heap[r]? = some (.cells #[.slice A S.es.length c, .int .i64 (S.pl : Int)] 28 (0, 0)) ∧ LRow K w (.slice A S.es.length c) S.es ∧ Mat w (.slice A S.es.length c) S.es := by
  obtain ⟨v, h1, h2⟩ := h.ex
  obtain ⟨A, c, rfl⟩ := h2.form
  exact ⟨A, c, h1, h2, h2.mat (by have := h.many; omega)⟩
end
end Go.Proofs.Ytknekldnipdpeaa
