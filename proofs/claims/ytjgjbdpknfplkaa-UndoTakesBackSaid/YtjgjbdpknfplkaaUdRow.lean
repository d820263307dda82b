/-
  Rows of edits of a call's own: what they hold, and appends to them. No program is walked here, and nothing is assumed.
-/
import Derived.Test.YtjgjbdpknfplkaaUdAdd
namespace Go.Proofs.Ytjgjbdpknfplkaa
open Go.RowKit Go.Shelf Go.Lib
attribute [local go_sem] Oper.semAt_some

def edCells (x : Ed × Value × Value) : List Value := [.int .i64 x.1.p, x.2.1, x.2.2]
def edVals (xs : List (Ed × Value × Value)) : List Value := xs.flatMap edCells
theorem edVals_append (a b : List (Ed × Value × Value)) : edVals (a ++ b) = edVals a ++ edVals b := List.flatMap_append
theorem edVals_length (xs : List (Ed × Value × Value)) : (edVals xs).length = xs.length * 3 := by
  induction xs with
  | nil => rfl
  | cons x l ih => simp [edVals, edCells] at ih ⊢; omega
theorem edVals_at (xs : List (Ed × Value × Value)) {i k : Nat} {x : Ed × Value × Value} (h : xs[i]? = some x) (hk : k < 3) : (edVals xs)[i * 3 + k]? = (edCells x)[k]? := by
  induction xs generalizing i with
  | nil => simp at h
  | cons y l ih =>
    have e : edVals (y :: l) = edCells y ++ edVals l := by simp [edVals]
    have hl : (edCells y).length = 3 := rfl
    rw [e]
    cases i with
    | zero =>
      simp at h
      subst h
      rw [List.getElem?_append_left (by rw [hl]; omega), Nat.zero_mul, Nat.zero_add]
    | succ i =>
      rw [List.getElem?_append_right (by rw [hl]; omega), hl]
      rw [show (i + 1) * 3 + k - 3 = i * 3 + k by omega]
      exact ih (by simpa using h)
/-- a row of edits in blocks from B on, each edit's runes in rows from B on -/
def ERow (W : World) (B : Nat) (v : Value) (el : List Ed) : Prop :=
  ∃ xs : List (Ed × Value × Value), xs.map Prod.fst = el ∧ W.ownsRow B 24 3 v el.length (edVals xs) ∧ ∀ x ∈ xs, RRow W B x.2.1 x.1.d ∧ RRow W B x.2.2 x.1.i
/-- a row of another kind is left as it was -/
theorem own_apart {w w' : World} {base base' size size' : Nat} {e e' : TypeId} {v v' : Value} {n n' : Nat} {xs xs' : List Value} (h : w.ownsRow base e size v n xs) (h' : w.ownsRow base' e' size' v' n' xs') (hne : e ≠ e') (hg : w.grownBy w' v'.ownBlock) : w'.ownsRow base e size v n xs := by
  refine h.kept hg ?_
  rcases h.2 with ⟨rfl, _⟩ | ⟨g, cap, cur, rfl, _, hh, _⟩
  · exact .inl rfl
  · refine .inr fun he => ?_
    obtain ⟨cur', hh'⟩ := own_kind h' he.symm
    rw [hh] at hh'
    injection hh' with hh'
    injection hh' with _ ht
    exact hne ht
theorem rune_ne_edit : 21 ≠ 24 := by decide
theorem ERow.touch {W W' : World} {B : Nat} {v : Value} {el : List Ed} {T : Nat → Prop} (h : ERow W B v el) (ht : Touch T W W') (hT : ∀ k, T k → k < B) : ERow W' B v el := by
  obtain ⟨xs, h1, h2, h3⟩ := h
  exact ⟨xs, h1, own_touch h2 ht hT, fun x hx => ⟨own_touch (h3 x hx).1 ht hT, own_touch (h3 x hx).2 ht hT⟩⟩
theorem ERow.below {W W' : World} {B : Nat} {v : Value} {el : List Ed} (h : ERow W B v el) (hb : Below W.heap.size W W') : ERow W' B v el := h.touch (Touch.of_below (T := fun _ => False) hb) fun _ h => h.elim
theorem ERow.less {W : World} {B B' : Nat} {v : Value} {el : List Ed} (h : ERow W B v el) (hB : B' ≤ B) : ERow W B' v el := by
  obtain ⟨xs, h1, h2, h3⟩ := h
  exact ⟨xs, h1, own_less h2 hB, fun x hx => ⟨(h3 x hx).1.less hB, (h3 x hx).2.less hB⟩⟩
theorem ERow.nil (W : World) (B : Nat) : ERow W B (.slice none 0 0) [] := ⟨[], rfl, World.ownsRow_nil _ _ _ _, fun x hx => by cases hx⟩
theorem ERow.form {W : World} {B : Nat} {v : Value} {el : List Ed} (h : ERow W B v el) : ∃ A cap, v = .slice A el.length cap := by
  obtain ⟨xs, _, h2, _⟩ := h
  obtain ⟨A, c, e, _⟩ := own_form h2
  exact ⟨A, c, e⟩
theorem info_edit : (Try.prog.info? 24).map (fun i => (i.zero, i.size, i.bytes)) = some (some (.agg #[.int .i64 0, .slice none 0 0, .slice none 0 0]), 3, 56) := by kernel_rfl
theorem edCells_one {e : Ed} {u v : Value} (hu : u.oneCell' = true) (hv : v.oneCell' = true) : ∀ x ∈ edCells (e, u, v), x.oneCell' = true := by
  intro x hx
  simp [edCells] at hx
  rcases hx with rfl | rfl | rfl <;> first | rfl | exact hu | exact hv
theorem slice_one {W : World} {B size n : Nat} {e : TypeId} {v : Value} {xs : List Value} (h : W.ownsRow B e size v n xs) : v.oneCell' = true := by
  obtain ⟨A, c, rfl, _⟩ := own_form h
  rfl
theorem edVals_one {W : World} {B : Nat} {xs : List (Ed × Value × Value)} (h : ∀ x ∈ xs, RRow W B x.2.1 x.1.d ∧ RRow W B x.2.2 x.1.i) : ∀ u ∈ edVals xs, u.oneCell' = true := by
  intro u hu
  simp only [edVals, List.mem_flatMap] at hu
  obtain ⟨x, hx, hu⟩ := hu
  exact edCells_one (e := x.1) (slice_one (h x hx).1) (slice_one (h x hx).2) u hu
theorem run_append_ed (w : World) (B : Nat) (ty : TypeId) (v : Value) (el : List Ed) (hrow : ERow w B v el) (e : Ed) (dv iv : Value) (hd : RRow w B dv e.d) (hi : RRow w B iv e.i) {g cp : Nat} {cs : Array Value} {t2 : TypeId} {fr : Nat × Nat} (h : w.heap[g]? = some (.cells cs t2 fr)) (hcs : cs.toList = edCells (e, dv, iv)) (hl : el.length ≤ 1000000) (hB : B ≤ w.heap.size) :
    ∃ v' w', (Builtin.append_ #[40, 40] ty #[v, .slice (some ⟨g, 0, none⟩) 1 cp]).run Try.prog w = .ok v' w' ∧ ERow w' B v' (el ++ [e]) ∧ Below B w w' ∧ w.grownBy w' v.ownBlock := by
  obtain ⟨i, hi2, hz, hs2, hby⟩ := info_parts info_edit
  obtain ⟨xs, e1, h2, h3⟩ := hrow
  have hsrc : Src w 3 (some ⟨g, 0, none⟩) cp 1 (edCells (e, dv, iv)) := ⟨rfl, (fun e => by cases e), fun _ => ⟨g, 0, rfl, (Array.getElem?_eq_some_iff.1 h).1, fun j u hu => by
    rw [Nat.zero_add, cell_of_row w g j _ _ _ h, ← Array.getElem?_toList, hcs]
    exact hu⟩⟩
  obtain ⟨v', w', hr, h4, h5, h6⟩ := run_append_src (P := Try.prog) w B 40 ty 24 i _ 3 56 Try.underlying40 hi2 hz hs2 hby rfl (by decide) v el.length (edVals xs) h2 hsrc (edCells_one (slice_one hd) (slice_one hi)) (by unfold maxLen; omega) (by omega) hB
  refine ⟨v', w', hr, ⟨xs ++ [(e, dv, iv)], by simp [e1], ?_, fun x hx => ?_⟩, grown_below h5 hB fun k hk => (own_lt h2 k hk).1, h5⟩
  · rw [List.length_append, edVals_append]
    have e : edVals [(e, dv, iv)] = edCells (e, dv, iv) := by simp [edVals]
    rw [e]
    exact h4
  · rcases List.mem_append.1 hx with hx | hx
    · exact ⟨own_apart (h3 x hx).1 h2 rune_ne_edit h5, own_apart (h3 x hx).2 h2 rune_ne_edit h5⟩
    · simp at hx
      subst hx
      exact ⟨own_apart hd h2 rune_ne_edit h5, own_apart hi h2 rune_ne_edit h5⟩
theorem wpList_append_ed {ops : Array Oper} {rest : List Oper} {o : Oper} {a : Act} {w : World} {Q : Exit → Act → World → Prop} (hgd : o.guard = none) (s x : Operand)
    (ho : o.op = .call { callee := .builtin .append, args := #[s, x], argTypes := #[40, 40] }) (B : Nat) (v : Value) (el : List Ed) (hs : a.eval s = v) (hrow : ERow w B v el) (e : Ed) (dv iv : Value) (hd : RRow w B dv e.d) (hi : RRow w B iv e.i) {g cp : Nat} {cs : Array Value} {t2 : TypeId} {fr : Nat × Nat}
    (hx : a.eval x = .slice (some ⟨g, 0, none⟩) 1 cp) (hh : w.heap[g]? = some (.cells cs t2 fr)) (hcs : cs.toList = edCells (e, dv, iv)) (hl : el.length ≤ 1000000) (hB : B ≤ w.heap.size)
    (h : ∀ v' w', ERow w' B v' (el ++ [e]) → Below B w w' → wpList Try.prog ops Q rest (a.put o.dst v') w') : wpList Try.prog ops Q (o :: rest) a w := by
  refine wpList_plain hgd fun K hK => ?_
  obtain ⟨v', w', hrun, r1, r2, _⟩ := run_append_ed w B o.type v el hrow e dv iv hd hi (cp := cp) hh hcs hl hB
  unfold Oper.wp
  simp [execOp, ho, resolve, invoke, builtin, hs, hx, hrun, Result.andThen]
  exact hK _ _ (h v' w' r1 r2)
theorem run_append_eds (w : World) (B B2 : Nat) (ty : TypeId) (v v2 : Value) (el el2 : List Ed) (hrow : ERow w B v el) (hrow2 : ERow w B2 v2 el2) (hB2 : B ≤ B2) (hl : el.length + el2.length ≤ 1000000) (hB : B ≤ w.heap.size) :
    ∃ v' w', (Builtin.append_ #[40, 40] ty #[v, v2]).run Try.prog w = .ok v' w' ∧ ERow w' B v' (el ++ el2) ∧ Below B w w' := by
  obtain ⟨i, hi, hz, hs2, hby⟩ := info_parts info_edit
  obtain ⟨xs, e1, h1, h3⟩ := hrow
  obtain ⟨ys, f1, k1, k3⟩ := hrow2
  obtain ⟨A, c, hv2, _⟩ := own_form k1
  subst hv2
  have hsrc := own_head k1 (Nat.le_refl _)
  rw [List.take_of_length_le (by rw [edVals_length, ← f1, List.length_map]; omega)] at hsrc
  obtain ⟨v', w', hr, h4, h5, _⟩ := run_append_src (P := Try.prog) w B 40 ty 24 i _ 3 56 Try.underlying40 hi hz hs2 hby rfl (by decide) v el.length (edVals xs) h1 hsrc (edVals_one k3) (by unfold maxLen; omega) (by omega) hB
  refine ⟨v', w', hr, ⟨xs ++ ys, by simp [e1, f1], ?_, fun z hz => ?_⟩, grown_below h5 hB fun k hk => (own_lt h1 k hk).1⟩
  · rw [List.length_append, edVals_append]
    exact h4
  · rcases List.mem_append.1 hz with hz | hz
    · exact ⟨own_apart (h3 z hz).1 h1 rune_ne_edit h5, own_apart (h3 z hz).2 h1 rune_ne_edit h5⟩
    · exact ⟨own_apart ((k3 z hz).1.less hB2) h1 rune_ne_edit h5, own_apart ((k3 z hz).2.less hB2) h1 rune_ne_edit h5⟩
theorem wpList_append_eds {ops : Array Oper} {rest : List Oper} {o : Oper} {a : Act} {w : World} {Q : Exit → Act → World → Prop} (hgd : o.guard = none) (s x : Operand)
    (ho : o.op = .call { callee := .builtin .append, args := #[s, x], argTypes := #[40, 40] }) (B B2 : Nat) (v v2 : Value) (el el2 : List Ed) (hs : a.eval s = v) (hrow : ERow w B v el) (hx : a.eval x = v2) (hrow2 : ERow w B2 v2 el2) (hB2 : B ≤ B2) (hl : el.length + el2.length ≤ 1000000) (hB : B ≤ w.heap.size)
    (h : ∀ v' w', ERow w' B v' (el ++ el2) → Below B w w' → wpList Try.prog ops Q rest (a.put o.dst v') w') : wpList Try.prog ops Q (o :: rest) a w := by
  refine wpList_plain hgd fun K hK => ?_
  obtain ⟨v', w', hrun, r1, r2⟩ := run_append_eds w B B2 o.type v v2 el el2 hrow hrow2 hB2 hl hB
  unfold Oper.wp
  simp [execOp, ho, resolve, invoke, builtin, hs, hx, hrun, Result.andThen]
  exact hK _ _ (h v' w' r1 r2)
/-- edits that lie somewhere, for reading -/
def HoldsE (w : World) (v : Value) (el : List Ed) : Prop :=
  ∃ A c, v = .slice A el.length c ∧ (0 < el.length → ∃ b off, A = some ⟨b, off, none⟩ ∧ b < w.heap.size ∧ ∀ j e, el[j]? = some e → ∃ dv iv, (w.cell? ⟨b, off + j * 3, none⟩ = some (.int .i64 e.p) ∧ w.cell? ⟨b, off + j * 3 + 1, none⟩ = some dv ∧ w.cell? ⟨b, off + j * 3 + 2, none⟩ = some iv) ∧ Holds1 w dv (runeVals e.d) ∧ Holds1 w iv (runeVals e.i))
theorem HoldsE.below {w w' : World} {v : Value} {el : List Ed} (h : HoldsE w v el) (hb : Below w.heap.size w w') : HoldsE w' v el := by
  obtain ⟨A, c, rfl, h⟩ := h
  refine ⟨A, c, rfl, fun hn => ?_⟩
  obtain ⟨b, off, hA, hlt, hcell⟩ := h hn
  refine ⟨b, off, hA, Nat.lt_of_lt_of_le hlt hb.size, fun j e he => ?_⟩
  obtain ⟨dv, iv, ⟨c0, c1, c2⟩, h1, h2⟩ := hcell j e he
  exact ⟨dv, iv, ⟨(hb.cell (p := ⟨b, off + j * 3, none⟩) hlt).trans c0, (hb.cell (p := ⟨b, off + j * 3 + 1, none⟩) hlt).trans c1, (hb.cell (p := ⟨b, off + j * 3 + 2, none⟩) hlt).trans c2⟩, h1.below hb, h2.below hb⟩
theorem ERow.holds {W : World} {B : Nat} {v : Value} {el : List Ed} (h : ERow W B v el) : HoldsE W v el := by
  obtain ⟨xs, rfl, h2, h3⟩ := h
  rcases h2.2 with ⟨rfl, h0⟩ | ⟨g, cap, cur, rfl, _, hg, hn, _, hs, ht⟩
  · exact ⟨none, 0, by rw [h0], fun hp => by omega⟩
  · refine ⟨some ⟨g, 0, none⟩, cap, rfl, fun _ => ⟨g, 0, rfl, (Array.getElem?_eq_some_iff.1 hg).1, fun j e he => ?_⟩⟩
    rw [List.getElem?_map] at he
    obtain ⟨x, hx, rfl⟩ := Option.map_eq_some_iff.1 he
    have hm := List.mem_of_getElem? hx
    have hj : j < xs.length := (List.getElem?_eq_some_iff.1 hx).1
    have hc : ∀ k u, k < 3 → (edCells x)[k]? = some u → W.cell? ⟨g, 0 + j * 3 + k, none⟩ = some u := fun k u hk hu => by
      rw [cell_of_row W g (0 + j * 3 + k) cur _ (0, 0) hg, Nat.zero_add]
      have := edVals_at xs hx hk
      rw [hu, ← ht, List.getElem?_take] at this
      split at this
      · rw [← this, Array.getElem?_toList]
      · cases this
    exact ⟨x.2.1, x.2.2, ⟨hc 0 _ (by omega) rfl, hc 1 _ (by omega) rfl, hc 2 _ (by omega) rfl⟩, (h3 x hm).1.holds, (h3 x hm).2.holds⟩
end Go.Proofs.Ytjgjbdpknfplkaa
