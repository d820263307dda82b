/-
  The law TinfoOwn: how it copies an entry's lists first, in whatever order.
-/
import Derived.Test.YtcfgppjhgobboaaGreatDoorTmObjs
import Derived.Test.YtcfgppjhgobboaaGreatDoorTmBase
namespace Go.Proofs.YtcfgppjhgobboaaGreatDoor
open Go.RowKit Go.Shelf Go.Lib
attribute [local go_sem] Oper.semAt_some

theorem row_type {W : World} {e : TypeId} {size n : Nat} {v : Value} {xs : List Value} (h : W.ownsRow 0 e size v n xs) {k : Nat} (hk : v.ownBlock = some k) : ∃ cs, W.heap[k]? = some (.cells cs e (0, 0)) := by
  rcases h.2 with ⟨rfl, _⟩ | ⟨g, cap, cur, rfl, _, hg, _⟩
  · cases hk
  · simp [Value.ownBlock] at hk
    subst hk
    exact ⟨cur, hg⟩
theorem RowQ.type {W : World} {t : TermD} {q : Nat} {u : Value} (h : RowQ W t q u) {k : Nat} (hk : u.ownBlock = some k) : ∃ cs e, W.heap[k]? = some (.cells cs e (0, 0)) ∧ e ≠ 26 := by
  unfold RowQ at h
  split at h
  · obtain ⟨cs, hc⟩ := row_type h hk; exact ⟨cs, _, hc, by decide⟩
  · obtain ⟨cs, hc⟩ := row_type h hk; exact ⟨cs, _, hc, by decide⟩
/-- what the operations give that neither call nor make memory -/
def pureO (b : Nat) (t : TermD) (vq : Nat → Value) : Nat → Option Value
  | 0 => some (.pointer (some ⟨b, 0, none⟩))
  | 1 => some (str t.names)
  | 2 => some (.pointer (some ⟨b, 1, none⟩))
  | 3 => some (.bool t.wide)
  | 4 => some (.pointer (some ⟨b, 2, none⟩))
  | 5 => some (vq 0)
  | 7 => some (.pointer (some ⟨b, 3, none⟩))
  | 8 => some (vq 1)
  | 10 => some (.pointer (some ⟨b, 4, none⟩))
  | 11 => some (vq 2)
  | 13 => some (.pointer (some ⟨b, 5, none⟩))
  | 14 => some (vq 3)
  | _ => none
theorem pureO_ne {b : Nat} {t : TermD} {vq : Nat → Value} {i : Nat} {x : Value} (h : pureO b t vq i = some x) : (∀ q, q < 4 → 3 * q + 6 ≠ i) ∧ 16 ≠ i ∧ 17 ≠ i ∧ 18 ≠ i := by
  refine ⟨fun q hq e => ?_, fun e => ?_, fun e => ?_, fun e => ?_⟩ <;> subst e
  · match q, hq with
    | 0, _ | 1, _ | 2, _ | 3, _ => cases h
  all_goals cases h
structure OwnJ (w0 : World) (tb : Nat) (t : TermD) (vq : Nat → Value) (L : Nat → Bool) (f : Nat → Value) (W : World) : Prop where
  base : Below w0.heap.size w0 W
  pures : ∀ j x, pureO tb t vq j = some x → L j = true → f j = x
  rows : ∀ q, q < 4 → L (3 * q + 6) = true → RowQ W t q (f (3 * q + 6))
  built : L 16 = true → f 16 = .agg #[str t.names, .bool t.wide, f 6, f 9, f 12, f 15]
  made : L 17 = true → ∃ b, f 17 = .pointer (some ⟨b, 0, none⟩) ∧ w0.heap.size ≤ b ∧ W.heap[b]? = some (if L 18 = true then termObj t.names t.wide (f 6) (f 9) (f 12) (f 15) else termZero)
section
variable {w0 W W' : World} {tb : Nat} {t : TermD} {vq : Nat → Value} {L : Nat → Bool} {f : Nat → Value}
theorem OwnJ.pure (h : OwnJ w0 tb t vq L f W) {i : Nat} {x : Value} (hp : pureO tb t vq i = some x) : OwnJ w0 tb t vq (upd L i true) (upd f i x) W := by
  obtain ⟨n1, n2, n3, n4⟩ := pureO_ne hp
  have n6 := n1 0 (by omega)
  have n9 := n1 1 (by omega)
  have n12 := n1 2 (by omega)
  have n15 := n1 3 (by omega)
  refine ⟨h.base, fun j y hy hL => ?_, fun q hq hL => ?_, fun hL => ?_, fun hL => ?_⟩
  · by_cases hj : j = i
    · subst hj
      rw [hp] at hy
      injection hy with hy
      rw [upd_same, hy]
    · rw [upd_ne _ _ hj] at hL ⊢
      exact h.pures j y hy hL
  · rw [upd_ne _ _ (n1 q hq)] at hL ⊢
    exact h.rows q hq hL
  · rw [upd_ne _ _ n2] at hL ⊢
    rw [upd_ne _ _ n6, upd_ne _ _ n9, upd_ne _ _ n12, upd_ne _ _ n15]
    exact h.built hL
  · rw [upd_ne _ _ n3] at hL ⊢
    rw [upd_ne _ _ n6, upd_ne _ _ n9, upd_ne _ _ n12, upd_ne _ _ n15, upd_ne _ _ n4]
    exact h.made hL
theorem OwnJ.call (h : OwnJ w0 tb t vq L f W) {q : Nat} (hq : q < 4) (h16 : L 16 = false) (h18 : L 18 = false) {u : Value} (hb : Below W.heap.size W W') (hr : RowQ W' t q u) : OwnJ w0 tb t vq (upd L (3 * q + 6) true) (upd f (3 * q + 6) u) W' := by
  refine ⟨h.base.trans (hb.mono h.base.size), fun j y hy hL => ?_, fun p hp hL => ?_, fun hL => ?_, fun hL => ?_⟩
  · have hne : j ≠ 3 * q + 6 := fun e => (pureO_ne hy).1 q hq e.symm
    rw [upd_ne _ _ hne] at hL ⊢
    exact h.pures j y hy hL
  · by_cases hpq : p = q
    · subst hpq
      rw [upd_same]
      exact hr
    · rw [upd_ne _ _ (by omega : 3 * p + 6 ≠ 3 * q + 6)] at hL ⊢
      exact (h.rows p hp hL).same fun k _ hk => hb.block k hk
  · rw [upd_ne _ _ (by omega : 16 ≠ 3 * q + 6), h16] at hL
    cases hL
  · rw [upd_ne _ _ (by omega : 17 ≠ 3 * q + 6)] at hL ⊢
    rw [upd_ne _ _ (by omega : 18 ≠ 3 * q + 6), h18]
    obtain ⟨b, h1, h2, h3⟩ := h.made hL
    rw [h18] at h3
    exact ⟨b, h1, h2, (hb.block _ (Array.getElem?_eq_some_iff.1 h3).1).trans h3⟩
theorem OwnJ.build (h : OwnJ w0 tb t vq L f W) : OwnJ w0 tb t vq (upd L 16 true) (upd f 16 (.agg #[str t.names, .bool t.wide, f 6, f 9, f 12, f 15])) W := by
  refine ⟨h.base, fun j y hy hL => ?_, fun q hq hL => ?_, fun _ => ?_, fun hL => ?_⟩
  · have hne : j ≠ 16 := fun e => (pureO_ne hy).2.1 e.symm
    rw [upd_ne _ _ hne] at hL ⊢
    exact h.pures j y hy hL
  · rw [upd_ne _ _ (by omega : 3 * q + 6 ≠ 16)] at hL ⊢
    exact h.rows q hq hL
  · rw [upd_same, upd_ne _ _ (by omega : 6 ≠ 16), upd_ne _ _ (by omega : 9 ≠ 16), upd_ne _ _ (by omega : 12 ≠ 16), upd_ne _ _ (by omega : 15 ≠ 16)]
  · rw [upd_ne _ _ (by omega : 17 ≠ 16)] at hL ⊢
    rw [upd_ne _ _ (by omega : 6 ≠ 16), upd_ne _ _ (by omega : 9 ≠ 16), upd_ne _ _ (by omega : 12 ≠ 16), upd_ne _ _ (by omega : 15 ≠ 16), upd_ne _ _ (by omega : 18 ≠ 16)]
    exact h.made hL
theorem OwnJ.alloc (h : OwnJ w0 tb t vq L f W) (h18 : L 18 = false) : OwnJ w0 tb t vq (upd L 17 true) (upd f 17 (.pointer (some ⟨W.heap.size, 0, none⟩))) (W.alloc termZero) := by
  have hb := below_alloc W termZero
  refine ⟨h.base.trans (hb.mono h.base.size), fun j y hy hL => ?_, fun q hq hL => ?_, fun hL => ?_, fun _ => ?_⟩
  · have hne : j ≠ 17 := fun e => (pureO_ne hy).2.2.1 e.symm
    rw [upd_ne _ _ hne] at hL ⊢
    exact h.pures j y hy hL
  · rw [upd_ne _ _ (by omega : 3 * q + 6 ≠ 17)] at hL ⊢
    exact (h.rows q hq hL).same fun k _ hk => hb.block k hk
  · rw [upd_ne _ _ (by omega : 16 ≠ 17)] at hL ⊢
    rw [upd_ne _ _ (by omega : 6 ≠ 17), upd_ne _ _ (by omega : 9 ≠ 17), upd_ne _ _ (by omega : 12 ≠ 17), upd_ne _ _ (by omega : 15 ≠ 17)]
    exact h.built hL
  · rw [upd_same, upd_ne _ _ (by omega : 18 ≠ 17), h18]
    exact ⟨W.heap.size, rfl, h.base.size, World.alloc_heap_new W termZero⟩
theorem OwnJ.store (h : OwnJ w0 tb t vq L f W) (h18 : L 18 = false) (h17 : L 17 = true) {b : Nat} (hb17 : f 17 = .pointer (some ⟨b, 0, none⟩)) (x : Value) (vals : Nat → Value) (h0 : vals 0 = f 6) (h1 : vals 1 = f 9) (h2 : vals 2 = f 12) :
    OwnJ w0 tb t vq (upd L 18 true) (upd f 18 x) (storeTerm W b t vals (f 15)) := by
  obtain ⟨b', e1, hb, hbox⟩ := h.made h17
  rw [hb17] at e1
  injection e1 with e1
  injection e1 with e1
  injection e1 with e1
  subst e1
  rw [h18] at hbox
  have ht := storeTerm_touch W b t vals (f 15)
  refine ⟨(Touch.trans (Touch.of_below (T := fun k => w0.heap.size ≤ k) h.base) (ht.mono fun k _ hk => by omega)).below (Nat.le_refl _) fun k hk => hk, fun j y hy hL => ?_, fun q hq hL => ?_, fun hL => ?_, fun hL => ?_⟩
  · have hne : j ≠ 18 := fun e => (pureO_ne hy).2.2.2 e.symm
    rw [upd_ne _ _ hne] at hL ⊢
    exact h.pures j y hy hL
  · rw [upd_ne _ _ (by omega : 3 * q + 6 ≠ 18)] at hL ⊢
    have hr := h.rows q hq hL
    exact hr.same fun k hk hlt => ht.block k hlt fun e => by
      subst e
      obtain ⟨cs, ty, h3, h4⟩ := hr.type hk
      rw [hbox] at h3
      injection h3 with h3
      injection h3 with _ h3 _
      exact h4 h3.symm
  · rw [upd_ne _ _ (by omega : 16 ≠ 18)] at hL ⊢
    rw [upd_ne _ _ (by omega : 6 ≠ 18), upd_ne _ _ (by omega : 9 ≠ 18), upd_ne _ _ (by omega : 12 ≠ 18), upd_ne _ _ (by omega : 15 ≠ 18)]
    exact h.built hL
  · rw [upd_ne _ _ (by omega : 17 ≠ 18), upd_same, upd_ne _ _ (by omega : 6 ≠ 18), upd_ne _ _ (by omega : 9 ≠ 18), upd_ne _ _ (by omega : 12 ≠ 18), upd_ne _ _ (by omega : 15 ≠ 18)]
    have := storeTerm_box (t := t) (v := vals) (ve := f 15) hbox
    rw [h0, h1, h2] at this
    exact ⟨b, hb17, hb, this⟩
end


theorem own_ok : ownOk (regionOf Tryz.f6 1) 138 = true := by kernel_rfl
theorem own_deps : depsOk (regionOf Tryz.f6 1) = true := by kernel_rfl
theorem own_size : (regionOf Tryz.f6 1).size = 19 := by kernel_rfl
theorem box_cells {W : World} {b : Nat} {t : TermD} {p q r s : Value} (h : W.heap[b]? = some (termObj t.names t.wide p q r s)) : W.cell? ⟨b, 0, none⟩ = some (str t.names) ∧ W.cell? ⟨b, 1, none⟩ = some (.bool t.wide) ∧ W.cell? ⟨b, 2, none⟩ = some p ∧ W.cell? ⟨b, 3, none⟩ = some q ∧ W.cell? ⟨b, 4, none⟩ = some r ∧ W.cell? ⟨b, 5, none⟩ = some s :=
  ⟨cell_of_row W b 0 _ _ _ h, cell_of_row W b 1 _ _ _ h, cell_of_row W b 2 _ _ _ h, cell_of_row W b 3 _ _ _ h, cell_of_row W b 4 _ _ _ h, cell_of_row W b 5 _ _ _ h⟩
set_option maxRecDepth 100000 in
set_option maxHeartbeats 2000000 in
theorem own_step (w0 : World) (tb : Nat) (t : TermD) (vq : Nat → Value) (a0 : Act) (Q : Exit → Act → World → Prop) (h1 : a0.eval (.tmp 3) = .pointer (some ⟨tb, 0, none⟩)) (hbx : w0.heap[tb]? = some (termObj t.names t.wide (vq 0) (vq 1) (vq 2) (vq 3)))
    (C : ∀ q, q < 4 → ∀ W, Below w0.heap.size w0 W → Calls Tryz.prog (if q = 3 then 18 else 17) #[vq q] W fun e W' => ∃ u, e = .returned u ∧ RowQ W' t q u ∧ Below W.heap.size W W') :
    ∀ i o, (regionOf Tryz.f6 1)[i]? = some o → ∀ L f W a, OwnJ w0 tb t vq L f W → ActAt (regionOf Tryz.f6 1) a0 a L f → L i = false → (∀ e ∈ o.after, Region.binds .any e = true → L e.on = true) →
      (∀ j o', (regionOf Tryz.f6 1)[j]? = some o' → L j = true → ∀ e ∈ o'.after, Region.binds .any e = true → L e.on = true) →
      wpOp Tryz.prog (regionOf Tryz.f6 1) Q i (fun a' W' => ∃ v, a' = a.put o.dst v ∧ OwnJ w0 tb t vq (upd L i true) (upd f i v) W') a W := by
  intro i o ho L f W a hJ hA hL hd hcl
  have hi : i < 19 := by rw [← own_size]; exact (Array.getElem?_eq_some_iff.1 ho).1
  have dep : ∀ {op d g l}, opIs (regionOf Tryz.f6 1) i = some (op, d, g, l) → o.op = op ∧ o.guard = none ∨ g = false := fun h => by
    obtain ⟨e1, _, e3, _⟩ := op_is ho h
    rw [← e3]
    cases hg : o.guard with
    | none => exact .inl ⟨e1, rfl⟩
    | some _ => exact .inr rfl
  have deps : ∀ {op d g l}, opIs (regionOf Tryz.f6 1) i = some (op, d, g, l) → ∀ j ∈ l, L j = true := fun h j hj => by
    obtain ⟨e, he, hb, rfl⟩ := (op_is ho h).2.2.2 j hj
    exact hd e he hb
  have closed : ∀ {j op d g l}, opIs (regionOf Tryz.f6 1) j = some (op, d, g, l) → L j = true → ∀ k ∈ l, L k = true := fun {j _ _ _ _} h hLj k hk => by
    have hj : ∃ o', (regionOf Tryz.f6 1)[j]? = some o' := by
      unfold opIs at h
      cases hx : (regionOf Tryz.f6 1)[j]? with
      | none => rw [hx] at h; cases h
      | some o' => exact ⟨o', rfl⟩
    obtain ⟨o', ho'⟩ := hj
    obtain ⟨e, he, hb, rfl⟩ := (op_is ho' h).2.2.2 k hk
    exact hcl j o' ho' hLj e he hb
  have no : ∀ {j k op d g l}, opIs (regionOf Tryz.f6 1) j = some (op, d, g, l) → k ∈ l → L k = false → L j = false := fun {j k _ _ _ _} h hk hLk => by
    cases hLj : L j with
    | false => rfl
    | true => have := closed h hLj k hk; rw [hLk] at this; cases this
  have hbox := (hJ.base.block _ (Array.getElem?_eq_some_iff.1 hbx).1).trans hbx
  obtain ⟨c0, c1, c2, c3, c4, c5⟩ := box_cells hbox
  match i, hi with
  | 0, _ =>
    have hop : opIs (regionOf Tryz.f6 1) 0 = some (.fieldAddr 26 (.tmp 3) 0, some 21, true, []) := by kernel_rfl
    obtain ⟨e1, eg⟩ := (dep hop).resolve_right (by simp)
    refine op_value ho eg (v := .pointer (some ⟨tb, 0, none⟩)) (w' := W) ?_ ⟨_, rfl, hJ.pure rfl⟩
    have hb := (hA.base (s := 3) (by kernel_rfl)).trans h1
    revert hb
    generalize a.eval = ρ
    intro hb
    simp [execOp, e1, hb, go_sem]
  | 1, _ =>
    have hop : opIs (regionOf Tryz.f6 1) 1 = some (.load 9 (.tmp 21), some 22, true, [0]) := by kernel_rfl
    obtain ⟨e1, eg⟩ := (dep hop).resolve_right (by simp)
    have hp : a.eval (.tmp 21) = .pointer (some ⟨tb, 0, none⟩) := (hA.val (j := 0) (by kernel_rfl) (deps hop 0 (by decide))).trans (hJ.pures 0 _ rfl (deps hop 0 (by decide)))
    refine op_value ho eg (v := str t.names) (w' := W) ?_ ⟨_, rfl, hJ.pure rfl⟩
    revert hp
    generalize a.eval = ρ
    intro hp
    simp [execOp, e1, hp, c0, go_sem]
  | 2, _ =>
    have hop : opIs (regionOf Tryz.f6 1) 2 = some (.fieldAddr 26 (.tmp 3) 1, some 23, true, []) := by kernel_rfl
    obtain ⟨e1, eg⟩ := (dep hop).resolve_right (by simp)
    refine op_value ho eg (v := .pointer (some ⟨tb, 1, none⟩)) (w' := W) ?_ ⟨_, rfl, hJ.pure rfl⟩
    have hb := (hA.base (s := 3) (by kernel_rfl)).trans h1
    revert hb
    generalize a.eval = ρ
    intro hb
    simp [execOp, e1, hb, go_sem]
  | 3, _ =>
    have hop : opIs (regionOf Tryz.f6 1) 3 = some (.load 4 (.tmp 23), some 24, true, [2]) := by kernel_rfl
    obtain ⟨e1, eg⟩ := (dep hop).resolve_right (by simp)
    have hp : a.eval (.tmp 23) = .pointer (some ⟨tb, 1, none⟩) := (hA.val (j := 2) (by kernel_rfl) (deps hop 2 (by decide))).trans (hJ.pures 2 _ rfl (deps hop 2 (by decide)))
    refine op_value ho eg (v := .bool t.wide) (w' := W) ?_ ⟨_, rfl, hJ.pure rfl⟩
    revert hp
    generalize a.eval = ρ
    intro hp
    simp [execOp, e1, hp, c1, go_sem]
  | 4, _ =>
    have hop : opIs (regionOf Tryz.f6 1) 4 = some (.fieldAddr 26 (.tmp 3) 2, some 25, true, []) := by kernel_rfl
    obtain ⟨e1, eg⟩ := (dep hop).resolve_right (by simp)
    refine op_value ho eg (v := .pointer (some ⟨tb, 2, none⟩)) (w' := W) ?_ ⟨_, rfl, hJ.pure rfl⟩
    have hb := (hA.base (s := 3) (by kernel_rfl)).trans h1
    revert hb
    generalize a.eval = ρ
    intro hb
    simp [execOp, e1, hb, go_sem]
  | 5, _ =>
    have hop : opIs (regionOf Tryz.f6 1) 5 = some (.load 23 (.tmp 25), some 26, true, [4]) := by kernel_rfl
    obtain ⟨e1, eg⟩ := (dep hop).resolve_right (by simp)
    have hp : a.eval (.tmp 25) = .pointer (some ⟨tb, 2, none⟩) := (hA.val (j := 4) (by kernel_rfl) (deps hop 4 (by decide))).trans (hJ.pures 4 _ rfl (deps hop 4 (by decide)))
    refine op_value ho eg (v := vq 0) (w' := W) ?_ ⟨_, rfl, hJ.pure rfl⟩
    revert hp
    generalize a.eval = ρ
    intro hp
    simp [execOp, e1, hp, c2, go_sem]
  | 6, _ =>
    have hop : opIs (regionOf Tryz.f6 1) 6 = some (.call { callee := .value (.func 17), args := #[.tmp 26], argTypes := #[23] }, some 27, true, [5]) := by kernel_rfl
    obtain ⟨e1, eg⟩ := (dep hop).resolve_right (by simp)
    have s16 : L 16 = false := no (j := 16) (k := 6) (show opIs (regionOf Tryz.f6 1) 16 = some (.build 26 #[(0, .tmp 22), (1, .tmp 24), (2, .tmp 27), (3, .tmp 30), (4, .tmp 33), (5, .tmp 36)], some 37, true, [1, 3, 6, 9, 12, 15]) by kernel_rfl) (by decide) hL
    have s18 : L 18 = false := no (j := 18) (k := 6) (show opIs (regionOf Tryz.f6 1) 18 = some (.store 26 (.tmp 7) (.tmp 37), none, true, [17, 16, 15, 0, 1, 2, 3, 4, 5, 6, 7, 8, 9, 10, 11, 12, 13, 14, 15, 16, 17]) by kernel_rfl) (by decide) hL
    have hp : a.eval (.tmp 26) = vq 0 := (hA.val (j := 5) (by kernel_rfl) (deps hop 5 (by decide))).trans (hJ.pures 5 _ rfl (deps hop 5 (by decide)))
    refine op_call ho eg (g := 17) (args := #[vq 0]) (w' := W) ?_ ((C 0 (by omega) W hJ.base).mono ?_)
    · have hb : a.eval (.func 17) = .func (.func 17) #[] #[] := rfl
      have hx : ∀ args w, (callFunc 17 args).run Tryz.prog w = .ok (.enter 17 args) w := enters_of Tryz.func17 (by kernel_rfl) rfl
      revert hb hp
      generalize a.eval = ρ
      intro hb hp
      simp [execOp, e1, hb, hp, hx, go_sem]
    · rintro e W' ⟨u, rfl, hr, hb⟩
      exact ⟨u, rfl, _, rfl, hJ.call (q := 0) (by omega) s16 s18 hb hr⟩
  | 7, _ =>
    have hop : opIs (regionOf Tryz.f6 1) 7 = some (.fieldAddr 26 (.tmp 3) 3, some 28, true, []) := by kernel_rfl
    obtain ⟨e1, eg⟩ := (dep hop).resolve_right (by simp)
    refine op_value ho eg (v := .pointer (some ⟨tb, 3, none⟩)) (w' := W) ?_ ⟨_, rfl, hJ.pure rfl⟩
    have hb := (hA.base (s := 3) (by kernel_rfl)).trans h1
    revert hb
    generalize a.eval = ρ
    intro hb
    simp [execOp, e1, hb, go_sem]
  | 8, _ =>
    have hop : opIs (regionOf Tryz.f6 1) 8 = some (.load 23 (.tmp 28), some 29, true, [7]) := by kernel_rfl
    obtain ⟨e1, eg⟩ := (dep hop).resolve_right (by simp)
    have hp : a.eval (.tmp 28) = .pointer (some ⟨tb, 3, none⟩) := (hA.val (j := 7) (by kernel_rfl) (deps hop 7 (by decide))).trans (hJ.pures 7 _ rfl (deps hop 7 (by decide)))
    refine op_value ho eg (v := vq 1) (w' := W) ?_ ⟨_, rfl, hJ.pure rfl⟩
    revert hp
    generalize a.eval = ρ
    intro hp
    simp [execOp, e1, hp, c3, go_sem]
  | 9, _ =>
    have hop : opIs (regionOf Tryz.f6 1) 9 = some (.call { callee := .value (.func 17), args := #[.tmp 29], argTypes := #[23] }, some 30, true, [8, 6]) := by kernel_rfl
    obtain ⟨e1, eg⟩ := (dep hop).resolve_right (by simp)
    have s16 : L 16 = false := no (j := 16) (k := 9) (show opIs (regionOf Tryz.f6 1) 16 = some (.build 26 #[(0, .tmp 22), (1, .tmp 24), (2, .tmp 27), (3, .tmp 30), (4, .tmp 33), (5, .tmp 36)], some 37, true, [1, 3, 6, 9, 12, 15]) by kernel_rfl) (by decide) hL
    have s18 : L 18 = false := no (j := 18) (k := 9) (show opIs (regionOf Tryz.f6 1) 18 = some (.store 26 (.tmp 7) (.tmp 37), none, true, [17, 16, 15, 0, 1, 2, 3, 4, 5, 6, 7, 8, 9, 10, 11, 12, 13, 14, 15, 16, 17]) by kernel_rfl) (by decide) hL
    have hp : a.eval (.tmp 29) = vq 1 := (hA.val (j := 8) (by kernel_rfl) (deps hop 8 (by decide))).trans (hJ.pures 8 _ rfl (deps hop 8 (by decide)))
    refine op_call ho eg (g := 17) (args := #[vq 1]) (w' := W) ?_ ((C 1 (by omega) W hJ.base).mono ?_)
    · have hb : a.eval (.func 17) = .func (.func 17) #[] #[] := rfl
      have hx : ∀ args w, (callFunc 17 args).run Tryz.prog w = .ok (.enter 17 args) w := enters_of Tryz.func17 (by kernel_rfl) rfl
      revert hb hp
      generalize a.eval = ρ
      intro hb hp
      simp [execOp, e1, hb, hp, hx, go_sem]
    · rintro e W' ⟨u, rfl, hr, hb⟩
      exact ⟨u, rfl, _, rfl, hJ.call (q := 1) (by omega) s16 s18 hb hr⟩
  | 10, _ =>
    have hop : opIs (regionOf Tryz.f6 1) 10 = some (.fieldAddr 26 (.tmp 3) 4, some 31, true, []) := by kernel_rfl
    obtain ⟨e1, eg⟩ := (dep hop).resolve_right (by simp)
    refine op_value ho eg (v := .pointer (some ⟨tb, 4, none⟩)) (w' := W) ?_ ⟨_, rfl, hJ.pure rfl⟩
    have hb := (hA.base (s := 3) (by kernel_rfl)).trans h1
    revert hb
    generalize a.eval = ρ
    intro hb
    simp [execOp, e1, hb, go_sem]
  | 11, _ =>
    have hop : opIs (regionOf Tryz.f6 1) 11 = some (.load 23 (.tmp 31), some 32, true, [10]) := by kernel_rfl
    obtain ⟨e1, eg⟩ := (dep hop).resolve_right (by simp)
    have hp : a.eval (.tmp 31) = .pointer (some ⟨tb, 4, none⟩) := (hA.val (j := 10) (by kernel_rfl) (deps hop 10 (by decide))).trans (hJ.pures 10 _ rfl (deps hop 10 (by decide)))
    refine op_value ho eg (v := vq 2) (w' := W) ?_ ⟨_, rfl, hJ.pure rfl⟩
    revert hp
    generalize a.eval = ρ
    intro hp
    simp [execOp, e1, hp, c4, go_sem]
  | 12, _ =>
    have hop : opIs (regionOf Tryz.f6 1) 12 = some (.call { callee := .value (.func 17), args := #[.tmp 32], argTypes := #[23] }, some 33, true, [11, 9]) := by kernel_rfl
    obtain ⟨e1, eg⟩ := (dep hop).resolve_right (by simp)
    have s16 : L 16 = false := no (j := 16) (k := 12) (show opIs (regionOf Tryz.f6 1) 16 = some (.build 26 #[(0, .tmp 22), (1, .tmp 24), (2, .tmp 27), (3, .tmp 30), (4, .tmp 33), (5, .tmp 36)], some 37, true, [1, 3, 6, 9, 12, 15]) by kernel_rfl) (by decide) hL
    have s18 : L 18 = false := no (j := 18) (k := 12) (show opIs (regionOf Tryz.f6 1) 18 = some (.store 26 (.tmp 7) (.tmp 37), none, true, [17, 16, 15, 0, 1, 2, 3, 4, 5, 6, 7, 8, 9, 10, 11, 12, 13, 14, 15, 16, 17]) by kernel_rfl) (by decide) hL
    have hp : a.eval (.tmp 32) = vq 2 := (hA.val (j := 11) (by kernel_rfl) (deps hop 11 (by decide))).trans (hJ.pures 11 _ rfl (deps hop 11 (by decide)))
    refine op_call ho eg (g := 17) (args := #[vq 2]) (w' := W) ?_ ((C 2 (by omega) W hJ.base).mono ?_)
    · have hb : a.eval (.func 17) = .func (.func 17) #[] #[] := rfl
      have hx : ∀ args w, (callFunc 17 args).run Tryz.prog w = .ok (.enter 17 args) w := enters_of Tryz.func17 (by kernel_rfl) rfl
      revert hb hp
      generalize a.eval = ρ
      intro hb hp
      simp [execOp, e1, hb, hp, hx, go_sem]
    · rintro e W' ⟨u, rfl, hr, hb⟩
      exact ⟨u, rfl, _, rfl, hJ.call (q := 2) (by omega) s16 s18 hb hr⟩
  | 13, _ =>
    have hop : opIs (regionOf Tryz.f6 1) 13 = some (.fieldAddr 26 (.tmp 3) 5, some 34, true, []) := by kernel_rfl
    obtain ⟨e1, eg⟩ := (dep hop).resolve_right (by simp)
    refine op_value ho eg (v := .pointer (some ⟨tb, 5, none⟩)) (w' := W) ?_ ⟨_, rfl, hJ.pure rfl⟩
    have hb := (hA.base (s := 3) (by kernel_rfl)).trans h1
    revert hb
    generalize a.eval = ρ
    intro hb
    simp [execOp, e1, hb, go_sem]
  | 14, _ =>
    have hop : opIs (regionOf Tryz.f6 1) 14 = some (.load 24 (.tmp 34), some 35, true, [13]) := by kernel_rfl
    obtain ⟨e1, eg⟩ := (dep hop).resolve_right (by simp)
    have hp : a.eval (.tmp 34) = .pointer (some ⟨tb, 5, none⟩) := (hA.val (j := 13) (by kernel_rfl) (deps hop 13 (by decide))).trans (hJ.pures 13 _ rfl (deps hop 13 (by decide)))
    refine op_value ho eg (v := vq 3) (w' := W) ?_ ⟨_, rfl, hJ.pure rfl⟩
    revert hp
    generalize a.eval = ρ
    intro hp
    simp [execOp, e1, hp, c5, go_sem]
  | 15, _ =>
    have hop : opIs (regionOf Tryz.f6 1) 15 = some (.call { callee := .value (.func 18), args := #[.tmp 35], argTypes := #[24] }, some 36, true, [14, 12]) := by kernel_rfl
    obtain ⟨e1, eg⟩ := (dep hop).resolve_right (by simp)
    have s16 : L 16 = false := no (j := 16) (k := 15) (show opIs (regionOf Tryz.f6 1) 16 = some (.build 26 #[(0, .tmp 22), (1, .tmp 24), (2, .tmp 27), (3, .tmp 30), (4, .tmp 33), (5, .tmp 36)], some 37, true, [1, 3, 6, 9, 12, 15]) by kernel_rfl) (by decide) hL
    have s18 : L 18 = false := no (j := 18) (k := 15) (show opIs (regionOf Tryz.f6 1) 18 = some (.store 26 (.tmp 7) (.tmp 37), none, true, [17, 16, 15, 0, 1, 2, 3, 4, 5, 6, 7, 8, 9, 10, 11, 12, 13, 14, 15, 16, 17]) by kernel_rfl) (by decide) hL
    have hp : a.eval (.tmp 35) = vq 3 := (hA.val (j := 14) (by kernel_rfl) (deps hop 14 (by decide))).trans (hJ.pures 14 _ rfl (deps hop 14 (by decide)))
    refine op_call ho eg (g := 18) (args := #[vq 3]) (w' := W) ?_ ((C 3 (by omega) W hJ.base).mono ?_)
    · have hb : a.eval (.func 18) = .func (.func 18) #[] #[] := rfl
      have hx : ∀ args w, (callFunc 18 args).run Tryz.prog w = .ok (.enter 18 args) w := enters_of Tryz.func18 (by kernel_rfl) rfl
      revert hb hp
      generalize a.eval = ρ
      intro hb hp
      simp [execOp, e1, hb, hp, hx, go_sem]
    · rintro e W' ⟨u, rfl, hr, hb⟩
      exact ⟨u, rfl, _, rfl, hJ.call (q := 3) (by omega) s16 s18 hb hr⟩
  | 16, _ =>
    have hop : opIs (regionOf Tryz.f6 1) 16 = some (.build 26 #[(0, .tmp 22), (1, .tmp 24), (2, .tmp 27), (3, .tmp 30), (4, .tmp 33), (5, .tmp 36)], some 37, true, [1, 3, 6, 9, 12, 15]) := by kernel_rfl
    obtain ⟨e1, eg⟩ := (dep hop).resolve_right (by simp)
    have q0 : a.eval (.tmp 22) = str t.names := (hA.val (j := 1) (by kernel_rfl) (deps hop 1 (by decide))).trans (hJ.pures 1 _ rfl (deps hop 1 (by decide)))
    have q1 : a.eval (.tmp 24) = .bool t.wide := (hA.val (j := 3) (by kernel_rfl) (deps hop 3 (by decide))).trans (hJ.pures 3 _ rfl (deps hop 3 (by decide)))
    have q2 : a.eval (.tmp 27) = f 6 := hA.val (j := 6) (by kernel_rfl) (deps hop 6 (by decide))
    obtain ⟨A0, m0, n0, e0'⟩ := (hJ.rows 0 (by omega) (deps hop 6 (by decide))).form
    have e2 : f 6 = .slice A0 m0 n0 := e0'
    have q3 : a.eval (.tmp 30) = f 9 := hA.val (j := 9) (by kernel_rfl) (deps hop 9 (by decide))
    obtain ⟨A1, m1, n1, e1'⟩ := (hJ.rows 1 (by omega) (deps hop 9 (by decide))).form
    have e3 : f 9 = .slice A1 m1 n1 := e1'
    have q4 : a.eval (.tmp 33) = f 12 := hA.val (j := 12) (by kernel_rfl) (deps hop 12 (by decide))
    obtain ⟨A2, m2, n2, e2'⟩ := (hJ.rows 2 (by omega) (deps hop 12 (by decide))).form
    have e4 : f 12 = .slice A2 m2 n2 := e2'
    have q5 : a.eval (.tmp 36) = f 15 := hA.val (j := 15) (by kernel_rfl) (deps hop 15 (by decide))
    obtain ⟨A3, m3, n3, e3'⟩ := (hJ.rows 3 (by omega) (deps hop 15 (by decide))).form
    have e5 : f 15 = .slice A3 m3 n3 := e3'
    refine op_value ho eg (v := .agg #[str t.names, .bool t.wide, f 6, f 9, f 12, f 15]) (w' := W) ?_ ⟨_, rfl, hJ.build⟩
    rw [e2] at q2 ⊢
    rw [e3] at q3 ⊢
    rw [e4] at q4 ⊢
    rw [e5] at q5 ⊢
    revert q0 q1 q2 q3 q4 q5
    generalize a.eval = ρ
    intro q0 q1 q2 q3 q4 q5
    simp [execOp, e1, q0, q1, q2, q3, q4, q5, go_sem]
  | 17, _ =>
    have hop : opIs (regionOf Tryz.f6 1) 17 = some (.alloc 26, some 7, true, []) := by kernel_rfl
    obtain ⟨e1, eg⟩ := (dep hop).resolve_right (by simp)
    have s18 : L 18 = false := no (j := 18) (k := 17) (show opIs (regionOf Tryz.f6 1) 18 = some (.store 26 (.tmp 7) (.tmp 37), none, true, [17, 16, 15, 0, 1, 2, 3, 4, 5, 6, 7, 8, 9, 10, 11, 12, 13, 14, 15, 16, 17]) by kernel_rfl) (by decide) hL
    refine op_value ho eg (v := .pointer (some ⟨W.heap.size, 0, none⟩)) (w' := W.alloc termZero) ?_ ⟨_, rfl, hJ.alloc s18⟩
    generalize a.eval = ρ
    simp [execOp, e1, go_sem]
  | 18, _ =>
    have hop : opIs (regionOf Tryz.f6 1) 18 = some (.store 26 (.tmp 7) (.tmp 37), none, true, [17, 16, 15, 0, 1, 2, 3, 4, 5, 6, 7, 8, 9, 10, 11, 12, 13, 14, 15, 16, 17]) := by kernel_rfl
    obtain ⟨e1, eg⟩ := (dep hop).resolve_right (by simp)
    have h17 := deps hop 17 (by decide)
    have h16 := deps hop 16 (by decide)
    obtain ⟨b, hb17, hge, hzero⟩ := hJ.made h17
    rw [hL] at hzero
    have hp : a.eval (.tmp 7) = .pointer (some ⟨b, 0, none⟩) := (hA.val (j := 17) (by kernel_rfl) h17).trans hb17
    have hu : a.eval (.tmp 37) = .agg #[str t.names, .bool t.wide, f 6, f 9, f 12, f 15] := (hA.val (j := 16) (by kernel_rfl) h16).trans (hJ.built h16)
    obtain ⟨A0, m0, n0, e0'⟩ := (hJ.rows 0 (by omega) (deps hop 6 (by decide))).form
    have e2 : f 6 = .slice A0 m0 n0 := e0'
    obtain ⟨A1, m1, n1, e1'⟩ := (hJ.rows 1 (by omega) (deps hop 9 (by decide))).form
    have e3 : f 9 = .slice A1 m1 n1 := e1'
    obtain ⟨A2, m2, n2, e2'⟩ := (hJ.rows 2 (by omega) (deps hop 12 (by decide))).form
    have e4 : f 12 = .slice A2 m2 n2 := e2'
    obtain ⟨A3, m3, n3, e3'⟩ := (hJ.rows 3 (by omega) (deps hop 15 (by decide))).form
    have e5 : f 15 = .slice A3 m3 n3 := e3'
    obtain ⟨d0, d1, d2, d3, d4, d5, f0, f1, f2, f3, f4, f5⟩ := termZero_facts hzero
    have hst := hJ.store hL h17 hb17 undef (fun i => if i = 0 then f 6 else if i = 1 then f 9 else f 12) rfl rfl rfl
    refine op_skip ho eg (w' := storeTerm W b t (fun i => if i = 0 then f 6 else if i = 1 then f 9 else f 12) (f 15)) ?_ ⟨_, rfl, hst⟩
    rw [e2, e3, e4, e5] at hu
    show (execOp a.eval o).run Tryz.prog W = .ok .skip (((((( W.setCell ⟨b, 0, none⟩ (str t.names)).setCell ⟨b, 1, none⟩ (.bool t.wide)).setCell ⟨b, 2, none⟩ (f 6)).setCell ⟨b, 3, none⟩ (f 9)).setCell ⟨b, 4, none⟩ (f 12)).setCell ⟨b, 5, none⟩ (f 15))
    rw [e2, e3, e4, e5]
    clear hst hJ hA hd hcl dep deps closed no
    revert hp hu
    generalize a.eval = ρ
    intro hp hu
    simp [execOp, e1, hp, hu, d0, d1, d2, d3, d4, d5, f0, f1, f2, f3, f4, f5, go_sem]

end Go.Proofs.YtcfgppjhgobboaaGreatDoor
