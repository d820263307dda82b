/-
  What clone of package tinfo returns: an entry whose lists are its own.
-/
import Derived.Test.YtcfgppjhgobboaaGreatDoorTmGet
import Derived.Test.YtcfgppjhgobboaaGreatDoorTmBase
namespace Go.Proofs.YtcfgppjhgobboaaGreatDoor
open Go.RowKit Go.Shelf Go.Lib
attribute [local go_sem] Oper.semAt_some

/-- an entry as a value whose lists are rows of their own, from B on -/
structure TermRows (W : World) (B : Nat) (v : Nat → Value) (ve : Value) (t : TermD) : Prop where
  rows : ∀ i : Nat, i < 3 → CapRow W (v i) (listOf t i)
  exts : ExtRow W ve t.exts
  own : ∀ i : Nat, i < 3 → ∀ b, (v i).ownBlock = some b → B ≤ b
  owne : ∀ b, ve.ownBlock = some b → B ≤ b
  apart : ∀ i j : Nat, i < 3 → j < 3 → i ≠ j → ∀ b, (v i).ownBlock = some b → (v j).ownBlock ≠ some b
  aparte : ∀ i : Nat, i < 3 → ∀ b, (v i).ownBlock = some b → ve.ownBlock ≠ some b
def RowQ (W : World) (t : TermD) (q : Nat) (u : Value) : Prop := if q = 3 then ExtRow W u t.exts else CapRow W u (listOf t q)
theorem RowQ.same {W W' : World} {t : TermD} {q : Nat} {u : Value} (h : RowQ W t q u) (hb : ∀ k, u.ownBlock = some k → k < W.heap.size → W'.heap[k]? = W.heap[k]?) : RowQ W' t q u := by
  unfold RowQ at h ⊢
  split at h
  · rw [if_pos (by assumption)]
    exact own_same h fun k hk => hb k hk (own_lt h k hk).2
  · rw [if_neg (by assumption)]
    exact own_same h fun k hk => hb k hk (own_lt h k hk).2
theorem RowQ.lt {W : World} {t : TermD} {q : Nat} {u : Value} (h : RowQ W t q u) : ∀ k, u.ownBlock = some k → k < W.heap.size := by
  unfold RowQ at h
  split at h
  · exact fun k hk => (own_lt h k hk).2
  · exact fun k hk => (own_lt h k hk).2
theorem RowQ.form {W : World} {t : TermD} {q : Nat} {u : Value} (h : RowQ W t q u) : ∃ A n cap, u = .slice A n cap := by
  unfold RowQ at h
  split at h
  · obtain ⟨A, cap, e⟩ := ExtRow.form h; exact ⟨A, _, cap, e⟩
  · obtain ⟨A, cap, e⟩ := CapRow.form h; exact ⟨A, _, cap, e⟩

/-- what the operations give that neither call nor store -/
def pureV (b : Nat) (vq : Nat → Value) : Nat → Option Value
  | 0 => some (.pointer (some ⟨b, 2, none⟩))
  | 3 => some (.pointer (some ⟨b, 3, none⟩))
  | 6 => some (.pointer (some ⟨b, 4, none⟩))
  | 9 => some (.pointer (some ⟨b, 5, none⟩))
  | 12 => some (.pointer (some ⟨b, 2, none⟩))
  | 14 => some (.pointer (some ⟨b, 3, none⟩))
  | 16 => some (.pointer (some ⟨b, 4, none⟩))
  | 18 => some (.pointer (some ⟨b, 5, none⟩))
  | 1 => some (vq 0)
  | 4 => some (vq 1)
  | 7 => some (vq 2)
  | 10 => some (vq 3)
  | _ => none
theorem pure_ne {b : Nat} {vq : Nat → Value} {i : Nat} {x : Value} (h : pureV b vq i = some x) {q : Nat} (hq : q < 4) : 2 * q + 13 ≠ i ∧ 3 * q + 2 ≠ i := by
  refine ⟨fun e => ?_, fun e => ?_⟩ <;> subst e
  all_goals
    match q, hq with
    | 0, _ | 1, _ | 2, _ | 3, _ => cases h

structure CloneJ (w : World) (t : TermD) (vq : Nat → Value) (L : Nat → Bool) (f : Nat → Value) (W : World) : Prop where
  base : Below w.heap.size w W
  res : W.heap[w.heap.size + 1]? = some termZero
  box : ∃ xs : Nat → Value, W.heap[w.heap.size]? = some (.cells #[str t.names, .bool t.wide, xs 0, xs 1, xs 2, xs 3] 26 (0, 0)) ∧ ∀ q, q < 4 → xs q = if L (2 * q + 13) then f (3 * q + 2) else vq q
  pures : ∀ j x, pureV w.heap.size vq j = some x → L j = true → f j = x
  rows : ∀ q, q < 4 → L (3 * q + 2) = true → RowQ W t q (f (3 * q + 2)) ∧ ∀ k, (f (3 * q + 2)).ownBlock = some k → w.heap.size + 2 ≤ k
  apart : ∀ p q, p < q → q < 4 → L (3 * p + 2) = true → L (3 * q + 2) = true → ∀ k, (f (3 * p + 2)).ownBlock = some k → (f (3 * q + 2)).ownBlock ≠ some k
section
variable {w W W' : World} {t : TermD} {vq : Nat → Value} {L : Nat → Bool} {f : Nat → Value}
theorem CloneJ.pure (h : CloneJ w t vq L f W) {i : Nat} {x : Value} (hp : pureV w.heap.size vq i = some x) : CloneJ w t vq (upd L i true) (upd f i x) W := by
  refine ⟨h.base, h.res, ?_, fun j y hy hL => ?_, fun q hq hL => ?_, fun p q hpq hq hL hL2 => ?_⟩
  · obtain ⟨xs, h1, h2⟩ := h.box
    refine ⟨xs, h1, fun q hq => ?_⟩
    rw [upd_ne _ _ (pure_ne hp hq).1, upd_ne _ _ (pure_ne hp hq).2]
    exact h2 q hq
  · by_cases hj : j = i
    · subst hj
      rw [hp] at hy
      injection hy with hy
      rw [upd_same, hy]
    · rw [upd_ne _ _ hj] at hL ⊢
      exact h.pures j y hy hL
  · rw [upd_ne _ _ (pure_ne hp hq).2] at hL ⊢
    exact h.rows q hq hL
  · rw [upd_ne _ _ (pure_ne hp (by omega)).2] at hL ⊢
    rw [upd_ne _ _ (pure_ne hp hq).2] at hL2 ⊢
    exact h.apart p q hpq hq hL hL2
theorem CloneJ.lts (h : CloneJ w t vq L f W) : w.heap.size + 1 < W.heap.size := (Array.getElem?_eq_some_iff.1 h.res).1
theorem CloneJ.call (h : CloneJ w t vq L f W) {q : Nat} (hq : q < 4) (hno : L (2 * q + 13) = false) {u : Value} (hb : Below W.heap.size W W') (hr : RowQ W' t q u) (ho : ∀ k, u.ownBlock = some k → W.heap.size ≤ k) :
    CloneJ w t vq (upd L (3 * q + 2) true) (upd f (3 * q + 2) u) W' := by
  have hlt := h.lts
  refine ⟨h.base.trans (hb.mono h.base.size), (hb.block _ hlt).trans h.res, ?_, fun j y hy hL => ?_, fun p hp hL => ?_, fun p p' hpp hp' hL hL2 k hk hk2 => ?_⟩
  · obtain ⟨xs, h1, h2⟩ := h.box
    refine ⟨xs, (hb.block _ (by omega)).trans h1, fun p hp => ?_⟩
    rw [upd_ne _ _ (by omega : 2 * p + 13 ≠ 3 * q + 2), h2 p hp]
    by_cases hpq : p = q
    · subst hpq
      rw [hno]
      simp
    · rw [upd_ne _ _ (by omega : 3 * p + 2 ≠ 3 * q + 2)]
  · have hne : j ≠ 3 * q + 2 := fun e => (pure_ne hy hq).2 e.symm
    rw [upd_ne _ _ hne] at hL ⊢
    exact h.pures j y hy hL
  · by_cases hpq : p = q
    · subst hpq
      rw [upd_same]
      exact ⟨hr, fun k hk => by have := ho k hk; omega⟩
    · rw [upd_ne _ _ (by omega : 3 * p + 2 ≠ 3 * q + 2)] at hL ⊢
      obtain ⟨h1, h2⟩ := h.rows p hp hL
      exact ⟨h1.same fun k _ hk => hb.block k hk, h2⟩
  · by_cases hpq : p = q
    · subst hpq
      rw [upd_ne _ _ (by omega : 3 * p' + 2 ≠ 3 * p + 2)] at hL2 hk2
      rw [upd_same] at hk
      have h1 := (h.rows p' hp' hL2).1.lt k hk2
      have h2 := ho k hk
      omega
    · rw [upd_ne _ _ (by omega : 3 * p + 2 ≠ 3 * q + 2)] at hL hk
      by_cases hpq' : p' = q
      · subst hpq'
        rw [upd_same] at hk2
        have h1 := (h.rows p (by omega) hL).1.lt k hk
        have h2 := ho k hk2
        omega
      · rw [upd_ne _ _ (by omega : 3 * p' + 2 ≠ 3 * q + 2)] at hL2 hk2
        exact h.apart p p' hpp hp' hL hL2 k hk hk2
theorem CloneJ.store (h : CloneJ w t vq L f W) {q : Nat} (hq : q < 4) (hL : L (3 * q + 2) = true) (x : Value) : CloneJ w t vq (upd L (2 * q + 13) true) (upd f (2 * q + 13) x) (W.setCell ⟨w.heap.size, 2 + q, none⟩ (f (3 * q + 2))) := by
  have hlt := h.lts
  have htouch : Touch (fun k => k = w.heap.size) W (W.setCell ⟨w.heap.size, 2 + q, none⟩ (f (3 * q + 2))) := Touch.setCell W ⟨w.heap.size, 2 + q, none⟩ _ rfl
  refine ⟨(Touch.trans (Touch.of_below (T := fun k => k = w.heap.size) h.base) htouch).below (Nat.le_refl _) fun k hk => by omega, (htouch.block _ hlt (by omega)).trans h.res, ?_, fun j y hy hj => ?_, fun p hp hLp => ?_, fun p p' hpp hp' hLp hLp' => ?_⟩
  · obtain ⟨xs, h1, h2⟩ := h.box
    refine ⟨upd xs q (f (3 * q + 2)), ?_, fun p hp => ?_⟩
    · rw [heap_setCell_same W w.heap.size (2 + q) _ _ (f (3 * q + 2)) h1]
      match q, hq with
      | 0, _ | 1, _ | 2, _ | 3, _ => rfl
    · by_cases hpq : p = q
      · subst hpq
        rw [upd_same, upd_same, upd_ne _ _ (by omega : 3 * p + 2 ≠ 2 * p + 13)]
        simp
      · rw [upd_ne _ _ hpq, upd_ne _ _ (by omega : 2 * p + 13 ≠ 2 * q + 13), upd_ne _ _ (by omega : 3 * p + 2 ≠ 2 * q + 13)]
        exact h2 p hp
  · have hne : j ≠ 2 * q + 13 := fun e => (pure_ne hy hq).1 e.symm
    rw [upd_ne _ _ hne] at hj ⊢
    exact h.pures j y hy hj
  · rw [upd_ne _ _ (by omega : 3 * p + 2 ≠ 2 * q + 13)] at hLp ⊢
    obtain ⟨h1, h2⟩ := h.rows p hp hLp
    exact ⟨h1.same fun k hk hk' => htouch.block k hk' (by have := h2 k hk; omega), h2⟩
  · rw [upd_ne _ _ (by omega : 3 * p + 2 ≠ 2 * q + 13)] at hLp ⊢
    rw [upd_ne _ _ (by omega : 3 * p' + 2 ≠ 2 * q + 13)] at hLp' ⊢
    exact h.apart p p' hpp hp' hLp hLp'
theorem CloneJ.cell (h : CloneJ w t vq L f W) {q : Nat} (hq : q < 4) (hno : L (2 * q + 13) = false) : W.cell? ⟨w.heap.size, 2 + q, none⟩ = some (vq q) := by
  obtain ⟨xs, h1, h2⟩ := h.box
  rw [cell_of_row W _ (2 + q) _ _ _ h1]
  have := h2 q hq
  rw [hno] at this
  simp only [Bool.false_eq_true, if_false] at this
  rw [← this]
  match q, hq with
  | 0, _ | 1, _ | 2, _ | 3, _ => rfl
theorem CloneJ.has (h : CloneJ w t vq L f W) {q : Nat} (hq : q < 4) : ∃ x, W.cell? ⟨w.heap.size, 2 + q, none⟩ = some x := by
  obtain ⟨xs, h1, _⟩ := h.box
  refine ⟨xs q, ?_⟩
  rw [cell_of_row W _ (2 + q) _ _ _ h1]
  match q, hq with
  | 0, _ | 1, _ | 2, _ | 3, _ => rfl
theorem CloneJ.frozen (h : CloneJ w t vq L f W) (j : Nat) : W.frozen? ⟨w.heap.size, j, none⟩ = false := by
  obtain ⟨xs, h1, _⟩ := h.box
  exact frozen_of_row W _ j _ _ h1
end

theorem clone_ok : ownOk (regionOf Tryz.f51 1) 20 = true := by kernel_rfl
theorem clone_deps : depsOk (regionOf Tryz.f51 1) = true := by kernel_rfl
theorem clone_size : (regionOf Tryz.f51 1).size = 20 := by kernel_rfl
set_option maxRecDepth 100000 in
theorem clone_step (w : World) (t : TermD) (vq : Nat → Value) (a0 : Act) (Q : Exit → Act → World → Prop) (h1 : a0.eval (.tmp 1) = .pointer (some ⟨w.heap.size, 0, none⟩))
    (C : ∀ q, q < 4 → ∀ W, Below w.heap.size w W → Calls Tryz.prog (if q = 3 then 18 else 17) #[vq q] W fun e W' => ∃ u, e = .returned u ∧ RowQ W' t q u ∧ Below W.heap.size W W' ∧ ∀ k, u.ownBlock = some k → W.heap.size ≤ k) :
    ∀ i o, (regionOf Tryz.f51 1)[i]? = some o → ∀ L f W a, CloneJ w t vq L f W → ActAt (regionOf Tryz.f51 1) a0 a L f → L i = false → (∀ e ∈ o.after, Region.binds .any e = true → L e.on = true) →
      (∀ j o', (regionOf Tryz.f51 1)[j]? = some o' → L j = true → ∀ e ∈ o'.after, Region.binds .any e = true → L e.on = true) →
      wpOp Tryz.prog (regionOf Tryz.f51 1) Q i (fun a' W' => ∃ v, a' = a.put o.dst v ∧ CloneJ w t vq (upd L i true) (upd f i v) W') a W := by
  intro i o ho L f W a hJ hA hL hd hcl
  have hi : i < 20 := by rw [← clone_size]; exact (Array.getElem?_eq_some_iff.1 ho).1
  have dep : ∀ {op d g l}, opIs (regionOf Tryz.f51 1) i = some (op, d, g, l) → o.op = op ∧ o.guard = none ∨ g = false := fun h => by
    obtain ⟨e1, _, e3, _⟩ := op_is ho h
    rw [← e3]
    cases hg : o.guard with
    | none => exact .inl ⟨e1, rfl⟩
    | some _ => exact .inr rfl
  have deps : ∀ {op d g l}, opIs (regionOf Tryz.f51 1) i = some (op, d, g, l) → ∀ j ∈ l, L j = true := fun h j hj => by
    obtain ⟨e, he, hb, rfl⟩ := (op_is ho h).2.2.2 j hj
    exact hd e he hb
  have closed : ∀ {j op d g l}, opIs (regionOf Tryz.f51 1) j = some (op, d, g, l) → L j = true → ∀ k ∈ l, L k = true := fun {j _ _ _ _} h hLj k hk => by
    have hj : ∃ o', (regionOf Tryz.f51 1)[j]? = some o' := by
      unfold opIs at h
      cases hx : (regionOf Tryz.f51 1)[j]? with
      | none => rw [hx] at h; cases h
      | some o' => exact ⟨o', rfl⟩
    obtain ⟨o', ho'⟩ := hj
    obtain ⟨e, he, hb, rfl⟩ := (op_is ho' h).2.2.2 k hk
    exact hcl j o' ho' hLj e he hb
  have no : ∀ {j k op d g l}, opIs (regionOf Tryz.f51 1) j = some (op, d, g, l) → k ∈ l → L k = false → L j = false := fun {j k _ _ _ _} h hk hLk => by
    cases hLj : L j with
    | false => rfl
    | true => have := closed h hLj k hk; rw [hLk] at this; cases this
  match i, hi with
  | 0, _ =>
    have hop : opIs (regionOf Tryz.f51 1) 0 = some (.fieldAddr 26 (.tmp 1) 2, some 3, true, []) := by kernel_rfl
    obtain ⟨e1, eg⟩ := (dep hop).resolve_right (by simp)
    refine op_value ho eg (v := .pointer (some ⟨w.heap.size, 2, none⟩)) (w' := W) ?_ ⟨_, rfl, hJ.pure rfl⟩
    have hb := (hA.base (s := 1) (by kernel_rfl)).trans h1
    revert hb
    generalize a.eval = ρ
    intro hb
    simp [execOp, e1, hb, go_sem]
  | 1, _ =>
    have hop : opIs (regionOf Tryz.f51 1) 1 = some (.load 23 (.tmp 3), some 4, true, [0]) := by kernel_rfl
    obtain ⟨e1, eg⟩ := (dep hop).resolve_right (by simp)
    have hst : L 13 = false := no (j := 13) (k := 1) (show opIs (regionOf Tryz.f51 1) 13 = some (.store 23 (.tmp 15) (.tmp 5), none, true, [12, 2, 11, 0, 1, 2, 3, 4, 6, 7, 9, 10]) by kernel_rfl) (by decide) hL
    have hp : a.eval (.tmp 3) = .pointer (some ⟨w.heap.size, 2, none⟩) := (hA.val (j := 0) (by kernel_rfl) (deps hop 0 (by decide))).trans (hJ.pures 0 _ rfl (deps hop 0 (by decide)))
    have hc := hJ.cell (q := 0) (by omega) hst
    refine op_value ho eg (v := vq 0) (w' := W) ?_ ⟨_, rfl, hJ.pure rfl⟩
    revert hp
    generalize a.eval = ρ
    intro hp
    simp [execOp, e1, hp, hc, go_sem]
  | 2, _ =>
    have hop : opIs (regionOf Tryz.f51 1) 2 = some (.call { callee := .value (.func 17), args := #[.tmp 4], argTypes := #[23] }, some 5, true, [1]) := by kernel_rfl
    obtain ⟨e1, eg⟩ := (dep hop).resolve_right (by simp)
    have hst : L 13 = false := no (j := 13) (k := 2) (show opIs (regionOf Tryz.f51 1) 13 = some (.store 23 (.tmp 15) (.tmp 5), none, true, [12, 2, 11, 0, 1, 2, 3, 4, 6, 7, 9, 10]) by kernel_rfl) (by decide) hL
    have hp : a.eval (.tmp 4) = vq 0 := (hA.val (j := 1) (by kernel_rfl) (deps hop 1 (by decide))).trans (hJ.pures 1 _ rfl (deps hop 1 (by decide)))
    refine op_call ho eg (g := 17) (args := #[vq 0]) (w' := W) ?_ ((C 0 (by omega) W hJ.base).mono ?_)
    · have hb : a.eval (.func 17) = .func (.func 17) #[] #[] := rfl
      have hx : ∀ args w, (callFunc 17 args).run Tryz.prog w = .ok (.enter 17 args) w := enters_of Tryz.func17 (by kernel_rfl) rfl
      revert hb hp
      generalize a.eval = ρ
      intro hb hp
      simp [execOp, e1, hb, hp, hx, go_sem]
    · rintro e W' ⟨u, rfl, hr, hb, hk⟩
      exact ⟨u, rfl, _, rfl, hJ.call (q := 0) (by omega) hst hb hr hk⟩
  | 3, _ =>
    have hop : opIs (regionOf Tryz.f51 1) 3 = some (.fieldAddr 26 (.tmp 1) 3, some 6, true, []) := by kernel_rfl
    obtain ⟨e1, eg⟩ := (dep hop).resolve_right (by simp)
    refine op_value ho eg (v := .pointer (some ⟨w.heap.size, 3, none⟩)) (w' := W) ?_ ⟨_, rfl, hJ.pure rfl⟩
    have hb := (hA.base (s := 1) (by kernel_rfl)).trans h1
    revert hb
    generalize a.eval = ρ
    intro hb
    simp [execOp, e1, hb, go_sem]
  | 4, _ =>
    have hop : opIs (regionOf Tryz.f51 1) 4 = some (.load 23 (.tmp 6), some 7, true, [3]) := by kernel_rfl
    obtain ⟨e1, eg⟩ := (dep hop).resolve_right (by simp)
    have hst : L 15 = false := no (j := 15) (k := 4) (show opIs (regionOf Tryz.f51 1) 15 = some (.store 23 (.tmp 16) (.tmp 8), none, true, [14, 5, 13, 0, 1, 2, 3, 4, 5, 6, 7, 9, 10, 12, 13]) by kernel_rfl) (by decide) hL
    have hp : a.eval (.tmp 6) = .pointer (some ⟨w.heap.size, 3, none⟩) := (hA.val (j := 3) (by kernel_rfl) (deps hop 3 (by decide))).trans (hJ.pures 3 _ rfl (deps hop 3 (by decide)))
    have hc := hJ.cell (q := 1) (by omega) hst
    refine op_value ho eg (v := vq 1) (w' := W) ?_ ⟨_, rfl, hJ.pure rfl⟩
    revert hp
    generalize a.eval = ρ
    intro hp
    simp [execOp, e1, hp, hc, go_sem]
  | 5, _ =>
    have hop : opIs (regionOf Tryz.f51 1) 5 = some (.call { callee := .value (.func 17), args := #[.tmp 7], argTypes := #[23] }, some 8, true, [4, 2]) := by kernel_rfl
    obtain ⟨e1, eg⟩ := (dep hop).resolve_right (by simp)
    have hst : L 15 = false := no (j := 15) (k := 5) (show opIs (regionOf Tryz.f51 1) 15 = some (.store 23 (.tmp 16) (.tmp 8), none, true, [14, 5, 13, 0, 1, 2, 3, 4, 5, 6, 7, 9, 10, 12, 13]) by kernel_rfl) (by decide) hL
    have hp : a.eval (.tmp 7) = vq 1 := (hA.val (j := 4) (by kernel_rfl) (deps hop 4 (by decide))).trans (hJ.pures 4 _ rfl (deps hop 4 (by decide)))
    refine op_call ho eg (g := 17) (args := #[vq 1]) (w' := W) ?_ ((C 1 (by omega) W hJ.base).mono ?_)
    · have hb : a.eval (.func 17) = .func (.func 17) #[] #[] := rfl
      have hx : ∀ args w, (callFunc 17 args).run Tryz.prog w = .ok (.enter 17 args) w := enters_of Tryz.func17 (by kernel_rfl) rfl
      revert hb hp
      generalize a.eval = ρ
      intro hb hp
      simp [execOp, e1, hb, hp, hx, go_sem]
    · rintro e W' ⟨u, rfl, hr, hb, hk⟩
      exact ⟨u, rfl, _, rfl, hJ.call (q := 1) (by omega) hst hb hr hk⟩
  | 6, _ =>
    have hop : opIs (regionOf Tryz.f51 1) 6 = some (.fieldAddr 26 (.tmp 1) 4, some 9, true, []) := by kernel_rfl
    obtain ⟨e1, eg⟩ := (dep hop).resolve_right (by simp)
    refine op_value ho eg (v := .pointer (some ⟨w.heap.size, 4, none⟩)) (w' := W) ?_ ⟨_, rfl, hJ.pure rfl⟩
    have hb := (hA.base (s := 1) (by kernel_rfl)).trans h1
    revert hb
    generalize a.eval = ρ
    intro hb
    simp [execOp, e1, hb, go_sem]
  | 7, _ =>
    have hop : opIs (regionOf Tryz.f51 1) 7 = some (.load 23 (.tmp 9), some 10, true, [6]) := by kernel_rfl
    obtain ⟨e1, eg⟩ := (dep hop).resolve_right (by simp)
    have hst : L 17 = false := no (j := 17) (k := 7) (show opIs (regionOf Tryz.f51 1) 17 = some (.store 23 (.tmp 17) (.tmp 11), none, true, [16, 8, 15, 0, 1, 2, 3, 4, 5, 6, 7, 8, 9, 10, 12, 13, 14, 15]) by kernel_rfl) (by decide) hL
    have hp : a.eval (.tmp 9) = .pointer (some ⟨w.heap.size, 4, none⟩) := (hA.val (j := 6) (by kernel_rfl) (deps hop 6 (by decide))).trans (hJ.pures 6 _ rfl (deps hop 6 (by decide)))
    have hc := hJ.cell (q := 2) (by omega) hst
    refine op_value ho eg (v := vq 2) (w' := W) ?_ ⟨_, rfl, hJ.pure rfl⟩
    revert hp
    generalize a.eval = ρ
    intro hp
    simp [execOp, e1, hp, hc, go_sem]
  | 8, _ =>
    have hop : opIs (regionOf Tryz.f51 1) 8 = some (.call { callee := .value (.func 17), args := #[.tmp 10], argTypes := #[23] }, some 11, true, [7, 5]) := by kernel_rfl
    obtain ⟨e1, eg⟩ := (dep hop).resolve_right (by simp)
    have hst : L 17 = false := no (j := 17) (k := 8) (show opIs (regionOf Tryz.f51 1) 17 = some (.store 23 (.tmp 17) (.tmp 11), none, true, [16, 8, 15, 0, 1, 2, 3, 4, 5, 6, 7, 8, 9, 10, 12, 13, 14, 15]) by kernel_rfl) (by decide) hL
    have hp : a.eval (.tmp 10) = vq 2 := (hA.val (j := 7) (by kernel_rfl) (deps hop 7 (by decide))).trans (hJ.pures 7 _ rfl (deps hop 7 (by decide)))
    refine op_call ho eg (g := 17) (args := #[vq 2]) (w' := W) ?_ ((C 2 (by omega) W hJ.base).mono ?_)
    · have hb : a.eval (.func 17) = .func (.func 17) #[] #[] := rfl
      have hx : ∀ args w, (callFunc 17 args).run Tryz.prog w = .ok (.enter 17 args) w := enters_of Tryz.func17 (by kernel_rfl) rfl
      revert hb hp
      generalize a.eval = ρ
      intro hb hp
      simp [execOp, e1, hb, hp, hx, go_sem]
    · rintro e W' ⟨u, rfl, hr, hb, hk⟩
      exact ⟨u, rfl, _, rfl, hJ.call (q := 2) (by omega) hst hb hr hk⟩
  | 9, _ =>
    have hop : opIs (regionOf Tryz.f51 1) 9 = some (.fieldAddr 26 (.tmp 1) 5, some 12, true, []) := by kernel_rfl
    obtain ⟨e1, eg⟩ := (dep hop).resolve_right (by simp)
    refine op_value ho eg (v := .pointer (some ⟨w.heap.size, 5, none⟩)) (w' := W) ?_ ⟨_, rfl, hJ.pure rfl⟩
    have hb := (hA.base (s := 1) (by kernel_rfl)).trans h1
    revert hb
    generalize a.eval = ρ
    intro hb
    simp [execOp, e1, hb, go_sem]
  | 10, _ =>
    have hop : opIs (regionOf Tryz.f51 1) 10 = some (.load 24 (.tmp 12), some 13, true, [9]) := by kernel_rfl
    obtain ⟨e1, eg⟩ := (dep hop).resolve_right (by simp)
    have hst : L 19 = false := no (j := 19) (k := 10) (show opIs (regionOf Tryz.f51 1) 19 = some (.store 24 (.tmp 18) (.tmp 14), none, true, [18, 11, 17, 0, 1, 2, 3, 4, 5, 6, 7, 8, 9, 10, 11, 12, 13, 14, 15, 16, 17]) by kernel_rfl) (by decide) hL
    have hp : a.eval (.tmp 12) = .pointer (some ⟨w.heap.size, 5, none⟩) := (hA.val (j := 9) (by kernel_rfl) (deps hop 9 (by decide))).trans (hJ.pures 9 _ rfl (deps hop 9 (by decide)))
    have hc := hJ.cell (q := 3) (by omega) hst
    refine op_value ho eg (v := vq 3) (w' := W) ?_ ⟨_, rfl, hJ.pure rfl⟩
    revert hp
    generalize a.eval = ρ
    intro hp
    simp [execOp, e1, hp, hc, go_sem]
  | 11, _ =>
    have hop : opIs (regionOf Tryz.f51 1) 11 = some (.call { callee := .value (.func 18), args := #[.tmp 13], argTypes := #[24] }, some 14, true, [10, 8]) := by kernel_rfl
    obtain ⟨e1, eg⟩ := (dep hop).resolve_right (by simp)
    have hst : L 19 = false := no (j := 19) (k := 11) (show opIs (regionOf Tryz.f51 1) 19 = some (.store 24 (.tmp 18) (.tmp 14), none, true, [18, 11, 17, 0, 1, 2, 3, 4, 5, 6, 7, 8, 9, 10, 11, 12, 13, 14, 15, 16, 17]) by kernel_rfl) (by decide) hL
    have hp : a.eval (.tmp 13) = vq 3 := (hA.val (j := 10) (by kernel_rfl) (deps hop 10 (by decide))).trans (hJ.pures 10 _ rfl (deps hop 10 (by decide)))
    refine op_call ho eg (g := 18) (args := #[vq 3]) (w' := W) ?_ ((C 3 (by omega) W hJ.base).mono ?_)
    · have hb : a.eval (.func 18) = .func (.func 18) #[] #[] := rfl
      have hx : ∀ args w, (callFunc 18 args).run Tryz.prog w = .ok (.enter 18 args) w := enters_of Tryz.func18 (by kernel_rfl) rfl
      revert hb hp
      generalize a.eval = ρ
      intro hb hp
      simp [execOp, e1, hb, hp, hx, go_sem]
    · rintro e W' ⟨u, rfl, hr, hb, hk⟩
      exact ⟨u, rfl, _, rfl, hJ.call (q := 3) (by omega) hst hb hr hk⟩
  | 12, _ =>
    have hop : opIs (regionOf Tryz.f51 1) 12 = some (.fieldAddr 26 (.tmp 1) 2, some 15, true, [0, 1, 2, 3, 4, 6, 7, 9, 10]) := by kernel_rfl
    obtain ⟨e1, eg⟩ := (dep hop).resolve_right (by simp)
    refine op_value ho eg (v := .pointer (some ⟨w.heap.size, 2, none⟩)) (w' := W) ?_ ⟨_, rfl, hJ.pure rfl⟩
    have hb := (hA.base (s := 1) (by kernel_rfl)).trans h1
    revert hb
    generalize a.eval = ρ
    intro hb
    simp [execOp, e1, hb, go_sem]
  | 13, _ =>
    have hop : opIs (regionOf Tryz.f51 1) 13 = some (.store 23 (.tmp 15) (.tmp 5), none, true, [12, 2, 11, 0, 1, 2, 3, 4, 6, 7, 9, 10]) := by kernel_rfl
    obtain ⟨e1, eg⟩ := (dep hop).resolve_right (by simp)
    have hc := deps hop 2 (by decide)
    have hp : a.eval (.tmp 15) = .pointer (some ⟨w.heap.size, 2, none⟩) := (hA.val (j := 12) (by kernel_rfl) (deps hop 12 (by decide))).trans (hJ.pures 12 _ rfl (deps hop 12 (by decide)))
    have hu : a.eval (.tmp 5) = f 2 := hA.val (j := 2) (by kernel_rfl) hc
    obtain ⟨A, n, cap, hf⟩ := (hJ.rows 0 (by omega) hc).1.form
    obtain ⟨x, hx⟩   := hJ.has (q := 0) (by omega)
    have hfz := hJ.frozen 2
    refine op_skip ho eg (w' := W.setCell ⟨w.heap.size, 2, none⟩ (f 2)) ?_ ⟨_, rfl, hJ.store (q := 0) (by omega) hc _⟩
    have hf' : f 2 = .slice A n cap := hf
    rw [hf'] at hu ⊢
    revert hp hu
    generalize a.eval = ρ
    intro hp hu
    simp [execOp, e1, hp, hu, hfz, hx, go_sem]
  | 14, _ =>
    have hop : opIs (regionOf Tryz.f51 1) 14 = some (.fieldAddr 26 (.tmp 1) 3, some 16, true, [0, 1, 2, 3, 4, 5, 6, 7, 9, 10, 12, 13]) := by kernel_rfl
    obtain ⟨e1, eg⟩ := (dep hop).resolve_right (by simp)
    refine op_value ho eg (v := .pointer (some ⟨w.heap.size, 3, none⟩)) (w' := W) ?_ ⟨_, rfl, hJ.pure rfl⟩
    have hb := (hA.base (s := 1) (by kernel_rfl)).trans h1
    revert hb
    generalize a.eval = ρ
    intro hb
    simp [execOp, e1, hb, go_sem]
  | 15, _ =>
    have hop : opIs (regionOf Tryz.f51 1) 15 = some (.store 23 (.tmp 16) (.tmp 8), none, true, [14, 5, 13, 0, 1, 2, 3, 4, 5, 6, 7, 9, 10, 12, 13]) := by kernel_rfl
    obtain ⟨e1, eg⟩ := (dep hop).resolve_right (by simp)
    have hc := deps hop 5 (by decide)
    have hp : a.eval (.tmp 16) = .pointer (some ⟨w.heap.size, 3, none⟩) := (hA.val (j := 14) (by kernel_rfl) (deps hop 14 (by decide))).trans (hJ.pures 14 _ rfl (deps hop 14 (by decide)))
    have hu : a.eval (.tmp 8) = f 5 := hA.val (j := 5) (by kernel_rfl) hc
    obtain ⟨A, n, cap, hf⟩ := (hJ.rows 1 (by omega) hc).1.form
    obtain ⟨x, hx⟩   := hJ.has (q := 1) (by omega)
    have hfz := hJ.frozen 3
    refine op_skip ho eg (w' := W.setCell ⟨w.heap.size, 3, none⟩ (f 5)) ?_ ⟨_, rfl, hJ.store (q := 1) (by omega) hc _⟩
    have hf' : f 5 = .slice A n cap := hf
    rw [hf'] at hu ⊢
    revert hp hu
    generalize a.eval = ρ
    intro hp hu
    simp [execOp, e1, hp, hu, hfz, hx, go_sem]
  | 16, _ =>
    have hop : opIs (regionOf Tryz.f51 1) 16 = some (.fieldAddr 26 (.tmp 1) 4, some 17, true, [0, 1, 2, 3, 4, 5, 6, 7, 8, 9, 10, 12, 13, 14, 15]) := by kernel_rfl
    obtain ⟨e1, eg⟩ := (dep hop).resolve_right (by simp)
    refine op_value ho eg (v := .pointer (some ⟨w.heap.size, 4, none⟩)) (w' := W) ?_ ⟨_, rfl, hJ.pure rfl⟩
    have hb := (hA.base (s := 1) (by kernel_rfl)).trans h1
    revert hb
    generalize a.eval = ρ
    intro hb
    simp [execOp, e1, hb, go_sem]
  | 17, _ =>
    have hop : opIs (regionOf Tryz.f51 1) 17 = some (.store 23 (.tmp 17) (.tmp 11), none, true, [16, 8, 15, 0, 1, 2, 3, 4, 5, 6, 7, 8, 9, 10, 12, 13, 14, 15]) := by kernel_rfl
    obtain ⟨e1, eg⟩ := (dep hop).resolve_right (by simp)
    have hc := deps hop 8 (by decide)
    have hp : a.eval (.tmp 17) = .pointer (some ⟨w.heap.size, 4, none⟩) := (hA.val (j := 16) (by kernel_rfl) (deps hop 16 (by decide))).trans (hJ.pures 16 _ rfl (deps hop 16 (by decide)))
    have hu : a.eval (.tmp 11) = f 8 := hA.val (j := 8) (by kernel_rfl) hc
    obtain ⟨A, n, cap, hf⟩ := (hJ.rows 2 (by omega) hc).1.form
    obtain ⟨x, hx⟩   := hJ.has (q := 2) (by omega)
    have hfz := hJ.frozen 4
    refine op_skip ho eg (w' := W.setCell ⟨w.heap.size, 4, none⟩ (f 8)) ?_ ⟨_, rfl, hJ.store (q := 2) (by omega) hc _⟩
    have hf' : f 8 = .slice A n cap := hf
    rw [hf'] at hu ⊢
    revert hp hu
    generalize a.eval = ρ
    intro hp hu
    simp [execOp, e1, hp, hu, hfz, hx, go_sem]
  | 18, _ =>
    have hop : opIs (regionOf Tryz.f51 1) 18 = some (.fieldAddr 26 (.tmp 1) 5, some 18, true, [0, 1, 2, 3, 4, 5, 6, 7, 8, 9, 10, 11, 12, 13, 14, 15, 16, 17]) := by kernel_rfl
    obtain ⟨e1, eg⟩ := (dep hop).resolve_right (by simp)
    refine op_value ho eg (v := .pointer (some ⟨w.heap.size, 5, none⟩)) (w' := W) ?_ ⟨_, rfl, hJ.pure rfl⟩
    have hb := (hA.base (s := 1) (by kernel_rfl)).trans h1
    revert hb
    generalize a.eval = ρ
    intro hb
    simp [execOp, e1, hb, go_sem]
  | 19, _ =>
    have hop : opIs (regionOf Tryz.f51 1) 19 = some (.store 24 (.tmp 18) (.tmp 14), none, true, [18, 11, 17, 0, 1, 2, 3, 4, 5, 6, 7, 8, 9, 10, 11, 12, 13, 14, 15, 16, 17]) := by kernel_rfl
    obtain ⟨e1, eg⟩ := (dep hop).resolve_right (by simp)
    have hc := deps hop 11 (by decide)
    have hp : a.eval (.tmp 18) = .pointer (some ⟨w.heap.size, 5, none⟩) := (hA.val (j := 18) (by kernel_rfl) (deps hop 18 (by decide))).trans (hJ.pures 18 _ rfl (deps hop 18 (by decide)))
    have hu : a.eval (.tmp 14) = f 11 := hA.val (j := 11) (by kernel_rfl) hc
    obtain ⟨A, n, cap, hf⟩ := (hJ.rows 3 (by omega) hc).1.form
    obtain ⟨x, hx⟩   := hJ.has (q := 3) (by omega)
    have hfz := hJ.frozen 5
    refine op_skip ho eg (w' := W.setCell ⟨w.heap.size, 5, none⟩ (f 11)) ?_ ⟨_, rfl, hJ.store (q := 3) (by omega) hc _⟩
    have hf' : f 11 = .slice A n cap := hf
    rw [hf'] at hu ⊢
    revert hp hu
    generalize a.eval = ρ
    intro hp hu
    simp [execOp, e1, hp, hu, hfz, hx, go_sem]

theorem act_lit {ops : Array Oper} {a0 a : Act} {L : Nat → Bool} {f : Nat → Value} (h : ActAt ops a0 a L f) : a = ⟨((List.range a0.tmps.size).map fun s => (slotAt ops a0 L f s).getD undef).toArray, a0.defers⟩ := by
  obtain ⟨tm, df⟩ := a
  have h1 := h.defers
  have h2 := h.size
  simp only at h1 h2
  subst h1
  congr 1
  apply Array.ext_getElem?
  intro s
  by_cases hs : s < tm.size
  · have h3 := h.slots s
    simp only at h3
    have h4 : slotAt ops a0 L f s = some tm[s] := by rw [← h3, Array.getElem?_eq_getElem hs]
    rw [h3, h4]
    simp [← h2, hs, h4]
  · rw [Array.getElem?_eq_none (by omega), Array.getElem?_eq_none (by simp; omega)]

def clonePost (w : World) (t : TermD) (e : Ending) (w' : World) : Prop := ∃ u ue, e = .returned (termVal t u ue) ∧ TermRows w' w.heap.size u ue t ∧ Below w.heap.size w w'
def vals3 (f : Nat → Value) (i : Nat) : Value := f (3 * i + 2)
theorem CloneJ.rows4 {w W W' : World} {t : TermD} {vq : Nat → Value} {f : Nat → Value} {L : Nat → Bool} (h : CloneJ w t vq L f W) (hL : ∀ j, j < 20 → L j = true) (ht : Touch (fun k => k = w.heap.size + 1) W W') : TermRows W' w.heap.size (vals3 f) (f 11) t ∧ Below w.heap.size w W' := by
  have keep : ∀ q, q < 4 → RowQ W' t q (f (3 * q + 2)) := fun q hq => by
    obtain ⟨h1, h2⟩ := h.rows q hq (hL _ (by omega))
    exact h1.same fun k hk hlt => ht.block k hlt (by have := h2 k hk; omega)
  have ge : ∀ q, q < 4 → ∀ k, (f (3 * q + 2)).ownBlock = some k → w.heap.size ≤ k := fun q hq k hk => by
    have := (h.rows q hq (hL _ (by omega))).2 k hk
    omega
  refine ⟨⟨fun i hi => ?_, ?_, fun i hi => ge i (by omega), ge 3 (by omega), fun i j hi hj hne k hk hk2 => ?_, fun i hi k hk hk2 => ?_⟩, (Touch.trans (Touch.of_below (T := fun k => k = w.heap.size + 1) h.base) ht).below (Nat.le_refl _) fun k hk => by omega⟩
  · have := keep i (by omega)
    unfold RowQ at this
    rw [if_neg (by omega)] at this
    exact this
  · have := keep 3 (by omega)
    unfold RowQ at this
    rw [if_pos rfl] at this
    exact this
  · rcases Nat.lt_or_gt_of_ne hne with hlt | hgt
    · exact h.apart i j hlt (by omega) (hL _ (by omega)) (hL _ (by omega)) k hk hk2
    · exact h.apart j i hgt (by omega) (hL _ (by omega)) (hL _ (by omega)) k hk2 hk
  · exact h.apart i 3 hi (by omega) (hL _ (by omega)) (hL _ (by omega)) k hk hk2

set_option maxRecDepth 100000 in
set_option maxHeartbeats 2000000 in
theorem clone_any (w : World) (t : TermD) (v : Nat → Value) (ve : Value) (h : TermV w v ve t) : Calls Tryz.prog 51 #[termVal t v ve] w (clonePost w t) := by
  have C : ∀ q, q < 4 → ∀ W, Below w.heap.size w W → Calls Tryz.prog (if q = 3 then 18 else 17) #[(fun q => if q = 3 then ve else v q) q] W fun e W' => ∃ u, e = .returned u ∧ RowQ W' t q u ∧ Below W.heap.size W W' ∧ ∀ k, u.ownBlock = some k → W.heap.size ≤ k := fun q hq W hW => by
    by_cases hq3 : q = 3
    · subst hq3
      simp only [if_true]
      refine (cloneExts_any W ve t.exts (h.exts.below hW)).mono ?_
      rintro e W' ⟨u, he, hr, hb, hk⟩
      exact ⟨u, he, by unfold RowQ; rw [if_pos rfl]; exact hr, hb, hk⟩
    · simp only [if_neg hq3]
      refine (cloneCaps_any W (v q) (listOf t q) ((h.caps q (by omega)).below hW)).mono ?_
      rintro e W' ⟨u, he, hr, hb, hk⟩
      exact ⟨u, he, by unfold RowQ; rw [if_neg hq3]; exact hr, hb, hk⟩
  have hJ0 : ∀ f, CloneJ w t (fun q => if q = 3 then ve else v q) (fun _ => false) f ((w.alloc (.cells #[str t.names, .bool t.wide, v 0, v 1, v 2, ve] 26)).alloc termZero).drew := fun f => by
    refine ⟨below_drewN (((Below.refl _ w).alloc (Nat.le_refl _) _).alloc (by simp) _) 1, ?_, ⟨fun q => if q = 3 then ve else v q, ?_, fun q _ => by simp⟩, fun j x _ h => (by cases h), fun q _ h => (by cases h), fun p q _ _ h => (by cases h)⟩
    · have := World.alloc_heap_new (w.alloc (.cells #[str t.names, .bool t.wide, v 0, v 1, v 2, ve] 26)) termZero
      rwa [World.size_alloc] at this
    · show ((w.alloc (.cells #[str t.names, .bool t.wide, v 0, v 1, v 2, ve] 26)).alloc termZero).heap[w.heap.size]? = _
      rw [Below.heap_alloc _ _ _ (by simp)]
      exact World.alloc_heap_new w _
  have HC := Lib.hid C
  have HJ := Lib.hid hJ0
  clear C hJ0 h
  unfold termVal
  go_enter Tryz.func51, Tryz.ntmps51
  go_wp2
  change Code.wp Tryz.prog (.region 1 (regionOf Tryz.f51 1) true) _ _ _
  refine wp_region_facts (by kernel_rfl) (CloneJ w t (fun q => if q = 3 then ve else v q)) clone_ok clone_deps (HJ.out _) (clone_step w t _ _ _ rfl HC.out) (fun f W a hJ hA => ?_)
  have hL : ∀ j, j < 20 → (fun j => decide (j < (regionOf Tryz.f51 1).size)) j = true := fun j hj => by simp [clone_size, hj]
  obtain ⟨xs, hbox, hxs⟩ := hJ.box
  have hzero := hJ.res
  have hact := act_lit hA
  have hlit : a = ⟨#[.agg #[str t.names, .bool t.wide, v 0, v 1, v 2, ve], .pointer (some ⟨w.heap.size, 0, none⟩), .pointer (some ⟨w.heap.size + 1, 0, none⟩), f 0, f 1, f 2, f 3, f 4, f 5, f 6, f 7, f 8, f 9, f 10, f 11, f 12, f 14, f 16, f 18, undef], []⟩ := by
    rw [hact]
    kernel_rfl
  have HR := Lib.hid (fun W' (ht : Touch (fun k => k = w.heap.size + 1) W W') => hJ.rows4 hL ht)
  have x0 := hxs 0 (by omega)
  have x1 := hxs 1 (by omega)
  have x2 := hxs 2 (by omega)
  have x3 := hxs 3 (by omega)
  rw [if_pos (hL _ (by omega))] at x0 x1 x2 x3
  rw [x0, x1, x2, x3] at hbox
  obtain ⟨A0, m0, n0, e0⟩ := (hJ.rows 0 (by omega) (hL _ (by omega))).1.form
  obtain ⟨A1, m1, n1, e1⟩ := (hJ.rows 1 (by omega) (hL _ (by omega))).1.form
  obtain ⟨A2, m2, n2, e2⟩ := (hJ.rows 2 (by omega) (hL _ (by omega))).1.form
  obtain ⟨A3, m3, n3, e3⟩ := (hJ.rows 3 (by omega) (hL _ (by omega))).1.form
  have e0' : f 2 = .slice A0 m0 n0 := e0
  have e1' : f 5 = .slice A1 m1 n1 := e1
  have e2' : f 8 = .slice A2 m2 n2 := e2
  have e3' : f 11 = .slice A3 m3 n3 := e3
  have hbox' : W.heap[w.heap.size]? = some (.cells #[str t.names, .bool t.wide, .slice A0 m0 n0, .slice A1 m1 n1, .slice A2 m2 n2, .slice A3 m3 n3] 26 (0, 0)) := by rw [hbox, e0, e1, e2, e3]
  obtain ⟨d0, d1, d2, d3, d4, d5, f0, f1, f2, f3, f4, f5⟩ := termZero_facts hzero
  have c0 := cell_of_row W w.heap.size 0 _ _ _ hbox'
  have c1 := cell_of_row W w.heap.size 1 _ _ _ hbox'
  have c2 := cell_of_row W w.heap.size 2 _ _ _ hbox'
  have c3 := cell_of_row W w.heap.size 3 _ _ _ hbox'
  have c4 := cell_of_row W w.heap.size 4 _ _ _ hbox'
  have c5 := cell_of_row W w.heap.size 5 _ _ _ hbox'
  simp only [List.getElem?_toArray, List.getElem?_cons_zero, List.getElem?_cons_succ] at c0 c1 c2 c3 c4 c5
  have HZ := Lib.hid hzero
  have HE := Lib.hid (And.intro e0' (And.intro e1' (And.intro e2' e3')))
  subst hlit
  clear hA hJ hL hxs hact x0 x1 x2 x3 hbox hbox' e0 e1 e2 e3 e0' e1' e2' e3' HC HJ
  go_wp2
  obtain ⟨e0, e1, e2, e3⟩ := HE.out
  rw [← e0, ← e1, ← e2, ← e3]
  have hX := storeTerm_touch W (w.heap.size + 1) t (vals3 f) (f 11)
  have hres := fun j => cell_of_row (storeTerm W (w.heap.size + 1) t (vals3 f) (f 11)) (w.heap.size + 1) j _ _ _ (storeTerm_box HZ.out)
  obtain ⟨r1, r2⟩ := HR.out _ hX
  change bodyPost _ _ _ _ _ (storeTerm W (w.heap.size + 1) t (vals3 f) (f 11))
  generalize storeTerm W (w.heap.size + 1) t (vals3 f) (f 11) = W' at *
  simp only [List.getElem?_toArray] at hres
  refine bodyPost_ret (v := termVal t (vals3 f) (f 11)) (by simp [results, Tryz.results51, go_sem, hres]) rfl ?_
  exact ⟨vals3 f, f 11, rfl, r1, r2⟩

end Go.Proofs.YtcfgppjhgobboaaGreatDoor
