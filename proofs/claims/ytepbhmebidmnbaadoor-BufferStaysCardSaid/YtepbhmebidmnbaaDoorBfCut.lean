/-
  Parts of a slice of runes; appends of runes as runs. No program is walked here, and nothing is assumed.
-/
import Derived.Test.YtepbhmebidmnbaaDoorBfSame
import Derived.Deep.RegionLaw
namespace Go.Proofs.YtepbhmebidmnbaaDoor
open Go.RowKit Go.Shelf Go.Lib

theorem Holds1.head {w : World} {A : Option Addr} {l : List Int} {c k : Nat} (h : Holds1 w (.slice A l.length c) (runeVals l)) (hk : k ≤ l.length) : Holds1 w (.slice A k c) (runeVals (l.take k)) := by
  obtain ⟨A', c', e, ⟨hc, hn⟩, hcell⟩ := h
  injection e with e1 e2 e3
  subst e1 e3
  rw [runeVals_length] at hc hcell
  refine ⟨A, c, by rw [runeVals_length, List.length_take, Nat.min_eq_left hk], ⟨by rw [runeVals_length, List.length_take]; omega, hn⟩, fun hp => ?_⟩
  rw [runeVals_length, List.length_take] at hp
  obtain ⟨b, off, rfl, hlt, hj⟩ := hcell (by omega)
  refine ⟨b, off, rfl, hlt, fun j u hu => hj j u ?_⟩
  unfold runeVals at hu ⊢
  rw [List.getElem?_map, List.getElem?_take] at hu
  rw [List.getElem?_map]
  split at hu
  · exact hu
  · cases hu
theorem Holds1.tail {w : World} {A : Option Addr} {l : List Int} {c k : Nat} (h : Holds1 w (.slice A l.length c) (runeVals l)) (hk : k ≤ l.length) : Holds1 w (.slice (tailA A c k 1) (l.length - k) (c - k)) (runeVals (l.drop k)) := by
  obtain ⟨A', c', e, ⟨hc, hn⟩, hcell⟩ := h
  injection e with e1 e2 e3
  subst e1 e3
  rw [runeVals_length] at hc hcell
  refine ⟨tailA A c k 1, c - k, by rw [runeVals_length, List.length_drop], ⟨by rw [runeVals_length, List.length_drop]; omega, fun e => ?_⟩, fun hp => ?_⟩
  · unfold tailA at e
    split at e
    · omega
    · cases A with
      | none => have := hn rfl; omega
      | some a => cases e
  · rw [runeVals_length, List.length_drop] at hp
    obtain ⟨b, off, rfl, hlt, hj⟩ := hcell (by omega)
    refine ⟨b, off + k, ?_, hlt, fun j u hu => ?_⟩
    · unfold tailA
      rw [if_neg (by omega)]
      simp [add_off]
    · rw [Nat.add_assoc]
      refine hj (k + j) u ?_
      unfold runeVals at hu ⊢
      rw [List.getElem?_map, List.getElem?_drop] at hu
      rw [List.getElem?_map]
      exact hu
theorem Holds1.mid {w : World} {A : Option Addr} {l : List Int} {c a b : Nat} (h : Holds1 w (.slice A l.length c) (runeVals l)) (hab : a ≤ b) (hb : b ≤ l.length) : Holds1 w (.slice (tailA A c a 1) (b - a) (c - a)) (runeVals (partP l a b)) := by
  have hl : (l.take b).length = b := by rw [List.length_take, Nat.min_eq_left hb]
  have h1 : Holds1 w (.slice A (l.take b).length c) (runeVals (l.take b)) := by rw [hl]; exact h.head hb
  have h2 := h1.tail (k := a) (by rw [hl]; exact hab)
  rw [hl] at h2
  exact h2
theorem run_append_runes (w : World) (ty : TypeId) (B : Nat) (v : Value) (l : List Int) (hrow : RRow w B v l) {A : Option Addr} {n c : Nat} {y : List Int} (hy : Holds1 w (.slice A n c) (runeVals y)) (hl : l.length + y.length ≤ 1000000000) (hB : B ≤ w.heap.size) :
    ∃ A' n' c' w', (Builtin.append_ #[22, 22] ty #[v, .slice A n c]).run Tryd.prog w = .ok (.slice A' n' c') w' ∧ RRow w' B (.slice A' n' c') (l ++ y) ∧ Below B w w' := by
  obtain ⟨i, hi, hz, hs2, hby⟩ := info_parts info_rune
  obtain ⟨A', c', e, _⟩ := id hy
  injection e with e1 e2 e3
  rw [runeVals_length] at e2
  subst e2
  obtain ⟨v', w', hr, h4, h5, _⟩ := run_append_src (P := Tryd.prog) w B 22 ty 21 i _ 1 4 Tryd.underlying22 hi hz hs2 hby rfl (by decide) v l.length (runeVals l) hrow hy.src (runeVals_one _) (by unfold maxLen; omega) (by omega) hB
  have hR : RRow w' B v' (l ++ y) := by unfold RRow; rw [List.length_append, runeVals_append]; exact h4
  obtain ⟨A2, n2, c2, rfl⟩ := hR.form3
  exact ⟨A2, n2, c2, w', hr, hR, grown_below h5 hB fun k hk => (own_lt hrow k hk).1⟩
/-- a row that was just made, without anything in it -/
theorem RRow.fresh (w : World) {B : Nat} (hB : B ≤ w.heap.size) : RRow (w.alloc (.cells #[] 21)) B (.slice (some ⟨w.heap.size, 0, none⟩) 0 0) [] :=
  ⟨rfl, .inr ⟨w.heap.size, 0, #[], rfl, hB, alloc_new _ _, Nat.le_refl _, by first | simp | decide, by first | simp | decide, by first | rfl | simp [runeVals]⟩⟩
theorem rune_size : ∀ W, (Go.sizeOf 21).run Tryd.prog W = .ok 1 W := fun W => by kernel_rfl
theorem slice_runes (A : Option Addr) (n c a b : Nat) (hab : a ≤ b) (hb : b ≤ c) (W : World) : (Instr.slice 22 (.slice A n c) (some (.int .i64 (a : Int))) (some (.int .i64 (b : Int))) none).run Tryd.prog W = .ok (.slice (tailA A c a 1) (b - a) (c - a)) W :=
  slice_both 22 21 Tryd.underlying22 1 rune_size A n c a b hab hb W
theorem slice_to (A : Option Addr) (n c b : Nat) (hb : b ≤ c) (W : World) : (Instr.slice 22 (.slice A n c) none (some (.int .i64 (b : Int))) none).run Tryd.prog W = .ok (.slice A b c) W :=
  slice_head 22 21 Tryd.underlying22 1 rune_size A n c b hb W
theorem slice_at (A : Option Addr) (n c a : Nat) (ha : a ≤ n) (W : World) : (Instr.slice 22 (.slice A n c) (some (.int .i64 (a : Int))) none none).run Tryd.prog W = .ok (.slice (tailA A c a 1) (n - a) (c - a)) W :=
  slice_tail 22 21 Tryd.underlying22 1 rune_size A n c a ha W
/-- the same through the general entry -/
theorem sliceAt_runes (A : Option Addr) (n c a b : Nat) (hab : a ≤ b) (hb : b ≤ c) (W : World) : (Instr.sliceAt 22 (.slice A n c) (some (.int .i64 (a : Int))) (some (.int .i64 (b : Int))) none).run Tryd.prog W = .ok (.slice (tailA A c a 1) (b - a) (c - a)) W := by
  have ht : Tryd.prog.underlying 22 = some (.slice (Tryd.prog.elem 22)) := by simp [Program.elem, Tryd.underlying22]
  rw [run_sliceAt_slice W 22 _ _ _ _ ht]
  exact slice_runes A n c a b hab hb W
theorem sliceAt_to (A : Option Addr) (n c b : Nat) (hb : b ≤ c) (W : World) : (Instr.sliceAt 22 (.slice A n c) none (some (.int .i64 (b : Int))) none).run Tryd.prog W = .ok (.slice A b c) W := by
  have ht : Tryd.prog.underlying 22 = some (.slice (Tryd.prog.elem 22)) := by simp [Program.elem, Tryd.underlying22]
  rw [run_sliceAt_slice W 22 _ _ _ _ ht]
  exact slice_to A n c b hb W
theorem sliceAt_from (A : Option Addr) (n c a : Nat) (ha : a ≤ n) (W : World) : (Instr.sliceAt 22 (.slice A n c) (some (.int .i64 (a : Int))) none none).run Tryd.prog W = .ok (.slice (tailA A c a 1) (n - a) (c - a)) W := by
  have ht : Tryd.prog.underlying 22 = some (.slice (Tryd.prog.elem 22)) := by simp [Program.elem, Tryd.underlying22]
  rw [run_sliceAt_slice W 22 _ _ _ _ ht]
  exact slice_at A n c a ha W
theorem step_of_run {ops : Array Oper} {o : Oper} {a : Act} {w : World} {K : Act → World → Prop} {Q : Exit → Act → World → Prop} {E : Prop} {t u : TypeId} (hgd : o.guard = none) (s x : Operand) (ho : o.op = .call { callee := .builtin .append, args := #[s, x], argTypes := #[t, u] })
    {vs vx v' : Value} {w' : World} (hs : a.eval s = vs) (hx : a.eval x = vx) (hr : (Builtin.append_ #[t, u] o.type #[vs, vx]).run Tryd.prog w = .ok v' w') (h : K (a.put o.dst v') w') :
    if Region.wanted o (yielded ops a.tmps) = true then Oper.wp Tryd.prog o a w K Q else E := by
  have hw : Region.wanted o (yielded ops a.tmps) = true := by simp [Region.wanted, hgd]
  rw [if_pos hw]
  unfold Oper.wp
  simp [execOp, ho, resolve, invoke, builtin, hs, hx, hr, Result.andThen]
  exact h
theorem step_of_run2 {ops : Array Oper} {o : Oper} {a : Act} {w : World} {K : Act → World → Prop} {Q : Exit → Act → World → Prop} {E : Prop} {t u ty : TypeId} {vs vx v' : Value} {w' : World} (hr : (Builtin.append_ #[t, u] ty #[vs, vx]).run Tryd.prog w = .ok v' w')
    (hev : o.guard = none ∧ o.type = ty ∧ ∃ s x, o.op = .call { callee := .builtin .append, args := #[s, x], argTypes := #[t, u] } ∧ a.eval s = vs ∧ a.eval x = vx) (h : K (a.put o.dst v') w') :
    if Region.wanted o (yielded ops a.tmps) = true then Oper.wp Tryd.prog o a w K Q else E := by
  obtain ⟨h1, rfl, s, x, ho, h2, h3⟩ := hev
  exact step_of_run h1 s x ho h2 h3 hr h
end Go.Proofs.YtepbhmebidmnbaaDoor
