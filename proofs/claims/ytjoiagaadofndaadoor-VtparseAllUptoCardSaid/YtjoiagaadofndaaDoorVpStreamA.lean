/-
  Rows of actions and of bytes side by side; a slice of slices of bytes.
-/
import Derived.Test.YtjoiagaadofndaaDoorVpCancelW
namespace Go.Proofs.YtjoiagaadofndaaDoor
open Go.RowKit Go.Shelf Go.Lib
attribute [local go_sem] Oper.semAt_some

theorem byte_ne : 5 ≠ 39 ∧ 5 ≠ 3 := by decide
/-- a row of bytes grows: actions stay -/
theorem ActRow.apart {w w' : World} {B B' size n : Nat} {e : TypeId} {v v' : Value} {al : List ActD} {xs : List Value} (h : ActRow w B v al) (h' : w.ownsRow B' e size v' n xs) (hne : e ≠ 39 ∧ e ≠ 3) (hg : w.grownBy w' v'.ownBlock) : ActRow w' B v al := by
  obtain ⟨ys, h1, h2, h3⟩ := h
  exact ⟨ys, h1, own_apart h2 h' (Ne.symm hne.1) hg, fun x hx => own_apart (h3 x hx) h' (Ne.symm hne.2) hg⟩
theorem Holds1.src {w : World} {A : Option Addr} {n c : Nat} {xs : List Value} (h : Holds1 w (.slice A n c) xs) : Src w 1 A c n xs := by
  obtain ⟨A', c', e, hc, hcell⟩ := h
  injection e with e1 e2 e3
  subst e1 e3 e2
  exact ⟨by simp, (fun hA => ⟨by have := hc.1; have := hc.2 hA; omega, hc.2 hA⟩), fun hm => by
    obtain ⟨b, off, rfl, hlt, hj⟩ := hcell hm
    exact ⟨b, off, rfl, hlt, hj⟩⟩
theorem wpList_append_bytes {ops : Array Oper} {rest : List Oper} {o : Oper} {a : Act} {w : World} {Q : Exit → Act → World → Prop} (hgd : o.guard = none) (s x : Operand)
    (ho : o.op = .call { callee := .builtin .append, args := #[s, x], argTypes := #[22, 22] }) (B : Nat) (v : Value) (l : List UInt8) (hs : a.eval s = v) (hrow : w.ownsRow B 5 1 v l.length (byteVals l)) (A : Option Addr) (n c : Nat) (y : List UInt8)
    (hx : a.eval x = .slice A n c) (hy : Holds1 w (.slice A n c) (byteVals y)) (hl : l.length + y.length ≤ 1000000000) (hB : B ≤ w.heap.size)
    (h : ∀ v' w', w'.ownsRow B 5 1 v' (l ++ y).length (byteVals (l ++ y)) → Below B w w' → w.grownBy w' v.ownBlock → wpList Tryd.prog ops Q rest (a.put o.dst v') w') : wpList Tryd.prog ops Q (o :: rest) a w := by
  refine wpList_plain hgd fun K hK => ?_
  obtain ⟨i, hi, hz, hs2, hby⟩ := info_parts info_byte
  obtain ⟨A', c', e, _⟩ := id hy
  injection e with e1 e2 e3
  rw [byteVals_length] at e2
  subst e2
  obtain ⟨v', w', hr, h4, h5, _⟩ := run_append_src (P := Tryd.prog) w B 22 o.type 5 i _ 1 1 Tryd.underlying22 hi hz hs2 hby rfl (by decide) v l.length (byteVals l) hrow hy.src (byteVals_one _) (by unfold maxLen; omega) (by omega) hB
  unfold Oper.wp
  simp [execOp, ho, resolve, invoke, builtin, hs, hx, hr, Result.andThen]
  refine hK _ _ (h v' w' ?_ (grown_below h5 hB fun k hk => (own_lt hrow k hk).1) h5)
  rw [List.length_append, byteVals_append]
  exact h4
theorem actVals_one {W : World} {B : Nat} {xs : List (ActD × Value)} (h : ∀ x ∈ xs, IntRow W B x.2 x.1.ps) : ∀ u ∈ actVals xs, u.oneCell' = true := by
  intro u hu
  simp only [actVals, List.mem_flatMap] at hu
  obtain ⟨x, hx, hu⟩ := hu
  exact actCells_one (a := x.1) (v := x.2) (slice_one (h x hx)) u hu
theorem wpList_append_acts {ops : Array Oper} {rest : List Oper} {o : Oper} {a : Act} {w : World} {Q : Exit → Act → World → Prop} (hgd : o.guard = none) (s x : Operand)
    (ho : o.op = .call { callee := .builtin .append, args := #[s, x], argTypes := #[25, 25] }) (B B2 : Nat) (v v2 : Value) (al al2 : List ActD) (hs : a.eval s = v) (hrow : ActRow w B v al) (hx : a.eval x = v2) (hrow2 : ActRow w B2 v2 al2) (hB2 : B ≤ B2) (hl : al.length + al2.length ≤ 1000000000) (hB : B ≤ w.heap.size)
    (h : ∀ v' w', ActRow w' B v' (al ++ al2) → Below B w w' → w.grownBy w' v.ownBlock → wpList Tryd.prog ops Q rest (a.put o.dst v') w') : wpList Tryd.prog ops Q (o :: rest) a w := by
  refine wpList_plain hgd fun K hK => ?_
  obtain ⟨i, hi, hz, hs2, hby⟩ := info_parts info_act
  obtain ⟨xs, e1, h1, h3⟩ := hrow
  obtain ⟨ys, f1, k1, k3⟩ := hrow2
  obtain ⟨A, c, hv2, _⟩ := own_form k1
  subst hv2
  have hsrc := own_head k1 (Nat.le_refl _)
  rw [List.take_of_length_le (by rw [actVals_length, ← f1, List.length_map]; omega)] at hsrc
  obtain ⟨v', w', hr, h4, h5, _⟩ := run_append_src (P := Tryd.prog) w B 25 o.type 39 i _ 7 72 Tryd.underlying25 hi hz hs2 hby rfl (by decide) v al.length (actVals xs) h1 hsrc (actVals_one k3) (by unfold maxLen; omega) (by omega) hB
  unfold Oper.wp
  simp [execOp, ho, resolve, invoke, builtin, hs, hx, hr, Result.andThen]
  refine hK _ _ (h v' w' ⟨xs ++ ys, by simp [e1, f1], ?_, fun z hz => ?_⟩ (grown_below h5 hB fun k hk => (own_lt h1 k hk).1) h5)
  · rw [List.length_append, actVals_append]
    exact h4
  · rcases List.mem_append.1 hz with hz | hz
    · exact own_apart (h3 z hz) h1 types_ne.1 h5
    · exact own_apart (own_less (k3 z hz) hB2) h1 types_ne.1 h5
/-- a slice of slices of bytes -/
def HoldsRows (w : World) (v : Value) (ps : List (List UInt8)) : Prop :=
  ∃ A c, v = .slice A ps.length c ∧ (0 < ps.length → ∃ b off, A = some ⟨b, off, none⟩ ∧ b < w.heap.size ∧ ∀ k (hk : k < ps.length), ∃ A' c', w.cell? ⟨b, off + k, none⟩ = some (.slice A' ps[k].length c') ∧ Holds1 w (.slice A' ps[k].length c') (byteVals ps[k]))
end Go.Proofs.YtjoiagaadofndaaDoor
