/-
  Kills that go on, behind or ahead, are yanked as one text, as it stood.
-/
import Derived.Test.YtknekldnipdpeaaKrRoundL
namespace Go.Proofs.Ytknekldnipdpeaa
open Go.RowKit Go.Shelf Go.Lib
attribute [local go_sem] Oper.semAt_some

/-- runes appended to a row of the call's own; where the new row lies -/
theorem wpList_append_runes2 {ops : Array Oper} {rest : List Oper} {o : Oper} {a : Act} {w : World} {Q : Exit → Act → World → Prop} (hgd : o.guard = none) (s x : Operand)
    (ho : o.op = .call { callee := .builtin .append, args := #[s, x], argTypes := #[30, 30] }) (B : Nat) (v : Value) (l : List Int) (hs : a.eval s = v) (hrow : RRow w B v l) (A : Option Addr) (n c : Nat) (y : List Int)
    (hx : a.eval x = .slice A n c) (hy : Holds1 w (.slice A n c) (runeVals y)) (hl : l.length + y.length ≤ 35184372088832) (hB : B ≤ w.heap.size)
    (h : ∀ A' n' c' w', n' = (l ++ y).length → RRow w' B (.slice A' n' c') (l ++ y) → Below B w w' → w.grownBy w' v.ownBlock → ((Value.slice A' n' c').ownBlock = v.ownBlock ∨ (Value.slice A' n' c').ownBlock = some w.heap.size) → wpList Try.prog ops Q rest (a.put o.dst (.slice A' n' c')) w') : wpList Try.prog ops Q (o :: rest) a w := by
  refine wpList_plain hgd fun K hK => ?_
  obtain ⟨i, hi, hz, hs2, hby⟩ := info_parts info_rune
  obtain ⟨A', c', e, _⟩ := id hy
  injection e with e1 e2 e3
  rw [runeVals_length] at e2
  subst e2
  obtain ⟨v', w', hr, h4, h5, h6⟩ := run_append_src (P := Try.prog) w B 30 o.type 21 i _ 1 4 Try.underlying30 hi hz hs2 hby rfl (by decide) v l.length (runeVals l) hrow hy.src (runeVals_one _) (by unfold maxLen; omega) (by omega) hB
  have hR : RRow w' B v' (l ++ y) := by unfold RRow; rw [List.length_append, runeVals_append]; exact h4
  obtain ⟨A2, c2, rfl⟩ := RRow.form hR
  unfold Oper.wp
  simp [execOp, ho, resolve, invoke, builtin, hs, hx, hr, Result.andThen]
  refine hK _ _ ?_
  have := h A2 _ c2 w' rfl hR (grown_below h5 hB fun k hk => (own_lt hrow k hk).1) h5 h6
  simpa using this
/-- between two kills: the ring's one entry is what was gathered, in a row that is nobody else's -/
structure JI (w wr : World) (g : Nat) (av : Value) (xs : List Int) : Prop where
  ring : ∃ K, RAt K wr g ⟨[xs], 0⟩ ∧ ∀ k, av.ownBlock = some k → ¬ K k ∧ k ≠ g
  all : RRow wr w.heap.size av xs
  len : xs.length ≤ 1024
  b : Below w.heap.size w wr
  g : w.heap.size ≤ g
theorem kill1_err {xs x : List Int} {way : Int} (hw : way = 1 ∨ way = 2) : killErr ⟨[xs], 0⟩ way x = if 1024 < xs.length + x.length then 3 else 0 := by
  unfold killErr
  rw [if_neg (by omega)]
  by_cases h1 : 1024 < x.length
  · rw [if_pos h1, if_pos (by omega)]
  · rw [if_neg h1, if_neg (by omega)]
theorem kill1_S {xs x : List Int} {way : Int} (hw : way = 1 ∨ way = 2) (h : ¬ 1024 < xs.length + x.length) : killS ⟨[xs], 0⟩ way x = ⟨[joinP way xs x], 0⟩ := by
  unfold killS
  rw [kill1_err hw, if_neg h, if_neg (by simp), if_neg (by omega)]
theorem kill1_S' {xs x : List Int} {way : Int} (hw : way = 1 ∨ way = 2) (h : 1024 < xs.length + x.length) : killS ⟨[xs], 0⟩ way x = ⟨[xs], 0⟩ := by
  unfold killS
  rw [kill1_err hw, if_pos h, if_pos (by simp)]
/-- what a kill leaves of a row that is not the ring's -/
theorem JI.kill {w wr : World} {g : Nat} {av : Value} {xs : List Int} (h : JI w wr g av xs) (way : Int) (hw : way = 1 ∨ way = 2) {v : Value} {x : List Int} (hv : Holds1 wr v (runeVals x)) :
    Calls Try.prog 11 #[.pointer (some ⟨g, 0, none⟩), .int .i64 way, v] wr fun e w' => Below w.heap.size w w' ∧ RRow w' w.heap.size av xs ∧ ((1024 < xs.length + x.length ∧ e = .returned (.int .i64 3) ∧ JI w w' g av xs) ∨
      (¬ 1024 < xs.length + x.length ∧ e = .returned (.int .i64 0) ∧ ∃ K, RAt K w' g ⟨[joinP way xs x], 0⟩ ∧ (∀ k, av.ownBlock = some k → ¬ K k ∧ k ≠ g))) := by
  obtain ⟨K, hR, hK⟩ := h.ring
  refine (kill_any wr g _ hR way v x hv).mono ?_
  rintro e w' ⟨rfl, h2, ht⟩
  have hrow : RRow w' w.heap.size av xs := own_same h.all fun k hk => ht.block k (own_lt h.all k hk).2 (hK k hk).2
  have hb : Below w.heap.size w w' := h.b.trans (ht.below h.b.size fun k hk => by simp only [Only] at hk; have := h.g; omega)
  have hm : ∀ k, av.ownBlock = some k → ¬ More K wr w' k ∧ k ≠ g := fun k hk => ⟨by
    rintro (h1 | ⟨h1, _⟩)
    · exact (hK k hk).1 h1
    · have := own_lt h.all k hk
      omega, (hK k hk).2⟩
  refine ⟨hb, hrow, ?_⟩
  rw [kill1_err hw]
  by_cases hl : 1024 < xs.length + x.length
  · rw [kill1_S' hw hl] at h2
    exact .inl ⟨hl, by rw [if_pos hl], ⟨_, h2, hm⟩, hrow, h.len, hb, h.g⟩
  · rw [kill1_S hw hl] at h2
    exact .inr ⟨hl, by rw [if_neg hl], _, h2, hm⟩
/-- behind the append to the row -/
theorem JI.grown {w w1 w2 : World} {g : Nat} {av av' : Value} {ys : List Int} {K : Nat → Prop} (hR : RAt K w1 g ⟨[ys], 0⟩) (hK : ∀ k, av.ownBlock = some k → ¬ K k ∧ k ≠ g) (hb : Below w.heap.size w w1) (hg : w.heap.size ≤ g) (hl : ys.length ≤ 1024)
    (hrow : RRow w2 w.heap.size av' ys) (hB : Below w.heap.size w1 w2) (hG : w1.grownBy w2 av.ownBlock) (ho : av'.ownBlock = av.ownBlock ∨ av'.ownBlock = some w1.heap.size) : JI w w2 g av' ys := by
  have ht : Touch (fun k => av.ownBlock = some k) w1 w2 := Touch.of_grown hG fun _ h => h
  refine ⟨⟨K, hR.to (Agree.of_touch ht fun k hk e => ?_), fun k hk => ?_⟩, hrow, hl, hb.trans hB, hg⟩
  · rcases hk with hk | hk
    · exact (hK k e).1 hk
    · exact (hK k e).2 hk
  · rcases ho with ho | ho
    · exact hK k (ho ▸ hk)
    · rw [ho] at hk
      injection hk with hk
      subst hk
      have h1 := hR.lt
      exact ⟨fun h => Nat.lt_irrefl _ (hR.inw _ h), by omega⟩
/-- a row made anew -/
theorem JI.anew {w w1 w2 : World} {g : Nat} {av' : Value} {ys : List Int} {K : Nat → Prop} (hR : RAt K w1 g ⟨[ys], 0⟩) (hb : Below w.heap.size w w1) (hg : w.heap.size ≤ g) (hl : ys.length ≤ 1024)
    (hrow : RRow w2 w1.heap.size av' ys) (hB : Below w1.heap.size w1 w2) : JI w w2 g av' ys :=
  ⟨⟨K, hR.below hB, fun k hk => by
    have h1 := own_lt hrow k hk
    have h2 := hR.lt
    exact ⟨fun h => by have := hR.inw _ h; omega, by omega⟩⟩, own_less hrow hb.size, hl, hb.trans (hB.mono hb.size), hg⟩
end Go.Proofs.Ytknekldnipdpeaa
