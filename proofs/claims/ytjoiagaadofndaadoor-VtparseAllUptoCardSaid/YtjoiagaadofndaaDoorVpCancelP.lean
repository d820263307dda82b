/-
  Plain lemmas: a CAN or a SUB ends all that was begun; what follows it is read as if nothing had been. No program is spoken of here, and nothing is assumed.
-/
import Derived.Test.YtjoiagaadofndaaDoorVpBound
namespace Go.Proofs.YtjoiagaadofndaaDoor

/-- bytes of a rune are held between sequences alone -/
def HOk (S : PS) : Prop := SOk S ∧ (S.st ≠ 0 → S.held = [])
theorem hok_take {S : PS} (h : HOk S) (b : UInt8) : HOk (takeP S b).1 := by
  refine ⟨(take_ok h.1 b).1, ?_⟩
  unfold takeP
  split
  · next hh => intro hne; exact absurd hh.1 hne
  · split
    · intro _
      exact (step_ok (S := { S with held := [] }) ⟨h.1.ps16, h.1.ints, h.1.inter2, h.1.text⟩ b).2.1
    · next hs => intro _; exact (step_ok h.1 b).2.1.trans (h.2 hs)
theorem hok_put (l : List UInt8) : ∀ {S : PS}, HOk S → HOk (putPS S l).1 := by
  induction l with
  | nil => intro S h; exact h
  | cons b l ih => intro S h; exact ih (hok_take h b)
theorem hok0 : HOk ps0 := ⟨ps0_ok, fun _ => rfl⟩
/-- a parser at rest -/
def Rest (S : PS) : Prop := S.st = 0 ∧ S.held = []
/-- what CAN and SUB do -/
theorem cancel_take {S : PS} (h : HOk S) {x : UInt8} (hx : x = 24 ∨ x = 26) : Rest (takeP S x).1 ∧ HOk (takeP S x).1 ∧ ∃ l, (takeP S x).2 = l ++ [exeA x] := by
  have hlt : ¬ 128 ≤ x := by rcases hx with rfl | rfl <;> decide
  have hst : ∀ Q : PS, stepP Q x = ({ Q with st := 0 }, exeA x) := fun Q => by unfold stepP; rw [if_pos hx]
  have h1 : oneA (exeA x) = [exeA x] := by unfold oneA; rw [if_neg (by show ¬ (2 : Nat) = 0; omega)]
  refine ⟨?_, hok_take h x, ?_⟩
  · unfold takeP
    rw [if_neg (fun q => hlt q.2)]
    split
    · rw [hst]; exact ⟨rfl, rfl⟩
    · next hs => rw [hst]; exact ⟨rfl, h.2 hs⟩
  · unfold takeP
    rw [if_neg (fun q => hlt q.2)]
    split
    · rw [hst]; exact ⟨printsP (decAll S.held), by show _ ++ oneA (exeA x) = _; rw [h1]⟩
    · rw [hst]; exact ⟨[], by show oneA (exeA x) = _; rw [h1]; rfl⟩
theorem cancel_put {S : PS} (h : HOk S) {x : UInt8} (hx : x = 24 ∨ x = 26) : Rest (putPS S [x]).1 ∧ HOk (putPS S [x]).1 ∧ ∃ l, (putPS S [x]).2 = l ++ [exeA x] := by
  obtain ⟨h1, h2, l, hl⟩ := cancel_take h hx
  exact ⟨h1, h2, l, by show (takeP S x).2 ++ [] = _; rw [List.append_nil, hl]⟩
/-- two parsers that answer alike -/
def Sim (S S' : PS) : Prop := S = S' ∨ (S.st = 0 ∧ S'.st = 0 ∧ S.held = S'.held)
theorem sim_take {S S' : PS} (h : Sim S S') (b : UInt8) : Sim (takeP S b).1 (takeP S' b).1 ∧ (takeP S b).2 = (takeP S' b).2 := by
  rcases h with rfl | ⟨h1, h2, h3⟩
  · exact ⟨.inl rfl, rfl⟩
  · unfold takeP
    by_cases hb : 128 ≤ b
    · rw [if_pos ⟨h1, hb⟩, if_pos ⟨h2, hb⟩, h3]
      exact ⟨.inr ⟨h1, h2, rfl⟩, rfl⟩
    · rw [if_neg (fun q => hb q.2), if_pos h1, if_neg (fun q => hb q.2), if_pos h2, h3]
      unfold stepP
      by_cases hx : b = 24 ∨ b = 26
      · rw [if_pos hx, if_pos hx]
        exact ⟨.inr ⟨rfl, rfl, rfl⟩, rfl⟩
      · rw [if_neg hx, if_neg hx]
        by_cases h27 : b = 27
        · rw [if_pos h27, if_pos h27]
          refine ⟨.inl rfl, ?_⟩
          have e : endTextA { S with held := [] } = endTextA { S' with held := [] } := by
            unfold endTextA
            simp [h1, h2]
          rw [e]
        · rw [if_neg h27, if_neg h27]
          have e1 : inStateP { S with held := [] } b = ({ S with held := [] }, groundA b) := by simp only [inStateP, h1]
          have e2 : inStateP { S' with held := [] } b = ({ S' with held := [] }, groundA b) := by simp only [inStateP, h2]
          rw [e1, e2]
          exact ⟨.inr ⟨h1, h2, rfl⟩, rfl⟩
theorem sim_put (l : List UInt8) : ∀ {S S' : PS}, Sim S S' → (putPS S l).2 = (putPS S' l).2 := by
  induction l with
  | nil => intro S S' _; rfl
  | cons b l ih =>
    intro S S' h
    have ht := sim_take h b
    show (takeP S b).2 ++ _ = (takeP S' b).2 ++ _
    rw [ht.2, ih ht.1]
theorem rest_sim {S : PS} (h : Rest S) : Sim S ps0 := .inr ⟨h.1, rfl, h.2⟩
theorem rest_ground {S : PS} (h : Rest S) : groundP S = true := by simp [groundP, h.1, h.2]
theorem put_many (l : List UInt8) {S : PS} (h : SOk S) (hh : S.held = []) : (putPS S l).2.length ≤ l.length := by
  have h3 := (put_ok l h).2.2
  rw [hh] at h3
  simp at h3
  omega
end Go.Proofs.YtjoiagaadofndaaDoor
