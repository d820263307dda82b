/-
  A region that only reads and draws its order, inside a round of a range over a function. No program is walked here, and nothing is assumed.
-/
import Derived.Test.YthpkfgjjaieikaaGreatDoorRange0
import Derived.Sort.QuietIn
namespace Go.Proofs.YthpkfgjjaieikaaGreatDoor
open Go

theorem op_round {F : Fence} {n l : Nat} {P : Program} {o : Oper} {a : Act} {w : World} {K : Act → World → Prop} {Q : Exit → Act → World → Prop} (hnd : ∀ c, o.op ≠ .defer c) (h : o.wpIn F n P a w K Q) : o.wpIn (F.inRound l) n P a w K Q := by
  refine ⟨h.1, ?_⟩
  have h2 := h.2
  rw [Oper.semAt_plain _ _ _ hnd] at h2 ⊢
  generalize (execOp a.eval o).run P w = res at h2 ⊢
  cases res with
  | ok x w' => cases x <;> exact h2
  | halt x w' => cases x <;> exact h2
theorem ops_round {F : Fence} {n l : Nat} {P : Program} {ops : Array Oper} {Q : Exit → Act → World → Prop} (hnd : ∀ (i : Nat) (o : Oper), ops[i]? = some o → ∀ c, o.op ≠ .defer c) : ∀ (ls : List Nat) (a : Act) (w : World), wpOpsIn F n P ops Q ls a w → wpOpsIn (F.inRound l) n P ops Q ls a w := by
  intro ls
  induction ls with
  | nil => exact fun _ _ h => h
  | cons i r ih =>
    intro a w h
    simp only [wpOpsIn] at h ⊢
    cases ho : ops[i]? with
    | none =>
      simp only [ho] at h ⊢
      exact ih a w h
    | some o =>
      simp only [ho] at h ⊢
      by_cases hw : Region.wanted o (yielded ops a.tmps) = true
      · simp only [hw, if_true] at h ⊢
        exact op_round (hnd i o ho) (Oper.wpIn_mono (fun a w h => ih a w h) h)
      · simp only [hw] at h ⊢
        exact ⟨h.1, ih _ _ h.2⟩
theorem wpIn_region_round {F : Fence} {n l : Nat} {P : Program} {id : Nat} {Q : Exit → Act → World → Prop} {a : Act} {w : World} {ls : List Oper} (hro : F.round = none) (hnd : ∀ o ∈ ls, ∀ c, o.op ≠ .defer c) (hm : P.follows .mixedOrders = true) (hB : Region.lexB .any ls.toArray = true)
    (h : wpQuietIn F n P ls.toArray (fun w' => ∃ n, w' = w.drewN n) (fun a' => ∀ w', (∃ n, w' = w.drewN n) → Q .normal a' w') ls a) : (Code.region id ls.toArray true).wpIn (F.inRound l) n P Q a w := by
  simp only [Region.lexB, Bool.and_eq_true] at hB
  refine wpIn_region_draw fun t => ?_
  have h1 := wpAnyQIn_lex (F := F) (n := n) (C := fun w' => ∃ n, w' = w.drewN n) (md := .any) hB.1 ls 0 (Array.replicate ls.length false) a (by simp) (by simpa using hB.2) h
  have h2 := wpAnyIn_of_quiet (Q' := Q) hro (fun a' w' hw' h => h w' hw') _ _ _ { w with drawn := w.drawn + 1 } ⟨1, rfl⟩ h1
  have h3 := wpAnyIn_sound _ t _ a _ h2
  simp only [Region.schedule, hm, Bool.true_or, if_true]
  refine ops_round (fun i o hi c => ?_) _ _ _ ?_
  · have : o ∈ ls := by
      rw [List.getElem?_toArray] at hi
      exact List.mem_of_getElem? hi
    exact hnd o this c
  · simpa [Region.linearise] using h3

end Go.Proofs.YthpkfgjjaieikaaGreatDoor
