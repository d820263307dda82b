/-
  A region that draws its order, whatever it does, inside a round of a range over a function. No program is walked here, and nothing is assumed.
-/
import Derived.Test.YtcfgppjhgobboaaGreatDoorRange
import Derived.OrdersIn
import Derived.OwnWalkIn
namespace Go.Proofs.YtcfgppjhgobboaaGreatDoor
open Go

theorem op_round {F : Fence} {n l : Nat} {P : Program} {o : Oper} {a : Act} {w : World} {K : Act → World → Prop} {Q : Exit → Act → World → Prop} (hnd : ∀ c, o.op ≠ .defer c) (h : o.wpIn F n P a w K Q) : o.wpIn (F.inRound l) n P a w K Q := by
  refine ⟨h.1, ?_⟩
  have h2 := h.2
  rw [Oper.semAt_plain _ _ _ hnd] at h2 ⊢
  generalize (execOp a.eval o).run P w = res at h2 ⊢
  cases res with
  | ok x w' => cases x <;> exact h2
  | halt x w' => cases x <;> exact h2
theorem ops_round {F : Fence} {n l : Nat} {P : Program} {ops : Array Oper} {Q : Exit → Act → World → Prop} (hnd : ∀ (i : Nat) (o : Oper), ops[i]? = some o → ∀ c, o.op ≠ .defer c) : ∀ (ls : List Nat) (a : Act) (w : World), wpOpsIn F n P ops Q ls a w → wpOpsIn (F.inRound l) n P ops Q ls a w := by
  intro ls
  induction ls with
  | nil => exact fun _ _ h => h
  | cons i r ih =>
    intro a w h
    simp only [wpOpsIn] at h ⊢
    cases ho : ops[i]? with
    | none =>
      simp only [ho] at h ⊢
      exact ih a w h
    | some o =>
      simp only [ho] at h ⊢
      by_cases hw : Region.wanted o (yielded ops a.tmps) = true
      · simp only [hw, if_true] at h ⊢
        exact op_round (hnd i o ho) (Oper.wpIn_mono (fun a w h => ih a w h) h)
      · simp only [hw] at h ⊢
        exact ⟨h.1, ih _ _ h.2⟩
theorem wpIn_region_any_round {F : Fence} {n l : Nat} {P : Program} {id : Nat} {Q : Exit → Act → World → Prop} {a : Act} {w : World} {ls : List Oper} (hnd : ∀ o ∈ ls, ∀ c, o.op ≠ .defer c) (hm : P.follows .mixedOrders = true)
    (h : wpAnyIn F n P .any ls.toArray Q ls.length (Array.replicate ls.length false) a w.drew) : (Code.region id ls.toArray true).wpIn (F.inRound l) n P Q a w := by
  refine wpIn_region_draw fun t => ?_
  have h3 := wpAnyIn_sound _ t _ a _ h
  simp only [Region.schedule, hm, Bool.true_or, if_true]
  refine ops_round (fun i o hi c => ?_) _ _ _ ?_
  · rw [List.getElem?_toArray] at hi
    exact hnd o (List.mem_of_getElem? hi) c
  · simpa [Region.linearise] using h3

end Go.Proofs.YtcfgppjhgobboaaGreatDoor
