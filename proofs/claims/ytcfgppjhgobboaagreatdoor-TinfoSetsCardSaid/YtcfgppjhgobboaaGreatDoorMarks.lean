/-
  A loop whose rounds hold a range over a function: each leaves a mark in the frame; the law for such a loop, and for the function's end. No program is walked here, and nothing is assumed.
-/
import Derived.Test.YtcfgppjhgobboaaGreatDoorRange
import Derived.LoopNIn
namespace Go.Proofs.YtcfgppjhgobboaaGreatDoor
open Go.RowKit

/-- a loop of at most N rounds, whatever it does to the frame -/
theorem wpIn_loop_inv {F : Fence} {n : Nat} {P : Program} {Q : Exit → Act → World → Prop} {a : Act} {w : World} {c : Code} (N : Nat) (I : Nat → Act → World → Prop) (h0 : I 0 a w)
    (hround : ∀ k A W, k ≤ N → I k A W → c.wpIn F n P (Exit.then (fun A' W' => k < N ∧ I (k + 1) A' W') Q) A W) : (Code.loop c).wpIn F n P Q a w := by
  refine wpIn_loop_rounds (N + 1) ?_
  have key : ∀ m k A W, m + k = N → I k A W → Code.roundsIn F n P c Q (m + 1) A W := by
    intro m
    induction m with
    | zero =>
      intro k A W hk hi
      rw [roundsIn_succ]
      refine wpIn_mono (hround k A W (by omega) hi) ?_
      intro e A' W' h
      cases e with
      | normal => exact absurd h.1 (by omega)
      | _ => exact h
    | succ m ih =>
      intro k A W hk hi
      rw [roundsIn_succ]
      refine wpIn_mono (hround k A W (by omega) hi) ?_
      intro e A' W' h
      cases e with
      | normal => exact ih (k + 1) A' W' (by omega) h.2
      | _ => exact h
  exact key N 0 a w (by omega) h0

/-- the marks that the loops have left: their blocks lie from base on -/
def markOf (b : Nat) : Deferred := { target := .collected b, args := #[] }
def Marks (base : Nat) (ds : List Deferred) (W : World) : Prop := ∃ bs : List Nat, ds = bs.map markOf ∧ bs.Nodup ∧ ∀ b ∈ bs, base ≤ b ∧ W.heap[b]? = some (.deferred (some []))
theorem Marks.nil (base : Nat) (W : World) : Marks base [] W := ⟨[], rfl, List.nodup_nil, fun _ h => by cases h⟩
theorem Marks.cons {base b : Nat} {ds : List Deferred} {W : World} (h : Marks base ds W) (hb : base ≤ b) (hh : W.heap[b]? = some (.deferred (some []))) (hn : ∀ c, ds = c → markOf b ∉ c) : Marks base (markOf b :: ds) W := by
  obtain ⟨bs, rfl, h2, h3⟩ := h
  refine ⟨b :: bs, rfl, List.nodup_cons.2 ⟨fun hm => hn _ rfl (List.mem_map_of_mem hm), h2⟩, fun c hc => ?_⟩
  rcases List.mem_cons.1 hc with rfl | hc
  · exact ⟨hb, hh⟩
  · exact h3 c hc
theorem Marks.lt {base b : Nat} {ds : List Deferred} {W : World} (h : Marks base ds W) (hm : markOf b ∈ ds) : b < W.heap.size := by
  obtain ⟨bs, rfl, _, h3⟩ := h
  obtain ⟨c, hc, e⟩ := List.mem_map.1 hm
  have e' : c = b := by simpa [markOf] using e
  subst e'
  exact (Array.getElem?_eq_some_iff.1 (h3 c hc).2).1
theorem Marks.same {base : Nat} {ds : List Deferred} {W W' : World} (h : Marks base ds W) (hs : ∀ b, markOf b ∈ ds → W'.heap[b]? = W.heap[b]?) : Marks base ds W' := by
  obtain ⟨bs, rfl, h2, h3⟩ := h
  exact ⟨bs, rfl, h2, fun b hb => ⟨(h3 b hb).1, (hs b (List.mem_map_of_mem hb)).trans (h3 b hb).2⟩⟩
/-- on its way out a frame takes its marks, one by one: only their blocks turn -/
theorem leaves_marks {F : Fence} {n : Nat} {P : Program} {fn : Func} {tmps : Array Value} {R : Ending → World → Prop} {base : Nat} {ds : List Deferred} {W : World} (h : Marks base ds W)
    (hK : ∀ W', Touch (fun k => base ≤ k) W W' → LeavesInM F n P fn tmps R [] .returning W') : LeavesInM F n P fn tmps R ds .returning W := by
  obtain ⟨bs, rfl, h2, h3⟩ := h
  induction bs generalizing W with
  | nil => exact hK W (Touch.refl _ _)
  | cons b bs ih =>
    obtain ⟨hb, hh⟩ := h3 b List.mem_cons_self
    obtain ⟨hnb, hnd⟩ := List.nodup_cons.1 h2
    refine ⟨by simp, .inl ⟨b, W.putObj b (.deferred none), rfl, run_takeDeferred hh, ?_⟩⟩
    refine ih (fun W' ht => hK W' ((Touch.putObj _ _ _ hb).trans ht)) hnd fun c hc => ?_
    obtain ⟨hc1, hc2⟩ := h3 c (List.mem_cons_of_mem _ hc)
    exact ⟨hc1, (World.putObj_heap_other (by rintro rfl; exact hnb hc)).trans hc2⟩

end Go.Proofs.YtcfgppjhgobboaaGreatDoor
