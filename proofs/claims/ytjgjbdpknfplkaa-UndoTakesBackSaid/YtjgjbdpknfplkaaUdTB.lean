/-
  A script of steps is done to a line: one step.
-/
import Derived.Test.YtjgjbdpknfplkaaUdWas
import Derived.Test.YtjgjbdpknfplkaaUdArg2
import Derived.Test.YtjgjbdpknfplkaaUdAdd
import Derived.Deep.Cut
namespace Go.Proofs.Ytjgjbdpknfplkaa
open Go.RowKit Go.Shelf Go.Lib
attribute [local go_sem] Oper.semAt_some

/-- between two steps -/
structure TBI (w0 : World) (g : Nat) (line : List Int) (n : Nat) (nv wv ov iv : Value) (wr : World) (k : Nat) (K : Nat → Prop) (gs : List (List Ed)) (opn : Nat) (joins : Bool) (now : List Int) (ws : List (List Int)) : Prop where
  le : k ≤ n
  i : iv = .int .i64 k
  o : ov = .bool (decide (opn = 1))
  one : opn ≤ 1
  j : joins = true → opn = 1
  ts : TS w0 wr g K ⟨gs, opn, joins⟩ nv now wv ws
  rel : Rel gs now ws.reverse line
  len : now.length ≤ 1024
theorem SBox.keep {W W' : World} {r : Nat} {v : Array Value} (h : SBox W r v) (hk : W'.heap[r]? = W.heap[r]?) : SBox W' r v := hk.trans h
theorem SBox.lt {W : World} {r : Nat} {v : Array Value} (h : SBox W r v) : r < W.heap.size := (Array.getElem?_eq_some_iff.1 h).1
theorem SBox.touch {W W' : World} {g r : Nat} {v : Array Value} (h : SBox W r v) (ht : Touch (Only g) W W') (hg : g < r) : SBox W' r v := h.keep (ht.block r h.lt fun e => by simp only [Only] at e; omega)
/-- what a step makes of the line -/
structure StepF (now : List Int) (s : StepP) (x : Ed) : Prop where
  f : InvF now s x
  i : s.ins = x.i
  p : ¬ x.p < 0
theorem StepF.of {now : List Int} {s : StepP} (hl : now.length ≤ 1024) (hi : s.ins.length ≤ 35184372087808) : StepF now s (stepEd now s) :=
  ⟨InvF.of (by omega) hi, rfl, by show ¬ ((stepAt now.length s.at' : Nat) : Int) < 0; omega⟩
theorem add_zero {S : LS} {x : Ed} (hp : ¬ x.p < 0) (he : 0 < x.d.length + x.i.length) (hm : many S.gs < 16384) : addErr S x = 0 ∧ addS S x = ⟨pushG S.gs x S.joins, S.opn, decide (0 < S.opn)⟩ := by
  have h : addErr S x = 0 := by
    unfold addErr emptyE
    rw [if_neg, if_neg (by omega)]
    rintro (h | h)
    · rw [decide_eq_true_iff] at h
      omega
    · exact hp h
  exact ⟨h, by unfold addS; rw [if_pos h]⟩
theorem add_three {S : LS} {x : Ed} (hp : ¬ x.p < 0) (he : 0 < x.d.length + x.i.length) (hm : many S.gs = 16384) : addErr S x = 3 := by
  unfold addErr emptyE
  rw [if_neg, if_pos hm]
  rintro (h | h)
  · rw [decide_eq_true_iff] at h
    omega
  · exact hp h
theorem push_len {gs : List (List Ed)} {x : Ed} {j : Bool} (hj : j = true → gs ≠ []) : (pushG gs x j).length = if j = true then gs.length else gs.length + 1 := by
  cases j with
  | false => rfl
  | true =>
    cases gs with
    | nil => exact absurd rfl (hj rfl)
    | cons g r => rfl
theorem end_is {S : LS} (h : S.opn = 1) : endS S = ⟨S.gs, 0, false⟩ := by unfold endS; rw [if_neg (by rw [h]; decide), if_pos h]

end Go.Proofs.Ytjgjbdpknfplkaa
