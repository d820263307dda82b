/-
  Words for every text over package tinfo: strings, boxes of one cell, parts of lists. No program is walked here, and nothing is assumed.
-/
import Derived.Test.YtcfgppjhgobboaaGreatDoorRange
import Derived.Test.YtcfgppjhgobboaaGreatDoorProg
import Derived.Shelf.Abstract
import Derived.Shelf.RegionOpen
import Derived.WalkKit
import Derived.OwnWalkIn
import Derived.TacticsInMore
import Derived.LoopNIn
import Derived.LoopIn
import Derived.Lib.Hide
import Derived.Lib.IndexLaws
import Derived.WalkSpells
namespace Go.Proofs.YtcfgppjhgobboaaGreatDoor
open Go.RowKit Go.Shelf Go.Lib

/-- a list of bytes as a string -/
abbrev str (l : List UInt8) : Value := .string ⟨l.toArray⟩

/-- a cell in a box -/
def Box (w : World) (b : Nat) (v : Value) (t : TypeId) : Prop := w.heap[b]? = some (.cells #[v] t (0, 0))
theorem Box.cell {w : World} {b : Nat} {v : Value} {t : TypeId} (h : Box w b v t) : w.cell? ⟨b, 0, none⟩ = some v := cell_of_row w b 0 _ _ _ h
theorem Box.frozen {w : World} {b : Nat} {v : Value} {t : TypeId} (h : Box w b v t) : w.frozen? ⟨b, 0, none⟩ = false := frozen_of_row w b 0 _ _ h
theorem Box.lt {w : World} {b : Nat} {v : Value} {t : TypeId} (h : Box w b v t) : b < w.heap.size := (Array.getElem?_eq_some_iff.1 h).1
theorem Box.set {w : World} {b : Nat} {v : Value} {t : TypeId} (h : Box w b v t) (u : Value) : Box (w.setCell ⟨b, 0, none⟩ u) b u t := heap_setCell_same w b 0 _ _ _ h
theorem Box.same {w w' : World} {b : Nat} {v : Value} {t : TypeId} (h : Box w b v t) (e : w'.heap[b]? = w.heap[b]?) : Box w' b v t := e.trans h
theorem Box.other {w : World} {b c : Nat} {v u : Value} {t : TypeId} (h : Box w b v t) (hn : b ≠ c) : Box (w.setCell ⟨c, 0, none⟩ u) b v t := h.same (Below.heap_setCell w ⟨c, 0, none⟩ u b hn)

theorem take_str (l : List UInt8) (i : Nat) : (⟨l.toArray⟩ : ByteArray).extract 0 i = ⟨(l.take i).toArray⟩ := by
  apply ByteArray.ext
  rw [ByteArray.data_extract]
  simp
theorem drop_str (l : List UInt8) (i : Nat) : (⟨l.toArray⟩ : ByteArray).extract i l.length = ⟨(l.drop i).toArray⟩ := by
  apply ByteArray.ext
  rw [ByteArray.data_extract]
  simp
  exact List.take_of_length_le (by simp)
theorem names_at {l : List (List UInt8)} {k : Nat} {x : List UInt8} {t : List (List UInt8)} (h : l.drop k = x :: t) : (l.map str)[k]? = some (str x) := by
  have e : l[k]? = some x := by rw [← Nat.add_zero k, ← List.getElem?_drop, h]; rfl
  rw [List.getElem?_map, e]; rfl
theorem names_len {l : List (List UInt8)} {k : Nat} {x : List UInt8} (h : l.drop k = [x]) : l.length = k + 1 := by
  have := congrArg List.length h
  rw [List.length_drop] at this
  simp at this
  omega
theorem names_next {l : List (List UInt8)} {k : Nat} {x : List UInt8} {t : List (List UInt8)} (h : l.drop k = x :: t) : l.drop (k + 1) = t := by
  rw [← List.drop_drop, h]; rfl

/-- the three boxes of the iterator -/
def Boxes (b : Nat) (k : Nat) : Prop := k = b ∨ k = b + 1 ∨ k = b + 2
def strLen : Value → Nat | .string s => s.size | _ => 0

end Go.Proofs.YtcfgppjhgobboaaGreatDoor
