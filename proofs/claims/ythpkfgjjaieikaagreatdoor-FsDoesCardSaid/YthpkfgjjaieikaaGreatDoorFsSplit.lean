/-
  strings.SplitSeq at one slash: the iterator that it returns gives the names between slashes, in turn.
-/
import Derived.Test.YthpkfgjjaieikaaGreatDoorRange
import Derived.Test.YthpkfgjjaieikaaGreatDoorFsP
import Derived.Test.YthpkfgjjaieikaaGreatDoorFsLay
import Derived.Shelf.Abstract
import Derived.Shelf.RegionOpen
import Derived.WalkKit
import Derived.OwnWalkIn
import Derived.TacticsInMore
import Derived.LoopNIn
import Derived.LoopIn
import Derived.Lib.Hide
import Derived.WalkSpells
namespace Go.Proofs.YthpkfgjjaieikaaGreatDoor
open Go.RowKit Go.Shelf Go.Lib
attribute [local go_sem] Oper.semAt_some

/-- a list of bytes as a string -/
abbrev str (l : List UInt8) : Value := .string ⟨l.toArray⟩

theorem index_one (s : ByteArray) (w : World) :
    Calls Tryz.prog 209 #[.string s, .string ⟨#[47]⟩] w fun e w' => e = .returned (.int .i64 (indexByte s.data.toList 47)) ∧ w = w' := (Any.strings_Index_one Tryz.layIndex s 47 w).mono fun _ _ ⟨h1, h2⟩ => ⟨h1, h2.symm⟩

/-- a cell in a box -/
def Box (w : World) (b : Nat) (v : Value) (t : TypeId) : Prop := w.heap[b]? = some (.cells #[v] t (0, 0))
theorem Box.cell {w : World} {b : Nat} {v : Value} {t : TypeId} (h : Box w b v t) : w.cell? ⟨b, 0, none⟩ = some v := cell_of_row w b 0 _ _ _ h
theorem Box.frozen {w : World} {b : Nat} {v : Value} {t : TypeId} (h : Box w b v t) : w.frozen? ⟨b, 0, none⟩ = false := frozen_of_row w b 0 _ _ h
theorem Box.lt {w : World} {b : Nat} {v : Value} {t : TypeId} (h : Box w b v t) : b < w.heap.size := (Array.getElem?_eq_some_iff.1 h).1
theorem Box.set {w : World} {b : Nat} {v : Value} {t : TypeId} (h : Box w b v t) (u : Value) : Box (w.setCell ⟨b, 0, none⟩ u) b u t := heap_setCell_same w b 0 _ _ _ h
theorem Box.same {w w' : World} {b : Nat} {v : Value} {t : TypeId} (h : Box w b v t) (e : w'.heap[b]? = w.heap[b]?) : Box w' b v t := e.trans h
theorem Box.other {w : World} {b c : Nat} {v u : Value} {t : TypeId} (h : Box w b v t) (hn : b ≠ c) : Box (w.setCell ⟨c, 0, none⟩ u) b v t := h.same (Below.heap_setCell w ⟨c, 0, none⟩ u b hn)

theorem take_str (l : List UInt8) (i : Nat) : (⟨l.toArray⟩ : ByteArray).extract 0 i = ⟨(l.take i).toArray⟩ := by
  apply ByteArray.ext
  rw [ByteArray.data_extract]
  simp
theorem drop_str (l : List UInt8) (i : Nat) : (⟨l.toArray⟩ : ByteArray).extract i l.length = ⟨(l.drop i).toArray⟩ := by
  apply ByteArray.ext
  rw [ByteArray.data_extract]
  simp
  exact List.take_of_length_le (by simp)
theorem names_at {l : List (List UInt8)} {k : Nat} {x : List UInt8} {t : List (List UInt8)} (h : l.drop k = x :: t) : (l.map str)[k]? = some (str x) := by
  have e : l[k]? = some x := by rw [← Nat.add_zero k, ← List.getElem?_drop, h]; rfl
  rw [List.getElem?_map, e]; rfl
theorem names_len {l : List (List UInt8)} {k : Nat} {x : List UInt8} (h : l.drop k = [x]) : l.length = k + 1 := by
  have := congrArg List.length h
  rw [List.length_drop] at this
  simp at this
  omega
theorem names_next {l : List (List UInt8)} {k : Nat} {x : List UInt8} {t : List (List UInt8)} (h : l.drop k = x :: t) : l.drop (k + 1) = t := by
  rw [← List.drop_drop, h]; rfl

/-- the three boxes of the iterator -/
def Boxes (b : Nat) (k : Nat) : Prop := k = b ∨ k = b + 1 ∨ k = b + 2
def strLen : Value → Nat | .string s => s.size | _ => 0
/-- between two rounds -/
def SplitRel (r : List UInt8) (b : Nat) (J : Nat → World → Prop) (wr : World) : Prop :=
  ∃ (k : Nat) (rest : List UInt8), (names r).drop k = names rest ∧ rest.length ≤ r.length ∧ Box wr b (str rest) 9 ∧ Box wr (b + 1) (str [47]) 9 ∧ Box wr (b + 2) (.int .i64 0) 3 ∧ J k wr

set_option maxHeartbeats 2000000 in
theorem split_iter (r : List UInt8) (hr : r.length ≤ 1024) (b : Nat) (w : World) (h1 : Box w b (str r) 9) (h2 : Box w (b + 1) (str [47]) 9) (h3 : Box w (b + 2) (.int .i64 0) 3) :
    Iter Tryz.prog 207 #[.pointer (some ⟨b + 1, 0, none⟩), .pointer (some ⟨b, 0, none⟩), .pointer (some ⟨b + 2, 0, none⟩)] (Boxes b) ((names r).map str) w := by
  intro n l J Jx W hs hJ hJx hY h0
  have hrel0 : SplitRel r b J W := ⟨0, r, rfl, Nat.le_refl _, h1.same (hs.block _ (.inl rfl)), h2.same (hs.block _ (.inr (.inl rfl))), h3.same (hs.block _ (.inr (.inr rfl))), h0⟩
  have HR := Lib.hid hrel0
  have hc2 := (h2.same (hs.block _ (.inr (.inl rfl)))).cell
  have HJ := Lib.hid hJ
  have HJX := Lib.hid hJx
  have HY := Lib.hid hY
  clear h1 h2 h3 hs h0 hJ hJx hY hrel0
  refine callsIn_of_wp Tryz.func207 rfl trivial ?_ rfl
  simp only [Tryz.ntmps207, List.size_toArray, List.length_cons, List.length_nil, Nat.reduceAdd, Nat.reduceSub, Array.replicate_succ, Array.replicate_zero, List.push_toArray, List.append_toArray, List.nil_append, List.cons_append]
  have hfI : Fence.wide.fn 209 := trivial
  have hdep : Fence.wide.depth.isSome = false := rfl
  gi_wp2_with fail
  gi_loopw [7] (fun _ wr => SplitRel r b J wr) (fun _ wr => strLen ((wr.cell? ⟨b, 0, none⟩).getD (.int .i64 0)))
  case atStart => exact HR.out
  case round =>
    obtain ⟨k, rest, hn, hl, b1, b2, b3, hj⟩ := hrel
    have c1 := b1.cell
    have c2 := b2.cell
    have c3 := b3.cell
    have f1 := b1.frozen
    have HN := Lib.hid hn
    have HJ0 := Lib.hid hj
    clear hn hj
    have hge := indexByte_ge rest 47
    by_cases hi : indexByte rest 47 = -1
    · have hns := names_none hi
      have hlast : (names r).drop k = [rest] := HN.out.trans hns
      have hx : ((names r).map str)[k]? = some (str rest) := names_at hlast
      have hlen : (names r).length = k + 1 := names_len hlast
      obtain ⟨fn, tmps, assign, body, hy, hR⟩ := HY.out k (str rest) wr hx HJ0.out
      have HR := Lib.hid hR
      have HL := Lib.hid hlen
      clear hns hlast hx hR hlen hge
      gi_wp2_with (gi_at_call 209; refine (callsIn_wide.2 (index_one _ _)).mono ?_; rintro e w' ⟨rfl, rfl⟩)
      refine (HR.out).mono ?_
      rintro e W3 (⟨rfl, hJ3, hk3⟩ | ⟨rfl, hJx3⟩)
      · gi_wp2_with fail
        go_end0
        exact ⟨⟨_, rfl⟩, .inl (by rw [List.length_map, HL.out]; exact hJ3)⟩
      · gi_wp2_with fail
        go_end0
        exact ⟨⟨_, rfl⟩, .inr hJx3⟩
    · obtain ⟨i, hI⟩ : ∃ i : Nat, indexByte rest 47 = i := ⟨(indexByte rest 47).toNat, by omega⟩
      have hns := names_some hI
      have hil := index_lt hI
      have hstep := HN.out.trans hns
      have hx : ((names r).map str)[k]? = some (.string ((⟨rest.toArray⟩ : ByteArray).extract 0 i)) := by rw [take_str]; exact names_at hstep
      obtain ⟨fn, tmps, assign, body, hy, hR⟩ := HY.out k _ wr hx HJ0.out
      have HR := Lib.hid hR
      have HS := Lib.hid (names_next hstep)
      clear hns hx hR hstep hge hi
      gi_wp2_with (gi_at_call 209; refine (callsIn_wide.2 (index_one _ _)).mono ?_; rintro e w' ⟨rfl, rfl⟩)
      refine (HR.out).mono ?_
      rintro e W3 (⟨rfl, hJ3, hk3⟩ | ⟨rfl, hJx3⟩)
      · have b1' : Box W3 b (str rest) 9 := b1.same (hk3.block _ (.inl rfl))
        have b2' : Box W3 (b + 1) (str [47]) 9 := b2.same (hk3.block _ (.inr (.inl rfl)))
        have b3' : Box W3 (b + 2) (.int .i64 0) 3 := b3.same (hk3.block _ (.inr (.inr rfl)))
        have c1' := b1'.cell
        have c2' := b2'.cell
        have f1' := b1'.frozen
        have HJ3 := Lib.hid hJ3
        clear hJ3 hk3
        gi_wp2_with fail
        go_roundw
        case rel =>
          refine ⟨k + 1, rest.drop (i + 1), HS.out, ?_, ?_, b2'.other (by omega), b3'.other (by omega), HJ.out _ _ _ HJ3.out (Touch.setCell _ _ _ (.inl rfl))⟩
          · rw [List.length_drop]; omega
          · rw [drop_str]; exact b1'.set _
        case measure =>
          rw [(b1'.set _).cell, c1, drop_str]
          simp [strLen, ByteArray.size]
          omega
      · gi_wp2_with fail
        refine bodyPost_ret (results_none rfl _ _ _) rfl ?_
        exact ⟨⟨_, rfl⟩, .inr hJx3⟩

end Go.Proofs.YthpkfgjjaieikaaGreatDoor
