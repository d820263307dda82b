/-
  Equal, SameEdit, SameLine, Reverse, Apply.
-/
import Derived.Test.YtepbhmebidmnbaaDoorBfCut
namespace Go.Proofs.YtepbhmebidmnbaaDoor
open Go.RowKit Go.Shelf Go.Lib
attribute [local go_sem] Oper.semAt_some

set_option maxRecDepth 1000000 in
set_option maxHeartbeats 4000000 in
theorem equal_any (w : World) (x y : List Int) (v u : Value) (hx : Holds1 w v (runeVals x)) (hy : Holds1 w u (runeVals y)) (hlen : x.length ≤ 140737488355328) :
    Calls Tryd.prog 73 #[v, u] w fun e w' => e = .returned (.bool (decide (x = y))) ∧ Below w.heap.size w w' := by
  obtain ⟨A, c, rfl, _⟩ := id hx
  obtain ⟨A2, c2, rfl, _⟩ := id hy
  rw [runeVals_length] at hx hy ⊢
  rw [runeVals_length]
  by_cases hl : x.length = y.length
  · have HX := Lib.hid hx
    have HY := Lib.hid hy
    have HL := Lib.hid hl
    have HLEN := Lib.hid hlen
    rw [hl]
    generalize hn : y.length = n at *
    have HN := Lib.hid hn
    clear hn hl hx hy hlen
    go_enter Tryd.func73, Tryd.ntmps73
    go_wp2
    go_loopw [13] (fun i wr => ∃ k : Nat, k ≤ n ∧ i = .int .i64 k ∧ x.take k = y.take k ∧ Below w.heap.size w wr) (fun i _ => n - (RowKit.intOf i).toNat)
    case atStart => exact ⟨0, Nat.zero_le _, rfl, rfl, Below.refl _ _⟩
    case round =>
      obtain ⟨k, hk, rfl, ht, hb⟩ := hrel
      have HT := Lib.hid ht
      have HB := Lib.hid hb
      by_cases hlt : k < n
      · have hkx : k < x.length := by rw [HL.out]; exact hlt
        have hky : k < y.length := by rw [HN.out]; exact hlt
        have q1 := HX.out.below hb
        have q2 := HY.out.below hb
        rw [← HN.out] at q2
        obtain ⟨b1, o1, rfl, _, hc1⟩ := rune_cell q1 hkx
        obtain ⟨b2, o2, rfl, _, hc2⟩ := rune_cell q2 hky
        have HS : Hid (x[k] = y[k] → x.take (k + 1) = y.take (k + 1)) := Lib.hid fun he => take_eq_succ ht hkx hky he
        have HE : Hid (¬ x[k] = y[k] → decide (x = y) = false) := Lib.hid fun he => ne_at hkx hky he
        have i1 : (0 : Int) ≤ (k : Int) := by omega
        have i2 : ((k : Int) < (n : Int)) = True := by simp; exact hlt
        have hwk : wrap64 ((k : Int) + 1) = (k : Int) + 1 := by have := HLEN.out; have := HL.out; unfold wrap64; omega
        have HKN := Lib.hid hlt
        clear q1 q2 hk ht hb hlt
        generalize x[k] = r1 at *
        generalize y[k] = r2 at *
        clear hkx hky
        by_cases he : r1 = r2
        · have HS2 := Lib.hid (HS.out he)
          subst he
          go_wp2
          go_region
          go_wp2
          go_roundw
          case rel => exact ⟨k + 1, HKN.out, next_val hwk, HS2.out, HB.out.trans ((Below.refl _ _).drew.mono HB.out.size)⟩
          case measure => exact measure_lt HKN.out hwk
        · have HE2 := Lib.hid (HE.out he)
          have i3 : (r1 == r2) = false := by simpa using he
          have i4 : (r1 = r2) = False := by simpa using he
          go_wp2
          go_region
          go_wp2
          go_ret
          exact ⟨by rw [HE2.out]; rfl, HB.out.trans ((Below.refl _ _).drew.mono HB.out.size)⟩
      · obtain rfl : k = n := by omega
        have i2 : ((k : Int) < (k : Int)) = False := by simp
        have HD : Hid (decide (x = y) = true) := Lib.hid (by
          rw [decide_eq_true_iff]
          rw [List.take_of_length_le (by rw [HL.out]; exact Nat.le_refl _), List.take_of_length_le (by rw [HN.out]; exact Nat.le_refl _)] at ht
          exact ht)
        clear hlt hk ht hb
        go_wp2
        go_ret
        exact ⟨by rw [HD.out]; rfl, HB.out⟩
  · have HD : Hid (decide (x = y) = false) := Lib.hid (by
      rw [decide_eq_false_iff_not]
      rintro rfl
      exact hl rfl)
    have i1 : ((x.length : Int) == (y.length : Int)) = false := by simp; omega
    have i2 : ((x.length : Int) = (y.length : Int)) = False := by simp; omega
    have i3 : (x.length = y.length) = False := by simp; omega
    generalize x.length = n at *
    generalize y.length = m at *
    clear hl hx hy hlen
    go_enter Tryd.func73, Tryd.ntmps73
    go_wp2
    go_ret
    exact ⟨by rw [HD.out]; rfl, Below.refl _ _⟩

set_option maxRecDepth 1000000 in
set_option maxHeartbeats 4000000 in
theorem sameEdit_eq (w : World) (p : Int) (x y : List Int) (v1 v2 u1 u2 : Value) (h1 : Holds1 w v1 (runeVals x)) (h2 : Holds1 w v2 (runeVals y)) (k1 : Holds1 w u1 (runeVals x)) (k2 : Holds1 w u2 (runeVals y)) (hx : x.length ≤ 140737488355328) (hy : y.length ≤ 140737488355328) :
    Calls Tryd.prog 38 #[editV p v1 v2, editV p u1 u2] w fun e w' => e = .returned (.bool true) ∧ Below w.heap.size w w' := by
  obtain ⟨A1, c1, e1, _⟩ := id h1
  obtain ⟨A2, c2, e2, _⟩ := id h2
  obtain ⟨A3, c3, e3, _⟩ := id k1
  obtain ⟨A4, c4, e4, _⟩ := id k2
  obtain ⟨w1, hw1⟩ : ∃ w1, w1 = (w.alloc (.cells #[.int .i64 p, v1, v2] 33)).alloc (.cells #[.int .i64 p, u1, u2] 33) := ⟨_, rfl⟩
  have b1 : Below w.heap.size w (w.alloc (.cells #[.int .i64 p, v1, v2] 33)) := (Below.refl _ _).alloc (Nat.le_refl _) _
  have b2 : Below (w.alloc (.cells #[.int .i64 p, v1, v2] 33)).heap.size (w.alloc (.cells #[.int .i64 p, v1, v2] 33)) w1 := by rw [hw1]; exact (Below.refl _ _).alloc (Nat.le_refl _) _
  have B := Lib.hid (b1.trans (b2.mono b1.size))
  have X : Hid (EBox w1 w.heap.size #[.int .i64 p, v1, v2]) := Lib.hid (EBox.below (alloc_new _ _) b2)
  have Y : Hid (EBox w1 (w.heap.size + 1) #[.int .i64 p, u1, u2]) := Lib.hid (by
    have := alloc_new (w.alloc (.cells #[.int .i64 p, v1, v2] 33)) (.cells #[.int .i64 p, u1, u2] 33)
    rw [← hw1] at this
    rw [show (w.alloc (.cells #[.int .i64 p, v1, v2] 33)).heap.size = w.heap.size + 1 by simp] at this
    exact this)
  have C1 : Hid (∀ W, Below w.heap.size w W → Calls Tryd.prog 33 #[v1, u1] W fun e w' => e = .returned (.bool true) ∧ Below W.heap.size W w') := Lib.hid fun W hb => (same_any W x x v1 u1 (h1.below hb) (k1.below hb) hx).mono (by
    rintro e w' ⟨rfl, h⟩
    exact ⟨by rw [decide_eq_true rfl], h⟩)
  have C2 : Hid (∀ W, Below w.heap.size w W → Calls Tryd.prog 33 #[v2, u2] W fun e w' => e = .returned (.bool true) ∧ Below W.heap.size W w') := Lib.hid fun W hb => (same_any W y y v2 u2 (h2.below hb) (k2.below hb) hy).mono (by
    rintro e w' ⟨rfl, h⟩
    exact ⟨by rw [decide_eq_true rfl], h⟩)
  have x0 := X.out.cell 0
  have x1 := X.out.cell 1
  have y0 := Y.out.cell 0
  have y1 := Y.out.cell 1
  have HW1 := Lib.hid hw1
  have tok1 : True := trivial
  clear h1 h2 k1 k2 b1 b2 hw1 hx hy
  subst e1 e2 e3 e4
  generalize (runeVals x).length = n1 at *
  generalize (runeVals y).length = n2 at *
  go_enter Tryd.func38, Tryd.ntmps38
  go_wp2_with fail
  rw [← HW1.out]
  go_wp2_with (first
    | (go_at_call 33; have tk := tok1; refine (C1.out _ B.out).mono ?_; rintro e w2 ⟨rfl, hb⟩; have B := Lib.hid (B.out.trans (hb.mono B.out.size)); have X := Lib.hid (X.out.below hb); have Y := Lib.hid (Y.out.below hb); have x2 := X.out.cell 2; have y2 := Y.out.cell 2; have tok2 : True := trivial; clear hb tk tok1)
    | (go_at_call 33; have tk := tok2; refine (C2.out _ B.out).mono ?_; rintro e w3 ⟨rfl, hb⟩; have B := Lib.hid (B.out.trans (hb.mono B.out.size)); clear hb tk tok2))
  go_ret
  exact ⟨rfl, B.out⟩
/-- a line in a box of its own -/
def LBox (W : World) (r : Nat) (v : Array Value) : Prop := W.heap[r]? = some (.cells v 55 (0, 0))
theorem LBox.below {W W' : World} {r : Nat} {v : Array Value} (h : LBox W r v) (hb : Below W.heap.size W W') : LBox W' r v := (hb.block r (Array.getElem?_eq_some_iff.1 h).1).trans h
theorem LBox.cell {W : World} {r : Nat} {v : Array Value} (h : LBox W r v) (k : Nat) : W.cell? ⟨r, k, none⟩ = v[k]? := cell_of_row W r k _ _ _ h
set_option maxRecDepth 1000000 in
set_option maxHeartbeats 4000000 in
theorem sameLine_eq (w : World) (p m : Int) (x : List Int) (v u : Value) (h1 : Holds1 w v (runeVals x)) (k1 : Holds1 w u (runeVals x)) (hx : x.length ≤ 140737488355328) :
    Calls Tryd.prog 44 #[lineV v p m, lineV u p m] w fun e w' => e = .returned (.bool true) ∧ Below w.heap.size w w' := by
  obtain ⟨A1, c1, e1, _⟩ := id h1
  obtain ⟨A3, c3, e3, _⟩ := id k1
  obtain ⟨w1, hw1⟩ : ∃ w1, w1 = (w.alloc (.cells #[v, .int .i64 p, .int .i64 m] 55)).alloc (.cells #[u, .int .i64 p, .int .i64 m] 55) := ⟨_, rfl⟩
  have b1 : Below w.heap.size w (w.alloc (.cells #[v, .int .i64 p, .int .i64 m] 55)) := (Below.refl _ _).alloc (Nat.le_refl _) _
  have b2 : Below (w.alloc (.cells #[v, .int .i64 p, .int .i64 m] 55)).heap.size (w.alloc (.cells #[v, .int .i64 p, .int .i64 m] 55)) w1 := by rw [hw1]; exact (Below.refl _ _).alloc (Nat.le_refl _) _
  have B := Lib.hid (b1.trans (b2.mono b1.size))
  have X : Hid (LBox w1 w.heap.size #[v, .int .i64 p, .int .i64 m]) := Lib.hid (LBox.below (alloc_new _ _) b2)
  have Y : Hid (LBox w1 (w.heap.size + 1) #[u, .int .i64 p, .int .i64 m]) := Lib.hid (by
    have := alloc_new (w.alloc (.cells #[v, .int .i64 p, .int .i64 m] 55)) (.cells #[u, .int .i64 p, .int .i64 m] 55)
    rw [← hw1] at this
    rw [show (w.alloc (.cells #[v, .int .i64 p, .int .i64 m] 55)).heap.size = w.heap.size + 1 by simp] at this
    exact this)
  have C1 : Hid (∀ W, Below w.heap.size w W → Calls Tryd.prog 33 #[v, u] W fun e w' => e = .returned (.bool true) ∧ Below W.heap.size W w') := Lib.hid fun W hb => (same_any W x x v u (h1.below hb) (k1.below hb) hx).mono (by
    rintro e w' ⟨rfl, h⟩
    exact ⟨by rw [decide_eq_true rfl], h⟩)
  have x0 := X.out.cell 0
  have y0 := Y.out.cell 0
  have HW1 := Lib.hid hw1
  clear h1 k1 b1 b2 hw1 hx
  subst e1 e3
  generalize (runeVals x).length = n1 at *
  go_enter Tryd.func44, Tryd.ntmps44
  go_wp2_with fail
  rw [← HW1.out]
  go_wp2_with (first
    | (go_at_call 33; refine (C1.out _ B.out).mono ?_; rintro e w2 ⟨rfl, hb⟩; have B := Lib.hid (B.out.trans (hb.mono B.out.size)); have X := Lib.hid (X.out.below hb); have Y := Lib.hid (Y.out.below hb); have x1 := X.out.cell 1; have y1 := Y.out.cell 1; have x2 := X.out.cell 2; have y2 := Y.out.cell 2; clear hb))
  go_ret
  exact ⟨rfl, B.out⟩
end Go.Proofs.YtepbhmebidmnbaaDoor
