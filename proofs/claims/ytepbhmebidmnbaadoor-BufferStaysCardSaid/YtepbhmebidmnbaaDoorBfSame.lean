/-
  Same: two slices of runes; SameEdit; a box and what it keeps.
-/
import Derived.Test.YtepbhmebidmnbaaDoorBfLive
namespace Go.Proofs.YtepbhmebidmnbaaDoor
open Go.RowKit Go.Shelf Go.Lib
attribute [local go_sem] Oper.semAt_some

theorem take_eq_succ {x y : List Int} {k : Nat} (h : x.take k = y.take k) (hx : k < x.length) (hy : k < y.length) (he : x[k] = y[k]) : x.take (k + 1) = y.take (k + 1) := by
  rw [List.take_succ_eq_append_getElem hx, List.take_succ_eq_append_getElem hy, h, he]
theorem ne_at {x y : List Int} {k : Nat} (hx : k < x.length) (hy : k < y.length) (he : ¬ x[k] = y[k]) : decide (x = y) = false := by
  rw [decide_eq_false_iff_not]
  rintro rfl
  exact he rfl
set_option maxRecDepth 1000000 in
set_option maxHeartbeats 4000000 in
theorem same_any (w : World) (x y : List Int) (v u : Value) (hx : Holds1 w v (runeVals x)) (hy : Holds1 w u (runeVals y)) (hlen : x.length ≤ 140737488355328) :
    Calls Tryd.prog 33 #[v, u] w fun e w' => e = .returned (.bool (decide (x = y))) ∧ Below w.heap.size w w' := by
  obtain ⟨A, c, rfl, _⟩ := id hx
  obtain ⟨A2, c2, rfl, _⟩ := id hy
  rw [runeVals_length] at hx hy ⊢
  rw [runeVals_length]
  by_cases hl : x.length = y.length
  · have HX := Lib.hid hx
    have HY := Lib.hid hy
    have HL := Lib.hid hl
    have HLEN := Lib.hid hlen
    rw [hl]
    generalize hn : y.length = n at *
    have HN := Lib.hid hn
    clear hn hl hx hy hlen
    go_enter Tryd.func33, Tryd.ntmps33
    go_wp2
    go_loopw [5] (fun i wr => ∃ k : Nat, k ≤ n ∧ i = .int .i64 k ∧ x.take k = y.take k ∧ Below w.heap.size w wr) (fun i _ => n - (RowKit.intOf i).toNat)
    case atStart => exact ⟨0, Nat.zero_le _, rfl, rfl, Below.refl _ _⟩
    case round =>
      obtain ⟨k, hk, rfl, ht, hb⟩ := hrel
      have HT := Lib.hid ht
      have HB := Lib.hid hb
      by_cases hlt : k < n
      · have hkx : k < x.length := by rw [HL.out]; exact hlt
        have hky : k < y.length := by rw [HN.out]; exact hlt
        have q1 := HX.out.below hb
        have q2 := HY.out.below hb
        rw [← HN.out] at q2
        obtain ⟨b1, o1, rfl, _, hc1⟩ := rune_cell q1 hkx
        obtain ⟨b2, o2, rfl, _, hc2⟩ := rune_cell q2 hky
        have HS : Hid (x[k] = y[k] → x.take (k + 1) = y.take (k + 1)) := Lib.hid fun he => take_eq_succ ht hkx hky he
        have HE : Hid (¬ x[k] = y[k] → decide (x = y) = false) := Lib.hid fun he => ne_at hkx hky he
        have i1 : (0 : Int) ≤ (k : Int) := by omega
        have i2 : ((k : Int) < (n : Int)) = True := by simp; exact hlt
        have hwk : wrap64 ((k : Int) + 1) = (k : Int) + 1 := by have := HLEN.out; have := HL.out; unfold wrap64; omega
        have HKN := Lib.hid hlt
        clear q1 q2 hk ht hb hlt
        generalize x[k] = r1 at *
        generalize y[k] = r2 at *
        clear hkx hky
        by_cases he : r1 = r2
        · have HS2 := Lib.hid (HS.out he)
          subst he
          go_wp2
          go_region
          go_wp2
          go_roundw
          case rel => exact ⟨k + 1, HKN.out, next_val hwk, HS2.out, HB.out.trans ((Below.refl _ _).drew.mono HB.out.size)⟩
          case measure => exact measure_lt HKN.out hwk
        · have HE2 := Lib.hid (HE.out he)
          have i3 : (r1 == r2) = false := by simpa using he
          have i4 : (r1 = r2) = False := by simpa using he
          go_wp2
          go_region
          go_wp2
          go_ret
          exact ⟨by rw [HE2.out]; rfl, HB.out.trans ((Below.refl _ _).drew.mono HB.out.size)⟩
      · obtain rfl : k = n := by omega
        have i2 : ((k : Int) < (k : Int)) = False := by simp
        have HD : Hid (decide (x = y) = true) := Lib.hid (by
          rw [decide_eq_true_iff]
          rw [List.take_of_length_le (by rw [HL.out]; exact Nat.le_refl _), List.take_of_length_le (by rw [HN.out]; exact Nat.le_refl _)] at ht
          exact ht)
        clear hlt hk ht hb
        go_wp2
        go_ret
        exact ⟨by rw [HD.out]; rfl, HB.out⟩
  · have HD : Hid (decide (x = y) = false) := Lib.hid (by
      rw [decide_eq_false_iff_not]
      rintro rfl
      exact hl rfl)
    have i1 : ((x.length : Int) == (y.length : Int)) = false := by simp; omega
    have i2 : ((x.length : Int) = (y.length : Int)) = False := by simp; omega
    have i3 : (x.length = y.length) = False := by simp; omega
    generalize x.length = n at *
    generalize y.length = m at *
    clear hl hx hy hlen
    go_enter Tryd.func33, Tryd.ntmps33
    go_wp2
    go_ret
    exact ⟨by rw [HD.out]; rfl, Below.refl _ _⟩
end Go.Proofs.YtepbhmebidmnbaaDoor
