/-
  slices.Equal at any two slices of integers.
-/
import Derived.Test.YtmmlaaigcnkomaaDoorVpAskW
import Derived.Test.YtmmlaaigcnkomaaDoorVpBoundW
import Derived.Deep.QuietTactic
import Derived.BigQuiet
namespace Go.Proofs.YtmmlaaigcnkomaaDoor
open Go.RowKit Go.Shelf Go.Lib
attribute [local go_sem] Oper.semAt_some

theorem take_step {α} (l m : List α) (k : Nat) (x : α) (h : l.take k = m.take k) (h1 : l[k]? = some x) (h2 : m[k]? = some x) : l.take (k + 1) = m.take (k + 1) := by
  rw [List.take_add_one, List.take_add_one, h, h1, h2]
theorem ne_at {α} (l m : List α) (k : Nat) (x y : α) (h : x ≠ y) (h1 : l[k]? = some x) (h2 : m[k]? = some y) : l ≠ m := fun e => by
  subst e
  rw [h1] at h2
  exact h (Option.some.inj h2)
def EqI (l m : List Int) (w : World) (i : Value) (wr : World) : Prop := ∃ k : Nat, k ≤ l.length ∧ l.take k = m.take k ∧ i = .int .i64 k ∧ Below w.heap.size w wr
set_option maxHeartbeats 1000000 in
theorem equal_ints (l m : List Int) (v v' : Value) (w : World) (hv : Holds1 w v (intVals l)) (hv' : Holds1 w v' (intVals m)) (hl : l.length ≤ 9223372036854775807) :
    Calls Tryd.prog 61 #[v, v'] w fun e w' => e = .returned (.bool (decide (l = m))) ∧ Below w.heap.size w w' := by
  have HV := Lib.hid hv
  have HV' := Lib.hid hv'
  obtain ⟨A, c, e1, hc, h⟩ := hv
  obtain ⟨A', c', e2, hc', h'⟩ := hv'
  rw [intVals_length] at e1 e2
  subst e1 e2
  clear h h' hc hc'
  by_cases hn : l.length = m.length
  · have n1 : ((l.length : Int) = (m.length : Int)) = True := eq_true (by omega)
    have HL := Lib.hid hl
    have HN := Lib.hid hn
    clear hl hn
    have HV1 : Hid (Holds1 w (.slice A l.length c) (intVals l)) := HV
    have HV2 : Hid (Holds1 w (.slice A' m.length c') (intVals m)) := HV'
    clear HV HV'
    go_enter Tryd.func61, Tryd.ntmps61
    rw [← HN.out]
    go_wp2
    go_loopw [13] (fun i wr => EqI l m w i wr) (fun i _ => l.length - (RowKit.intOf i).toNat)
    case atStart => exact ⟨0, by omega, rfl, rfl, Below.refl _ _⟩
    case round =>
      obtain ⟨k, hk, ht, rfl, hb⟩ := hrel
      by_cases hlt : k < l.length
      · obtain ⟨x, hx⟩ : ∃ x, l[k]? = some x := ⟨_, List.getElem?_eq_getElem hlt⟩
        obtain ⟨y, hy⟩ : ∃ y, m[k]? = some y := ⟨_, List.getElem?_eq_getElem (by rw [← HN.out]; exact hlt)⟩
        obtain ⟨A5, c5, e5, _, hc5⟩ := HV1.out.below hb
        obtain ⟨A6, c6, e6, _, hc6⟩ := HV2.out.below hb
        rw [intVals_length] at e5 e6 hc5 hc6
        injection e5 with e1 e2 e3
        subst e1 e3
        clear e2
        injection e6 with e1 e2 e3
        subst e1 e3
        clear e2
        obtain ⟨b5, o5, rfl, _, hc5⟩ := hc5 (by omega)
        obtain ⟨b6, o6, rfl, _, hc6⟩ := hc6 (by have := HN.out; omega)
        have l5 := hc5 k (.int .i64 x) (by simp [intVals, hx])
        have l6 := hc6 k (.int .i64 y) (by simp [intVals, hy])
        have j1 : (0 : Int) ≤ (k : Int) := by omega
        have j2 : ((k : Int) < (l.length : Int)) = True := by simp; exact hlt
        have hwk : wrap64 ((k : Int) + 1) = (k : Int) + 1 := by have := HL.out; unfold wrap64; omega
        have HB := Lib.hid hb
        have HT := Lib.hid ht
        have HLT := Lib.hid hlt
        have HX := Lib.hid hx
        have HY := Lib.hid hy
        clear hc5 hc6 hb ht hlt hk hx hy
        by_cases hxy : x = y
        · subst hxy
          go_wp2
          go_region
          go_wp2
          go_roundw
          case rel => exact ⟨k + 1, HLT.out, take_step l m k x HT.out HX.out HY.out, next_val hwk, HB.out.drew⟩
          case measure => exact measure_lt HLT.out hwk
        · have n2 : (x != y) = true := bne_iff_ne.2 hxy
          have HE : Hid (decide (l = m) = false) := Lib.hid (decide_eq_false (ne_at l m k x y hxy HX.out HY.out))
          clear hxy
          go_wp2
          go_region
          go_wp2
          go_ret
          exact ⟨by rw [HE.out]; rfl, HB.out.drew⟩
      · obtain rfl : k = l.length := by omega
        have j2 : ((l.length : Int) < (l.length : Int)) = False := by simp
        have HE : Hid (decide (l = m) = true) := Lib.hid (decide_eq_true (by
          have h := ht
          rw [List.take_length] at h
          rw [h, HN.out, List.take_length]))
        clear hlt hk ht
        go_wp2
        go_ret
        exact ⟨by rw [HE.out]; rfl, hb⟩
  · have n1 : ((l.length : Int) != (m.length : Int)) = true := bne_iff_ne.2 (by omega)
    have n2 : ((l.length : Int) = (m.length : Int)) = False := eq_false (by omega)
    have HE : Hid (decide (l = m) = false) := Lib.hid (decide_eq_false (fun e => hn (by rw [e])))
    clear hn hl HV HV'
    go_enter Tryd.func61, Tryd.ntmps61
    go_wp2
    go_ret
    exact ⟨by rw [HE.out]; rfl, Below.refl _ _⟩
end Go.Proofs.YtmmlaaigcnkomaaDoor
