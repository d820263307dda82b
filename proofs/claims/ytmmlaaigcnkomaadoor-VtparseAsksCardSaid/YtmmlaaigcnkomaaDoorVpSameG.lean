/-
  The program's Same at any two lists of actions.
-/
import Derived.Test.YtmmlaaigcnkomaaDoorVpSameE
namespace Go.Proofs.YtmmlaaigcnkomaaDoor
open Go.RowKit Go.Shelf Go.Lib
attribute [local go_sem] Oper.semAt_some

/-- a slice of actions that lie in memory, whatever else lies beside them -/
def HoldsZ (w : World) (v : Value) (al : List ActZ) : Prop :=
  ∃ A c, v = .slice A al.length c ∧ al.length ≤ 9223372036854775807 ∧ (0 < al.length → ∃ b off, A = some ⟨b, off, none⟩ ∧ b < w.heap.size ∧ ∀ k x, al[k]? = some x → ∃ pv, Holds1 w pv (intVals x.ps) ∧ x.ps.length ≤ 9223372036854775807 ∧
    w.cell? ⟨b, off + k * 7, none⟩ = some (.int .i64 x.kind) ∧ w.cell? ⟨b, off + k * 7 + 1, none⟩ = some (.int .i32 x.rune) ∧ w.cell? ⟨b, off + k * 7 + 2, none⟩ = some (.int .u8 x.fin.toNat) ∧ w.cell? ⟨b, off + k * 7 + 3, none⟩ = some (.int .u8 x.priv.toNat) ∧ w.cell? ⟨b, off + k * 7 + 4, none⟩ = some pv ∧ w.cell? ⟨b, off + k * 7 + 5, none⟩ = some (str x.inter) ∧ w.cell? ⟨b, off + k * 7 + 6, none⟩ = some (str x.text))
theorem HoldsZ.below {w w' : World} {v : Value} {al : List ActZ} (h : HoldsZ w v al) (hb : Below w.heap.size w w') : HoldsZ w' v al := by
  obtain ⟨A, c, hv, hl, h⟩ := h
  refine ⟨A, c, hv, hl, fun hp => ?_⟩
  obtain ⟨b, off, hA, hlt, hc⟩ := h hp
  refine ⟨b, off, hA, Nat.lt_of_lt_of_le hlt hb.size, fun k x hx => ?_⟩
  obtain ⟨pv, h1, h2, k0, k1, k2, k3, k4, k5, k6⟩ := hc k x hx
  exact ⟨pv, h1.below hb, h2, (hb.cell hlt).trans k0, (hb.cell hlt).trans k1, (hb.cell hlt).trans k2, (hb.cell hlt).trans k3, (hb.cell hlt).trans k4, (hb.cell hlt).trans k5, (hb.cell hlt).trans k6⟩
def EqZ (l m : List ActZ) (w : World) (i : Value) (wr : World) : Prop := ∃ k : Nat, k ≤ l.length ∧ l.take k = m.take k ∧ i = .int .i64 k ∧ Below w.heap.size w wr
set_option maxRecDepth 1000000 in
set_option maxHeartbeats 2000000 in
theorem equalFunc_acts (l m : List ActZ) (v v' : Value) (w : World) (hv : HoldsZ w v l) (hv' : HoldsZ w v' m) :
    Calls Tryd.prog 41 #[v, v', .func (.func 42) #[] #[]] w fun e w' => e = .returned (.bool (decide (l = m))) ∧ Below w.heap.size w w' := by
  have HV := Lib.hid hv
  have HV' := Lib.hid hv'
  obtain ⟨A, c, e1, hl, h⟩ := hv
  obtain ⟨A', c', e2, hl', h'⟩ := hv'
  subst e1 e2
  clear h h' hl'
  by_cases hn : l.length = m.length
  · have n1 : ((l.length : Int) = (m.length : Int)) = True := eq_true (by omega)
    have HL := Lib.hid hl
    have HN := Lib.hid hn
    clear hl hn
    have HV1 : Hid (HoldsZ w (.slice A l.length c) l) := HV
    have HV2 : Hid (HoldsZ w (.slice A' m.length c') m) := HV'
    clear HV HV'
    go_enter Tryd.func41, Tryd.ntmps41
    rw [← HN.out]
    go_wp2
    go_loopw [17] (fun i wr => EqZ l m w i wr) (fun i _ => l.length - (RowKit.intOf i).toNat)
    case atStart => exact ⟨0, by omega, rfl, rfl, Below.refl _ _⟩
    case round =>
      obtain ⟨k, hk, ht, rfl, hb⟩ := hrel
      by_cases hlt : k < l.length
      · obtain ⟨x, hx⟩ : ∃ x, l[k]? = some x := ⟨_, List.getElem?_eq_getElem hlt⟩
        obtain ⟨y, hy⟩ : ∃ y, m[k]? = some y := ⟨_, List.getElem?_eq_getElem (by rw [← HN.out]; exact hlt)⟩
        obtain ⟨A5, c5, e5, _, hc5⟩ := HV1.out.below hb
        obtain ⟨A6, c6, e6, _, hc6⟩ := HV2.out.below hb
        injection e5 with e1 e2 e3
        subst e1 e3
        clear e2
        injection e6 with e1 e2 e3
        subst e1 e3
        clear e2
        obtain ⟨b5, o5, rfl, hlt5, hc5⟩ := hc5 (by omega)
        obtain ⟨b6, o6, rfl, hlt6, hc6⟩ := hc6 (by have := HN.out; omega)
        obtain ⟨pv, hp, hpl, k0, k1, k2, k3, k4, k5, k6⟩ := hc5 k x hx
        obtain ⟨qv, hq, hql, m0, m1, m2, m3, m4, m5, m6⟩ := hc6 k y hy
        have hp' := hp
        have hq' := hq
        obtain ⟨Ap, cp, rfl, _⟩ := hp'
        obtain ⟨Aq, cq, rfl, _⟩ := hq'
        have j1 : (0 : Int) ≤ (k : Int) := by omega
        have j2 : ((k : Int) < (l.length : Int)) = True := eq_true (by omega)
        have hwk : wrap64 ((k : Int) + 1) = (k : Int) + 1 := by have := HL.out; unfold wrap64; omega
        have CS := Lib.hid fun W (hb1 : Below wr.heap.size wr W) => sameAction_any W x y _ _ (hp.below hb1) (hq.below hb1) hpl
        have HB := Lib.hid hb
        have HT := Lib.hid ht
        have HLT := Lib.hid hlt
        have HX := Lib.hid hx
        have HY := Lib.hid hy
        clear hc5 hc6 hb ht hlt hk hx hy hp hq hpl hql
        by_cases hxy : x = y
        · have HXY : Hid (decide (x = y) = true) := Lib.hid (decide_eq_true hxy)
          have HY2 : Hid (m[k]? = some x) := Lib.hid (by rw [hxy]; exact HY.out)
          unfold SameV at CS
          rw [HXY.out] at CS
          clear hxy HXY HY
          go_wp2_with (first
            | (go_at_call 42; refine (CS.out _ (two_below wr _ _)).mono ?_; rintro e w1 ⟨rfl, hb1⟩; replace hb1 := Lib.hid ((two_below wr _ _).trans (hb1.mono (two_below wr _ _).size))))
          go_roundw
          case rel => exact ⟨k + 1, HLT.out, take_step l m k x HT.out HX.out HY2.out, next_val hwk, HB.out.trans (hb1.out.mono HB.out.size)⟩
          case measure => exact measure_lt HLT.out hwk
        · have HXY : Hid (decide (x = y) = false) := Lib.hid (decide_eq_false hxy)
          have HE : Hid (decide (l = m) = false) := Lib.hid (decide_eq_false (ne_at l m k x y hxy HX.out HY.out))
          unfold SameV at CS
          rw [HXY.out] at CS
          clear hxy HXY
          go_wp2_with (first
            | (go_at_call 42; refine (CS.out _ (two_below wr _ _)).mono ?_; rintro e w1 ⟨rfl, hb1⟩; replace hb1 := Lib.hid ((two_below wr _ _).trans (hb1.mono (two_below wr _ _).size))))
          go_ret
          exact ⟨by rw [HE.out]; rfl, HB.out.trans (hb1.out.mono HB.out.size)⟩
      · obtain rfl : k = l.length := by omega
        have j2 : ((l.length : Int) < (l.length : Int)) = False := by simp
        have HE : Hid (decide (l = m) = true) := Lib.hid (decide_eq_true (by
          have h := ht
          rw [List.take_length] at h
          rw [h, HN.out, List.take_length]))
        clear hlt hk ht
        go_wp2
        go_ret
        exact ⟨by rw [HE.out]; rfl, hb⟩
  · have n1 : ((l.length : Int) != (m.length : Int)) = true := bne_iff_ne.2 (by omega)
    have n2 : ((l.length : Int) = (m.length : Int)) = False := eq_false (by omega)
    have HE : Hid (decide (l = m) = false) := Lib.hid (decide_eq_false (fun e => hn (by rw [e])))
    clear hn hl HV HV'
    go_enter Tryd.func41, Tryd.ntmps41
    go_wp2
    go_ret
    exact ⟨by rw [HE.out]; rfl, Below.refl _ _⟩
set_option maxRecDepth 1000000 in
set_option maxHeartbeats 2000000 in
theorem same_any (l m : List ActZ) (v v' : Value) (w : World) (hv : HoldsZ w v l) (hv' : HoldsZ w v' m) :
    Calls Tryd.prog 28 #[v, v'] w fun e w' => e = .returned (.bool (decide (l = m))) ∧ Below w.heap.size w w' := by
  have CE := Lib.hid (equalFunc_acts l m v v' w hv hv')
  clear hv hv'
  go_enter Tryd.func28, Tryd.ntmps28
  go_wp2_with (first
    | (go_at_call 41; refine CE.out.mono ?_; rintro e w1 ⟨rfl, hb1⟩))
  go_ret
  exact ⟨rfl, hb1⟩
end Go.Proofs.YtmmlaaigcnkomaaDoor
