/-
  What Ground, All and Param answer.
-/
import Derived.Test.YtjoiagaadofndaaDoorVpPutAll
namespace Go.Proofs.YtjoiagaadofndaaDoor
open Go.RowKit Go.Shelf Go.Lib
attribute [local go_sem] Oper.semAt_some

theorem ActRow.less {W : World} {B B' : Nat} {v : Value} {al : List ActD} (h : ActRow W B v al) (hB : B' ≤ B) : ActRow W B' v al := by
  obtain ⟨xs, h1, h2, h3⟩ := h
  exact ⟨xs, h1, own_less h2 hB, fun x hx => own_less (h3 x hx) hB⟩
theorem only_below {w W W' : World} {g : Nat} (hb : Below w.heap.size w W) (ht : Touch (Only g) W W') (hg : w.heap.size ≤ g) : Below w.heap.size w W' :=
  hb.trans (ht.below hb.size fun k hk => by simp only [Only] at hk; omega)
theorem HoldsOff.of {w w' : World} {g : Nat} {v : Value} {s : List UInt8} (h : Holds1 w v (byteVals s)) (hb : Below w.heap.size w w') (hg : w.heap.size ≤ g) : HoldsOff w' g v s := by
  refine ⟨h.below hb, fun hl b off n c e hne => ?_⟩
  obtain ⟨A, c', hv, _, hc⟩ := h
  obtain ⟨b0, off0, hA, hlt, _⟩ := hc (by rw [byteVals_length]; exact hl)
  subst hA
  rw [hv] at e
  injection e with e1 e2 e3
  injection e1 with e1
  injection e1 with e1 e4
  omega
theorem ParAt.pending {w : World} {g : Nat} {S : PS} (h : ParAt w g S) : Calls Tryd.prog 37 #[.pointer (some ⟨g, 2, none⟩)] w fun e w' => e = .returned (.int .i64 S.held.length) ∧ w = w' := by
  obtain ⟨R, ok, hR, rfl⟩ := h
  have hl : (PS.of R).held.length = R.n := by
    show (heldOf R.h0 R.h1 R.h2 R.n).length = R.n
    have := ok.n3
    simp [heldOf]
    omega
  rw [hl]
  exact pending_any g R w hR
set_option maxRecDepth 1000000 in
set_option maxHeartbeats 1000000 in
theorem ground_of (w : World) (g : Nat) (S : PS) (h : ParAt w g S) : Calls Tryd.prog 20 #[.pointer (some ⟨g, 0, none⟩)] w fun e w' => e = .returned (.bool (groundP S)) ∧ w = w' := by
  have CU := Lib.hid (usableP_any w g S h)
  have CP := Lib.hid h.pending
  have c1 := h.st
  clear h
  by_cases hs : S.st = 0
  · rw [hs] at c1
    by_cases hh : S.held = []
    · have e : groundP S = true := by simp [groundP, hs, hh]
      rw [e]
      rw [hh] at CP
      clear e hs hh
      go_enter Tryd.func20, Tryd.ntmps20
      go_wp2_with (first
        | (go_at_call 34; refine (CU.out).mono ?_; rintro e w' ⟨rfl, rfl⟩)
        | (go_at_call 37; refine (CP.out).mono ?_; rintro e w' ⟨rfl, rfl⟩))
      go_ret
      exact ⟨rfl, rfl⟩
    · have e : groundP S = false := by simp [groundP, hh]
      rw [e]
      have hne : ((S.held.length : Int) == 0) = false := beq_eq_false_iff_ne.2 (by have := List.length_pos_iff.2 hh; omega)
      clear e hs hh
      generalize S.held.length = n at *
      go_enter Tryd.func20, Tryd.ntmps20
      go_wp2_with (first
        | (go_at_call 34; refine (CU.out).mono ?_; rintro e w' ⟨rfl, rfl⟩)
        | (go_at_call 37; refine (CP.out).mono ?_; rintro e w' ⟨rfl, rfl⟩))
      go_ret
      exact ⟨rfl, rfl⟩
  · have e : groundP S = false := by simp [groundP, hs]
    rw [e]
    have hne : ((S.st : Int) == 0) = false := beq_eq_false_iff_ne.2 (by omega)
    clear e hs
    go_enter Tryd.func20, Tryd.ntmps20
    go_wp2_with (first
      | (go_at_call 34; refine (CU.out).mono ?_; rintro e w' ⟨rfl, rfl⟩)
      | (go_at_call 37; refine (CP.out).mono ?_; rintro e w' ⟨rfl, rfl⟩))
    go_ret
    exact ⟨rfl, rfl⟩
set_option maxRecDepth 1000000 in
theorem groundN_any (w : World) : Calls Tryd.prog 20 #[.pointer none] w fun e w' => e = .returned (.bool false) ∧ w = w' := by
  have CU := Lib.hid (usableN_any w)
  go_enter Tryd.func20, Tryd.ntmps20
  go_wp2_with (go_at_call 34; refine (CU.out).mono ?_; rintro e w' ⟨rfl, rfl⟩)
  go_ret
  exact ⟨rfl, rfl⟩
set_option maxRecDepth 1000000 in
theorem putN_any (v : Value) (w : World) : Calls Tryd.prog 18 #[.pointer none, v] w fun e w' => e = .returned (.slice none 0 0) ∧ w = w' := by
  have CU := Lib.hid (usableN_any w)
  go_enter Tryd.func18, Tryd.ntmps18
  go_wp2_with (go_at_call 34; refine (CU.out).mono ?_; rintro e w' ⟨rfl, rfl⟩)
  go_ret
  exact ⟨rfl, rfl⟩
set_option maxRecDepth 1000000 in
theorem resetN_any (w : World) : Calls Tryd.prog 22 #[.pointer none] w fun e w' => e = .returned (.tuple #[]) ∧ w = w' := by
  have CU := Lib.hid (usableN_any w)
  go_enter Tryd.func22, Tryd.ntmps22
  go_wp2_with (go_at_call 34; refine (CU.out).mono ?_; rintro e w' ⟨rfl, rfl⟩)
  go_end0
  exact ⟨rfl, rfl⟩

def AllPost (w : World) (bs : List UInt8) (e : Ending) (w' : World) : Prop := ∃ v', e = .returned v' ∧ ActRow w' w.heap.size v' (allP bs) ∧ Below w.heap.size w w'
set_option maxRecDepth 1000000 in
set_option maxHeartbeats 1000000 in
theorem all_any (w : World) (bs : List UInt8) (bv : Value) (hT : Tabs w) (hv : Holds1 w bv (byteVals bs)) (hlen : bs.length ≤ 200000000) (hmany : ((putPS ps0 bs).2).length ≤ 900000000) : Calls Tryd.prog 14 #[bv] w (AllPost w bs) := by
  have CN := Lib.hid (new_any w)
  have CP : Hid (∀ w1 g, ParAt w1 g ps0 → w.heap.size ≤ g → Below w.heap.size w w1 → Calls Tryd.prog 18 #[.pointer (some ⟨g, 0, none⟩), bv] w1 (PutAPost w1 g ps0 bs)) := Lib.hid fun w1 g hp hg hb => putP_any w1 g ps0 bs bv (hT.below hb) hp (Nat.le_trans hT.size hg) (HoldsOff.of hv hb hg) hlen
  have CF : Hid (∀ W g, ParAt W g (putPS ps0 bs).1 → Below w.heap.size w W → Calls Tryd.prog 30 #[.pointer (some ⟨g, 2, none⟩)] W fun e w' => ∃ r, e = .returned r ∧ w'.ownsRow W.heap.size 21 1 r (decAll (putPS ps0 bs).1.held).length (runeVals (decAll (putPS ps0 bs).1.held)) ∧ ParAt w' g { (putPS ps0 bs).1 with held := [] } ∧ Touch (Only g) W w') := Lib.hid fun W g hp hb => hp.flushDec (hT.below hb)
  have HL := Lib.hid hmany
  have HA : Hid (allP bs = (putPS ps0 bs).2 ++ printsP (decAll (putPS ps0 bs).1.held)) := Lib.hid rfl
  have HD : Hid (∀ W g, ParAt W g (putPS ps0 bs).1 → (decAll (putPS ps0 bs).1.held).length ≤ 3) := Lib.hid fun W g hp => Nat.le_trans (decAll_le _) hp.shortHeld
  clear hT hv hlen hmany
  unfold AllPost
  generalize allP bs = L at *
  unfold PutAPost at CP
  generalize putPS ps0 bs = q at *
  generalize decAll q.1.held = rs at *
  go_enter Tryd.func14, Tryd.ntmps14
  go_wp2_with (first
    | (go_at_call 16; refine (CN.out).mono ?_; rintro e w1 ⟨g, rfl, hp1, hg1, hb1⟩; have HP1 := Lib.hid hp1; have HG := Lib.hid hg1; have HB1 := Lib.hid hb1; have HGL := Lib.hid hp1.lt; clear hp1 hg1 hb1)
    | (go_at_call 18; refine (CP.out _ _ HP1.out HG.out HB1.out).mono ?_; rintro e w2 ⟨v2, rfl, hr2, hp2, ht2⟩; have HR2 := Lib.hid hr2; have HP2 := Lib.hid hp2; have HT2 := Lib.hid ht2; have HB2 := Lib.hid (only_below HB1.out ht2 HG.out); clear hr2 hp2 ht2)
    | (go_at_call 30; refine (CF.out _ _ HP2.out HB2.out).mono ?_; rintro e w3 ⟨r3, rfl, hr3, hp3, ht3⟩; have HR3 := Lib.hid (HR2.out.only ht3 HGL.out); have HQ3 := Lib.hid hr3; have HB3 := Lib.hid (only_below HB2.out ht3 HG.out); have HS3 := Lib.hid (Nat.le_trans HT2.out.size ht3.size); clear hr3 hp3 ht3)
    | (go_at_call 29; refine (addPrints_any w3 w1.heap.size _ v2 r3 q.2 rs HR3.out HQ3.out HS3.out (by have := HD.out _ _ HP2.out; have := HL.out; omega)).mono ?_; rintro e w4 ⟨v4, rfl, hr4, hb4⟩; have HR4 := Lib.hid hr4; have HB4 := Lib.hid (HB3.out.trans (hb4.mono HB1.out.size)); clear hr4 hb4))
  go_ret
  refine ⟨_, rfl, ?_, HB4.out⟩
  rw [HA.out]
  exact HR4.out.less HB1.out.size
end Go.Proofs.YtjoiagaadofndaaDoor
