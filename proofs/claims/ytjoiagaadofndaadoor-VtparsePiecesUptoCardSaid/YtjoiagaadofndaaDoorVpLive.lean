/-
  What Param answers; the law's check that the program lives.
-/
import Derived.Test.YtjoiagaadofndaaDoorVpAll
import Derived.Lib.SlBytesConst
namespace Go.Proofs.YtjoiagaadofndaaDoor
open Go.RowKit Go.Shelf Go.Lib
attribute [local go_sem] Oper.semAt_some

def paramP (ps : List Int) (i other : Int) : Int := if i < 0 ∨ (ps.length : Int) ≤ i then other else if ps.getD i.toNat 0 = -1 ∨ ps.getD i.toNat 0 = 0 then other else ps.getD i.toNat 0

set_option maxRecDepth 1000000 in
set_option maxHeartbeats 1000000 in
theorem param_any (w : World) (a : ActD) (pv : Value) (i other : Int) (hp : Holds1 w pv (intVals a.ps)) (hb : -9223372036854775808 ≤ i ∧ i ≤ 9223372036854775807) : Calls Tryd.prog 26 #[actVal a pv, .int .i64 i, .int .i64 other] w fun e w' => e = .returned (.int .i64 (paramP a.ps i other)) ∧ Below w.heap.size w w' := by
  obtain ⟨A, c, hv, _, hc⟩ := hp
  rw [intVals_length] at hv hc
  subst hv
  by_cases h0 : i < 0
  · have HE : Hid (paramP a.ps i other = other) := Lib.hid (by unfold paramP; rw [if_pos (.inl h0)])
    have i0 : (i < 0) = True := by simp; exact h0
    clear h0 hc hb
    go_enter Tryd.func26, Tryd.ntmps26
    go_wp2
    go_ret
    exact ⟨by rw [HE.out]; rfl, (Below.refl _ _).alloc (Nat.le_refl _) _⟩
  have i0 : (i < 0) = False := by simp; omega
  by_cases h1 : (a.ps.length : Int) ≤ i
  · have HE : Hid (paramP a.ps i other = other) := Lib.hid (by unfold paramP; rw [if_pos (.inr h1)])
    have i1 : ((a.ps.length : Int) ≤ i) = True := by simp; exact h1
    clear h0 h1 hc hb
    go_enter Tryd.func26, Tryd.ntmps26
    go_wp2
    go_ret
    exact ⟨by rw [HE.out]; rfl, (Below.refl _ _).alloc (Nat.le_refl _) _⟩
  have i1 : ((a.ps.length : Int) ≤ i) = False := by simp; omega
  obtain ⟨k, rfl⟩ : ∃ k : Nat, i = k := ⟨i.toNat, by omega⟩
  have hk : k < a.ps.length := by omega
  obtain ⟨b, off, rfl, hlt, hcell⟩ := hc (by omega)
  have hx : a.ps[k]? = some a.ps[k] := List.getElem?_eq_getElem hk
  have hl0 : w.cell? ⟨b, off + k, none⟩ = some (.int .i64 a.ps[k]) := hcell k _ (by simp [intVals, hx])
  have HE : Hid (paramP a.ps (k : Int) other = if a.ps[k] = -1 ∨ a.ps[k] = 0 then other else a.ps[k]) := Lib.hid (by
    unfold paramP
    rw [if_neg (by omega), show ((k : Int)).toNat = k by omega, List.getD_eq_getElem?_getD, hx]
    rfl)
  have j0 : (0 : Int) ≤ (k : Int) := by omega
  have j1 : ((k : Int) < (a.ps.length : Int)) = True := by simp; exact hk
  have hbl := hlt
  generalize a.ps[k] = x at *
  generalize a.ps.length = n at *
  clear hc hcell h0 h1 hk hx hb
  by_cases hx1 : x = -1
  · have HE2 : Hid (paramP a.ps (k : Int) other = other) := Lib.hid (by rw [HE.out, if_pos (.inl hx1)])
    subst hx1
    go_enter Tryd.func26, Tryd.ntmps26
    go_wp2
    go_ret
    exact ⟨by rw [HE2.out]; rfl, (Below.refl _ _).alloc (Nat.le_refl _) _⟩
  · by_cases hx0 : x = 0
    · have HE2 : Hid (paramP a.ps (k : Int) other = other) := Lib.hid (by rw [HE.out, if_pos (.inr hx0)])
      subst hx0
      go_enter Tryd.func26, Tryd.ntmps26
      go_wp2
      go_ret
      exact ⟨by rw [HE2.out]; rfl, (Below.refl _ _).alloc (Nat.le_refl _) _⟩
    · have HE2 : Hid (paramP a.ps (k : Int) other = x) := Lib.hid (by rw [HE.out, if_neg (fun q => q.elim hx1 hx0)])
      have n1 : (x != -1) = true := bne_iff_ne.2 hx1
      have n0 : (x != 0) = true := bne_iff_ne.2 hx0
      clear hx1 hx0
      go_enter Tryd.func26, Tryd.ntmps26
      go_wp2
      go_ret
      exact ⟨by rw [HE2.out]; rfl, (Below.refl _ _).alloc (Nat.le_refl _) _⟩

def liveB : List UInt8 := [27, 91, 51, 59, 53, 72]
def liveA : ActD := ⟨4, 0, 72, 0, [3, 5], [], []⟩
theorem live_all : allP liveB = [liveA] := by decide +kernel
theorem ActRow.first {W : World} {B : Nat} {v : Value} {a : ActD} {al : List ActD} (h : ActRow W B v (a :: al)) : ∃ g cap pv, v = .slice (some ⟨g, 0, none⟩) (a :: al).length cap ∧ g < W.heap.size ∧ IntRow W B pv a.ps ∧
    W.cell? ⟨g, 0, none⟩ = some (.int .i64 a.kind) ∧ W.cell? ⟨g, 1, none⟩ = some (.int .i32 a.rune) ∧ W.cell? ⟨g, 2, none⟩ = some (.int .u8 a.fin.toNat) ∧ W.cell? ⟨g, 3, none⟩ = some (.int .u8 a.priv.toNat) ∧ W.cell? ⟨g, 4, none⟩ = some pv ∧ W.cell? ⟨g, 5, none⟩ = some (str a.inter) ∧ W.cell? ⟨g, 6, none⟩ = some (str a.text) := by
  obtain ⟨xs, e1, ⟨h1, h2⟩, h3⟩ := h
  cases xs with
  | nil => cases e1
  | cons x xs =>
    simp only [List.map_cons, List.cons.injEq] at e1
    obtain ⟨rfl, e1⟩ := e1
    rcases h2 with ⟨_, h0⟩ | ⟨g, cap, cur, hv, hb, hg, hn, hcm, hs, ht⟩
    · simp at h0
    · have hc : ∀ j u, j < 7 → (actCells x)[j]? = some u → W.cell? ⟨g, j, none⟩ = some u := fun j u hj hu => by
        rw [cell_of_row W g j cur _ (0, 0) hg, ← Array.getElem?_toList]
        have : (cur.toList.take ((x.1 :: al).length * 7))[j]? = some u := by
          rw [ht]
          show (actCells x ++ actVals xs)[j]? = some u
          rw [List.getElem?_append_left (by simp [actCells]; omega)]
          exact hu
        rw [List.getElem?_take_of_lt (by simp; omega)] at this
        exact this
      exact ⟨g, cap, x.2, hv, (Array.getElem?_eq_some_iff.1 hg).1, h3 x (by simp), hc 0 _ (by omega) rfl, hc 1 _ (by omega) rfl, hc 2 _ (by omega) rfl, hc 3 _ (by omega) rfl, hc 4 _ (by omega) rfl, hc 5 _ (by omega) rfl, hc 6 _ (by omega) rfl⟩
def LivePost (w : World) (e : Ending) (w' : World) : Prop := e = .returned (.bool true) ∧ Below w.heap.size w w'
theorem live_many : ((putPS ps0 liveB).2).length ≤ 900000000 := by
  have : ((putPS ps0 liveB).2).length = 1 := by decide +kernel
  omega
theorem live_param : paramP [3, 5] 1 9 = 5 := by decide
theorem holds_marked (w : World) (t : TypeId) (fr : Nat × Nat) (xs : List Value) : Holds1 (w.alloc (.cells xs.toArray t fr)) (.slice (some ⟨w.heap.size, 0, none⟩) xs.length xs.length) xs := by
  refine ⟨_, _, rfl, ⟨Nat.le_refl _, fun h => by cases h⟩, fun _ => ⟨w.heap.size, 0, rfl, by simp, fun j u hu => ?_⟩⟩
  rw [cell_of_row _ w.heap.size (0 + j) _ _ _ (heap_alloc_new w _), Nat.zero_add, List.getElem?_toArray]
  exact hu
set_option maxRecDepth 1000000 in
set_option maxHeartbeats 1000000 in
theorem live_any (w : World) (hT : Tabs w) : Calls Tryd.prog 12 #[] w (LivePost w) := by
  have hba := (Below.refl w.heap.size w).alloc (Nat.le_refl _) (.cells #[.int .u8 27, .int .u8 91, .int .u8 51, .int .u8 59, .int .u8 53, .int .u8 72] 5 (6, 7))
  have hcv := fun (w : World) (C : Array Value) (n c : Nat) => Lib.run_convert_bytes_const (P := Tryd.prog) w 22 5 C n c Tryd.underlying22 Tryd.underlying5
  have CA := Lib.hid (all_any _ liveB (.slice (some ⟨w.heap.size, 0, none⟩) 6 6) (hT.below hba) (holds_marked w 5 (6, 7) (byteVals liveB)) (by decide) live_many)
  have HBA := Lib.hid hba
  have CN := Lib.hid fun W => new_any W
  have CG := Lib.hid fun W g (h : ParAt W g ps0) => ground_of W g ps0 h
  clear hT hba
  unfold AllPost at CA
  rw [live_all] at CA
  go_enter Tryd.func12, Tryd.ntmps12
  go_wp2_with (first
    | (go_at_call 14; refine (CA.out).mono ?_; rintro e w1 ⟨v1, rfl, hr1, hb1⟩; have HR1 := Lib.hid hr1; have HB1 := Lib.hid (HBA.out.trans (hb1.mono HBA.out.size)); clear hr1 hb1)
    | (go_at_call 16; refine (CN.out _).mono ?_; rintro e w2 ⟨g, rfl, hp2, hg2, hb2⟩; obtain ⟨g1, cap1, pv, rfl, hlt1, hi1, a0, a1, a2, a3, a4, a5, a6⟩ := HR1.out.first; have HP2 := Lib.hid hp2; have HB2 := Lib.hid (HB1.out.trans (hb2.mono HB1.out.size)); have HI2 := Lib.hid (Holds1.of_own (own_below hi1 hb2)); obtain ⟨A, cp, rfl, _⟩ := own_form hi1; have k0 := (hb2.cell (p := ⟨g1, 0, none⟩) hlt1).trans a0; have k1 := (hb2.cell (p := ⟨g1, 1, none⟩) hlt1).trans a1; have k2 := (hb2.cell (p := ⟨g1, 2, none⟩) hlt1).trans a2; have k3 := (hb2.cell (p := ⟨g1, 3, none⟩) hlt1).trans a3; have k4 := (hb2.cell (p := ⟨g1, 4, none⟩) hlt1).trans a4; have k5 := (hb2.cell (p := ⟨g1, 5, none⟩) hlt1).trans a5; have k6 := (hb2.cell (p := ⟨g1, 6, none⟩) hlt1).trans a6; clear a0 a1 a2 a3 a4 a5 a6 hi1 hb2 hg2 hp2 hlt1 HR1)
    | (go_at_call 20; refine (CG.out _ _ HP2.out).mono ?_; rintro e w' ⟨rfl, rfl⟩)
    | (go_at_call 26; refine (param_any _ liveA _ 1 9 HI2.out (by omega)).mono ?_; rintro e w3 ⟨rfl, hb3⟩; have HB3 := Lib.hid (HB2.out.trans (hb3.mono HB2.out.size)); clear hb3))
  go_ret
  refine ⟨?_, HB3.out⟩
  show Ending.returned (.bool (paramP [3, 5] 1 9 == 5)) = _
  rw [live_param]
  rfl
end Go.Proofs.YtjoiagaadofndaaDoor
