/-
  Both Params at any action (of any Kind); sameAction at any two.
-/
import Derived.Test.YtmmlaaigcnkomaaDoorVpLive
import Derived.Test.YtmmlaaigcnkomaaDoorVpSameD
namespace Go.Proofs.YtmmlaaigcnkomaaDoor
open Go.RowKit Go.Shelf Go.Lib
attribute [local go_sem] Oper.semAt_some

structure ActZ where
  kind : Int
  rune : Int
  fin : UInt8
  priv : UInt8
  ps : List Int
  inter : List UInt8
  text : List UInt8
deriving DecidableEq
abbrev zVal (a : ActZ) (v : Value) : Value := .agg #[.int .i64 a.kind, .int .i32 a.rune, .int .u8 a.fin.toNat, .int .u8 a.priv.toNat, v, str a.inter, str a.text]

set_option maxRecDepth 1000000 in
set_option maxHeartbeats 1000000 in
theorem paramZ_any (w : World) (a : ActZ) (pv : Value) (i other : Int) (hp : Holds1 w pv (intVals a.ps)) (hb : -9223372036854775808 ≤ i ∧ i ≤ 9223372036854775807) : Calls Tryd.prog 26 #[zVal a pv, .int .i64 i, .int .i64 other] w fun e w' => e = .returned (.int .i64 (paramP a.ps i other)) ∧ Below w.heap.size w w' := by
  obtain ⟨A, c, hv, _, hc⟩ := hp
  rw [intVals_length] at hv hc
  subst hv
  by_cases h0 : i < 0
  · have HE : Hid (paramP a.ps i other = other) := Lib.hid (by unfold paramP; rw [if_pos (.inl h0)])
    have i0 : (i < 0) = True := by simp; exact h0
    clear h0 hc hb
    go_enter Tryd.func26, Tryd.ntmps26
    go_wp2
    go_ret
    exact ⟨by rw [HE.out]; rfl, (Below.refl _ _).alloc (Nat.le_refl _) _⟩
  have i0 : (i < 0) = False := by simp; omega
  by_cases h1 : (a.ps.length : Int) ≤ i
  · have HE : Hid (paramP a.ps i other = other) := Lib.hid (by unfold paramP; rw [if_pos (.inr h1)])
    have i1 : ((a.ps.length : Int) ≤ i) = True := by simp; exact h1
    clear h0 h1 hc hb
    go_enter Tryd.func26, Tryd.ntmps26
    go_wp2
    go_ret
    exact ⟨by rw [HE.out]; rfl, (Below.refl _ _).alloc (Nat.le_refl _) _⟩
  have i1 : ((a.ps.length : Int) ≤ i) = False := by simp; omega
  obtain ⟨k, rfl⟩ : ∃ k : Nat, i = k := ⟨i.toNat, by omega⟩
  have hk : k < a.ps.length := by omega
  obtain ⟨b, off, rfl, hlt, hcell⟩ := hc (by omega)
  have hx : a.ps[k]? = some a.ps[k] := List.getElem?_eq_getElem hk
  have hl0 : w.cell? ⟨b, off + k, none⟩ = some (.int .i64 a.ps[k]) := hcell k _ (by simp [intVals, hx])
  have HE : Hid (paramP a.ps (k : Int) other = if a.ps[k] = -1 ∨ a.ps[k] = 0 then other else a.ps[k]) := Lib.hid (by
    unfold paramP
    rw [if_neg (by omega), show ((k : Int)).toNat = k by omega, List.getD_eq_getElem?_getD, hx]
    rfl)
  have j0 : (0 : Int) ≤ (k : Int) := by omega
  have j1 : ((k : Int) < (a.ps.length : Int)) = True := by simp; exact hk
  have hbl := hlt
  generalize a.ps[k] = x at *
  generalize a.ps.length = n at *
  clear hc hcell h0 h1 hk hx hb
  by_cases hx1 : x = -1
  · have HE2 : Hid (paramP a.ps (k : Int) other = other) := Lib.hid (by rw [HE.out, if_pos (.inl hx1)])
    subst hx1
    go_enter Tryd.func26, Tryd.ntmps26
    go_wp2
    go_ret
    exact ⟨by rw [HE2.out]; rfl, (Below.refl _ _).alloc (Nat.le_refl _) _⟩
  · by_cases hx0 : x = 0
    · have HE2 : Hid (paramP a.ps (k : Int) other = other) := Lib.hid (by rw [HE.out, if_pos (.inr hx0)])
      subst hx0
      go_enter Tryd.func26, Tryd.ntmps26
      go_wp2
      go_ret
      exact ⟨by rw [HE2.out]; rfl, (Below.refl _ _).alloc (Nat.le_refl _) _⟩
    · have HE2 : Hid (paramP a.ps (k : Int) other = x) := Lib.hid (by rw [HE.out, if_neg (fun q => q.elim hx1 hx0)])
      have n1 : (x != -1) = true := bne_iff_ne.2 hx1
      have n0 : (x != 0) = true := bne_iff_ne.2 hx0
      clear hx1 hx0
      go_enter Tryd.func26, Tryd.ntmps26
      go_wp2
      go_ret
      exact ⟨by rw [HE2.out]; rfl, (Below.refl _ _).alloc (Nat.le_refl _) _⟩


set_option maxRecDepth 1000000 in
set_option maxHeartbeats 2000000 in
theorem refParamZ_any (w : World) (a : ActZ) (pv : Value) (i other : Int) (hp : Holds1 w pv (intVals a.ps)) (hb : -9223372036854775808 ≤ i ∧ i ≤ 9223372036854775807) : Calls Tryd.prog 27 #[zVal a pv, .int .i64 i, .int .i64 other] w fun e w' => e = .returned (.int .i64 (paramP a.ps i other)) ∧ Below w.heap.size w w' := by
  obtain ⟨A, c, hv, _, hc⟩ := hp
  rw [intVals_length] at hv hc
  subst hv
  by_cases h0 : i < 0
  · have HE : Hid (paramP a.ps i other = other) := Lib.hid (by unfold paramP; rw [if_pos (.inl h0)])
    have i0 : (i < 0) = True := by simp; exact h0
    clear h0 hc hb
    go_enter Tryd.func27, Tryd.ntmps27
    go_wp2
    go_ret
    exact ⟨by rw [HE.out]; rfl, (Below.refl _ _).alloc (Nat.le_refl _) _⟩
  have i0 : (i < 0) = False := by simp; omega
  by_cases h1 : (a.ps.length : Int) ≤ i
  · have HE : Hid (paramP a.ps i other = other) := Lib.hid (by unfold paramP; rw [if_pos (.inr h1)])
    have i1 : ((a.ps.length : Int) ≤ i) = True := by simp; exact h1
    clear h0 h1 hc hb
    go_enter Tryd.func27, Tryd.ntmps27
    go_wp2
    go_ret
    exact ⟨by rw [HE.out]; rfl, (Below.refl _ _).alloc (Nat.le_refl _) _⟩
  have i1 : ((a.ps.length : Int) ≤ i) = False := by simp; omega
  obtain ⟨k, rfl⟩ : ∃ k : Nat, i = k := ⟨i.toNat, by omega⟩
  have hk : k < a.ps.length := by omega
  obtain ⟨b, off, rfl, hlt, hcell⟩ := hc (by omega)
  have hx : a.ps[k]? = some a.ps[k] := List.getElem?_eq_getElem hk
  have hl0 : w.cell? ⟨b, off + k, none⟩ = some (.int .i64 a.ps[k]) := hcell k _ (by simp [intVals, hx])
  have HE : Hid (paramP a.ps (k : Int) other = if a.ps[k] = -1 ∨ a.ps[k] = 0 then other else a.ps[k]) := Lib.hid (by
    unfold paramP
    rw [if_neg (by omega), show ((k : Int)).toNat = k by omega, List.getD_eq_getElem?_getD, hx]
    rfl)
  have j0 : (0 : Int) ≤ (k : Int) := by omega
  have j1 : ((k : Int) < (a.ps.length : Int)) = True := by simp; exact hk
  have hbl := hlt
  generalize a.ps[k] = x at *
  generalize a.ps.length = n at *
  clear hc hcell h0 h1 hk hx hb
  by_cases hx1 : x = -1
  · have HE2 : Hid (paramP a.ps (k : Int) other = other) := Lib.hid (by rw [HE.out, if_pos (.inl hx1)])
    subst hx1
    go_enter Tryd.func27, Tryd.ntmps27
    go_wp2
    go_ret
    exact ⟨by rw [HE2.out]; rfl, (Below.refl _ _).alloc (Nat.le_refl _) _⟩
  · by_cases hx0 : x = 0
    · have HE2 : Hid (paramP a.ps (k : Int) other = other) := Lib.hid (by rw [HE.out, if_pos (.inr hx0)])
      subst hx0
      go_enter Tryd.func27, Tryd.ntmps27
      go_wp2
      go_ret
      exact ⟨by rw [HE2.out]; rfl, (Below.refl _ _).alloc (Nat.le_refl _) _⟩
    · have HE2 : Hid (paramP a.ps (k : Int) other = x) := Lib.hid (by rw [HE.out, if_neg (fun q => q.elim hx1 hx0)])
      have n1 : (x == -1) = false := by simpa using hx1
      have n0 : (x == 0) = false := by simpa using hx0
      clear hx1 hx0
      go_enter Tryd.func27, Tryd.ntmps27
      go_wp2
      go_ret
      exact ⟨by rw [HE2.out]; rfl, (Below.refl _ _).alloc (Nat.le_refl _) _⟩

def SameV (w : World) (x y : ActZ) (e : Ending) (w' : World) : Prop := e = .returned (.bool (decide (x = y))) ∧ Below w.heap.size w w'
theorem two_below (w : World) (o1 o2 : Obj) : Below w.heap.size w ((w.alloc o1).alloc o2) := ((Below.refl _ _).alloc (Nat.le_refl _) _).alloc (by simp) _
theorem two_cells (w w1 : World) (o1 o2 : Array Value) (t : TypeId) (hb1 : Below ((w.alloc (.cells o1 t)).alloc (.cells o2 t)).heap.size ((w.alloc (.cells o1 t)).alloc (.cells o2 t)) w1) (j : Nat) : w1.cell? ⟨w.heap.size, j, none⟩ = o1[j]? ∧ w1.cell? ⟨w.heap.size + 1, j, none⟩ = o2[j]? :=
  ⟨(hb1.cell (by simp; omega)).trans (cell_of_row _ _ j _ _ _ ((Below.heap_alloc (w.alloc (.cells o1 t)) (.cells o2 t) _ (by simp)).trans (heap_alloc_new w _))), (hb1.cell (by simp)).trans (cell_of_row _ _ j _ _ _ (alloc_two w _ _))⟩
set_option maxRecDepth 1000000 in
set_option maxHeartbeats 1000000 in
theorem sameAction_any (w : World) (x y : ActZ) (pv qv : Value) (hp : Holds1 w pv (intVals x.ps)) (hq : Holds1 w qv (intVals y.ps)) (hl : x.ps.length ≤ 9223372036854775807) :
    Calls Tryd.prog 42 #[zVal x pv, zVal y qv] w (SameV w x y) := by
  obtain ⟨k, r, f, p, ps, i, t⟩ := x
  obtain ⟨k', r', f', p', ps', i', t'⟩ := y
  by_cases h : k = k'
  case neg =>
    have HE : Hid (decide (ActZ.mk k r f p ps i t = ⟨k', r', f', p', ps', i', t'⟩) = false) := Lib.hid (decide_eq_false fun q => by injection q; contradiction)
    unfold SameV
    rw [HE.out]
    have n : (k == k') = false := beq_eq_false_iff_ne.2 h
    clear HE hp hq hl h
    go_enter Tryd.func42, Tryd.ntmps42
    go_wp2
    go_ret
    exact ⟨rfl, two_below _ _ _⟩
  subst h
  by_cases h : r = r'
  case neg =>
    have HE : Hid (decide (ActZ.mk k r f p ps i t = ⟨k, r', f', p', ps', i', t'⟩) = false) := Lib.hid (decide_eq_false fun q => by injection q; contradiction)
    unfold SameV
    rw [HE.out]
    have n : (r == r') = false := beq_eq_false_iff_ne.2 h
    clear HE hp hq hl h
    go_enter Tryd.func42, Tryd.ntmps42
    go_wp2
    go_ret
    exact ⟨rfl, two_below _ _ _⟩
  subst h
  by_cases h : f = f'
  case neg =>
    have HE : Hid (decide (ActZ.mk k r f p ps i t = ⟨k, r, f', p', ps', i', t'⟩) = false) := Lib.hid (decide_eq_false fun q => by injection q; contradiction)
    unfold SameV
    rw [HE.out]
    have n : ((f.toNat : Int) == (f'.toNat : Int)) = false := beq_eq_false_iff_ne.2 fun q => h (UInt8.toNat_inj.1 (by omega))
    clear HE hp hq hl h
    go_enter Tryd.func42, Tryd.ntmps42
    go_wp2
    go_ret
    exact ⟨rfl, two_below _ _ _⟩
  subst h
  by_cases h : p = p'
  case neg =>
    have HE : Hid (decide (ActZ.mk k r f p ps i t = ⟨k, r, f, p', ps', i', t'⟩) = false) := Lib.hid (decide_eq_false fun q => by injection q; contradiction)
    unfold SameV
    rw [HE.out]
    have n : ((p.toNat : Int) == (p'.toNat : Int)) = false := beq_eq_false_iff_ne.2 fun q => h (UInt8.toNat_inj.1 (by omega))
    clear HE hp hq hl h
    go_enter Tryd.func42, Tryd.ntmps42
    go_wp2
    go_ret
    exact ⟨rfl, two_below _ _ _⟩
  subst h
  have CE := Lib.hid fun W (hb : Below w.heap.size w W) => equal_ints ps ps' pv qv W (hp.below hb) (hq.below hb) hl
  clear hp hq hl
  by_cases h : ps = ps'
  case neg =>
    have HE : Hid (decide (ActZ.mk k r f p ps i t = ⟨k, r, f, p, ps', i', t'⟩) = false) := Lib.hid (decide_eq_false fun q => by injection q; contradiction)
    unfold SameV
    rw [HE.out]
    have n : decide (ps = ps') = false := decide_eq_false h
    rw [n] at CE
    clear HE h n
    go_enter Tryd.func42, Tryd.ntmps42
    go_wp2_with (first
      | (go_at_call 61; refine (CE.out _ (two_below w _ _)).mono ?_; rintro e w1 ⟨rfl, hb1⟩))
    go_ret
    exact ⟨rfl, (two_below _ _ _).trans (hb1.mono (two_below _ _ _).size)⟩
  subst h
  have n0 : decide (ps = ps) = true := decide_eq_true rfl
  rw [n0] at CE
  clear n0
  by_cases h : i = i'
  case neg =>
    have HE : Hid (decide (ActZ.mk k r f p ps i t = ⟨k, r, f, p, ps, i', t'⟩) = false) := Lib.hid (decide_eq_false fun q => by injection q; contradiction)
    unfold SameV
    rw [HE.out]
    have n : (i == i') = false := beq_eq_false_iff_ne.2 h
    clear HE h
    go_enter Tryd.func42, Tryd.ntmps42
    go_wp2_with (first
      | (go_at_call 61; refine (CE.out _ (two_below w _ _)).mono ?_; rintro e w1 ⟨rfl, hb1⟩; obtain ⟨p5, q5⟩ := two_cells w w1 _ _ _ hb1 5; obtain ⟨p6, q6⟩ := two_cells w w1 _ _ _ hb1 6; replace hb1 := Lib.hid ((two_below _ _ _).trans (hb1.mono (two_below _ _ _).size)); simp only [List.getElem?_toArray, List.getElem?_cons_succ, List.getElem?_cons_zero] at p5 q5 p6 q6))
    go_ret
    exact ⟨rfl, hb1.out⟩
  subst h
  have HE : Hid (decide (ActZ.mk k r f p ps i t = ⟨k, r, f, p, ps, i, t'⟩) = (t == t')) := Lib.hid (by rw [Bool.eq_iff_iff]; simp)
  unfold SameV
  rw [HE.out]
  clear HE
  go_enter Tryd.func42, Tryd.ntmps42
  go_wp2_with (first
    | (go_at_call 61; refine (CE.out _ (two_below w _ _)).mono ?_; rintro e w1 ⟨rfl, hb1⟩; obtain ⟨p5, q5⟩ := two_cells w w1 _ _ _ hb1 5; obtain ⟨p6, q6⟩ := two_cells w w1 _ _ _ hb1 6; replace hb1 := Lib.hid ((two_below _ _ _).trans (hb1.mono (two_below _ _ _).size)); simp only [List.getElem?_toArray, List.getElem?_cons_succ, List.getElem?_cons_zero] at p5 q5 p6 q6))
  go_ret
  exact ⟨rfl, hb1.out⟩
end Go.Proofs.YtmmlaaigcnkomaaDoor
