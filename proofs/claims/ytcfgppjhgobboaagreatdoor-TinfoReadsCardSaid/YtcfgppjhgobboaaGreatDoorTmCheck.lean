/-
  What Check of package tinfo returns, for every entry.
  What valid and Check of package tinfo return, for every entry.
-/
import Derived.Test.YtcfgppjhgobboaaGreatDoorTmFit
namespace Go.Proofs.YtcfgppjhgobboaaGreatDoor
section
open Go.RowKit Go.Shelf Go.Lib Go.Maps
attribute [local go_sem] Oper.semAt_some

theorem TermV.forms {W : World} {v : Nat → Value} {ve : Value} {t : TermD} (h : TermV W v ve t) : ∃ A0 n0 A1 n1 A2 n2 Ae ne, v 0 = .slice A0 t.bools.length n0 ∧ v 1 = .slice A1 t.nums.length n1 ∧ v 2 = .slice A2 t.strs.length n2 ∧ ve = .slice Ae t.exts.length ne ∧
    (t.bools.length * 32 ≤ 140737488355328 ∧ t.nums.length * 32 ≤ 140737488355328 ∧ t.strs.length * 32 ≤ 140737488355328 ∧ t.exts.length * 56 ≤ 140737488355328) ∧
    CapsV W (.slice A0 t.bools.length n0) t.bools ∧ CapsV W (.slice A1 t.nums.length n1) t.nums ∧ CapsV W (.slice A2 t.strs.length n2) t.strs ∧ ExtsV W (.slice Ae t.exts.length ne) t.exts := by
  have g0 := h.caps 0 (by omega)
  have g1 := h.caps 1 (by omega)
  have g2 := h.caps 2 (by omega)
  have g3 := h.exts
  obtain ⟨A0, n0, e0, s0⟩ := g0.form
  obtain ⟨A1, n1, e1, s1⟩ := g1.form
  obtain ⟨A2, n2, e2, s2⟩ := g2.form
  obtain ⟨A3, n3, e3, s3⟩ := g3.form
  rw [e0] at g0
  rw [e1] at g1
  rw [e2] at g2
  rw [e3] at g3
  exact ⟨A0, n0, A1, n1, A2, n2, A3, n3, e0, e1, e2, e3, ⟨s0, s1, s2, s3⟩, g0, g1, g2, g3⟩

set_option maxRecDepth 100000 in
set_option maxHeartbeats 4000000 in
theorem tooLong_any (w : World) (t : TermD) (v : Nat → Value) (ve : Value) (h : TermV w v ve t) : Calls Tryz.prog 87 #[termVal t v ve] w fun e w' => e = .returned (.bool (tooLongP t)) ∧ Below w.heap.size w w' := by
  obtain ⟨A0, n0, A1, n1, A2, n2, A3, n3, e0, e1, e2, e3, ⟨s0, s1, s2, s3⟩, g0, g1, g2, g3⟩ := h.forms
  show Calls _ _ #[.agg #[str t.names, .bool t.wide, v 0, v 1, v 2, ve]] _ _
  rw [e0, e1, e2, e3]
  clear h e0 e1 e2 e3
  obtain ⟨nm, wd, l0, l1, l2, l3⟩ := t
  simp only at s0 s1 s2 s3 g0 g1 g2 g3 ⊢
  have HV : Hid (tooLongP ⟨nm, wd, l0, l1, l2, l3⟩ = ((decide (511 < nm.length) || decide (64 < l0.length) || decide (64 < l1.length) || decide (512 < l2.length) || decide (256 < l3.length)) || longExt l3 || (longText l0 || longText l1 || longText l2))) := Lib.hid rfl
  generalize tooLongP ⟨nm, wd, l0, l1, l2, l3⟩ = res at *
  by_cases q0 : 511 < nm.length
  · have HQ : Hid (res = true) := Lib.hid (by rw [HV.out]; simp [q0])
    have r0 : (511 : Int) < (nm.length : Int) := by omega
    clear q0 HV g0 g1 g2 g3
    go_enter Tryz.func87, Tryz.ntmps87
    go_wp2_with fail
    go_ret
    exact ⟨ret_bool HQ.out.symm, (Below.refl _ _).alloc (Nat.le_refl _) _⟩
  have r0 : ¬ (511 : Int) < (nm.length : Int) := by omega
  by_cases q1 : 64 < l0.length
  · have HQ : Hid (res = true) := Lib.hid (by rw [HV.out]; simp [q1])
    have r1 : (64 : Int) < (l0.length : Int) := by omega
    clear q1 HV g0 g1 g2 g3
    go_enter Tryz.func87, Tryz.ntmps87
    go_wp2_with fail
    go_ret
    exact ⟨ret_bool HQ.out.symm, (Below.refl _ _).alloc (Nat.le_refl _) _⟩
  have r1 : ¬ (64 : Int) < (l0.length : Int) := by omega
  by_cases q2 : 64 < l1.length
  · have HQ : Hid (res = true) := Lib.hid (by rw [HV.out]; simp [q2])
    have r2 : (64 : Int) < (l1.length : Int) := by omega
    clear q2 HV g0 g1 g2 g3
    go_enter Tryz.func87, Tryz.ntmps87
    go_wp2_with fail
    go_ret
    exact ⟨ret_bool HQ.out.symm, (Below.refl _ _).alloc (Nat.le_refl _) _⟩
  have r2 : ¬ (64 : Int) < (l1.length : Int) := by omega
  by_cases q3 : 512 < l2.length
  · have HQ : Hid (res = true) := Lib.hid (by rw [HV.out]; simp [q3])
    have r3 : (512 : Int) < (l2.length : Int) := by omega
    clear q3 HV g0 g1 g2 g3
    go_enter Tryz.func87, Tryz.ntmps87
    go_wp2_with fail
    go_ret
    exact ⟨ret_bool HQ.out.symm, (Below.refl _ _).alloc (Nat.le_refl _) _⟩
  have r3 : ¬ (512 : Int) < (l2.length : Int) := by omega
  by_cases q4 : 256 < l3.length
  · have HQ : Hid (res = true) := Lib.hid (by rw [HV.out]; simp [q4])
    have r4 : (256 : Int) < (l3.length : Int) := by omega
    clear q4 HV g0 g1 g2 g3
    go_enter Tryz.func87, Tryz.ntmps87
    go_wp2_with fail
    go_ret
    exact ⟨ret_bool HQ.out.symm, (Below.refl _ _).alloc (Nat.le_refl _) _⟩
  have r4 : ¬ (256 : Int) < (l3.length : Int) := by omega
  have HV2 : Hid (res = (longExt l3 || (longText l0 || longText l1 || longText l2))) := Lib.hid (by rw [HV.out]; simp [q0, q1, q2, q3, q4])
  clear HV q0 q1 q2 q3 q4
  have HG := Lib.hid g3
  have hb : Below w.heap.size w (w.alloc (.cells #[str nm, .bool wd, .slice A0 l0.length n0, .slice A1 l1.length n1, .slice A2 l2.length n2, .slice A3 l3.length n3] 26)) := (Below.refl _ w).alloc (Nat.le_refl _) _
  have hbox : (w.alloc (.cells #[str nm, .bool wd, .slice A0 l0.length n0, .slice A1 l1.length n1, .slice A2 l2.length n2, .slice A3 l3.length n3] 26)).heap[w.heap.size]? = some (.cells #[str nm, .bool wd, .slice A0 l0.length n0, .slice A1 l1.length n1, .slice A2 l2.length n2, .slice A3 l3.length n3] 26 (0, 0)) := World.alloc_heap_new w _
  have hlt : w.heap.size < (w.alloc (.cells #[str nm, .bool wd, .slice A0 l0.length n0, .slice A1 l1.length n1, .slice A2 l2.length n2, .slice A3 l3.length n3] 26)).heap.size := by simp
  have CL0 := Lib.hid (fun W (hW : Below w.heap.size w W) => hasLong_any W _ _ (g0.below hW))
  have CL1 := Lib.hid (fun W (hW : Below w.heap.size w W) => hasLong_any W _ _ (g1.below hW))
  have CL2 := Lib.hid (fun W (hW : Below w.heap.size w W) => hasLong_any W _ _ (g2.below hW))
  clear g0 g1 g2 g3
  go_enter Tryz.func87, Tryz.ntmps87
  go_wp2_with fail
  generalize w.alloc (.cells #[str nm, .bool wd, .slice A0 l0.length n0, .slice A1 l1.length n1, .slice A2 l2.length n2, .slice A3 l3.length n3] 26) = w1 at *
  have HB1 := Lib.hid hb
  have HX := Lib.hid hbox
  obtain ⟨b1, hb1⟩ : ∃ b, b = w.heap.size := ⟨_, rfl⟩
  rw [← hb1] at hlt
  go_loopw [36] (fun i wr => LoopB w1 (fun k => k ≤ l3.length ∧ ((l3.take k).any fun x => decide (1000 < x.name.length) || decide (1000 < x.cap.text.length)) = false) i wr) (fun i _ => l3.length - (RowKit.intOf i).toNat)
  case atStart => exact ⟨0, rfl, ⟨Nat.zero_le _, rfl⟩, Below.refl _ _⟩
  case round =>
    obtain ⟨k, rfl, ⟨hk, hno⟩, hbw⟩ := hrel
    have HNO := Lib.hid hno
    have HB := Lib.hid (HB1.out.trans (hbw.mono HB1.out.size))
    have HX2 := Lib.hid ((hbw.block _ (by omega)).trans HX.out)
    have HB2 := Lib.hid hbw
    clear hno hbw
    by_cases hlt2 : k < l3.length
    · obtain ⟨x, hx⟩ : ∃ x, l3[k]? = some x := ⟨_, List.getElem?_eq_getElem hlt2⟩
      obtain ⟨kb, off, rfl, hkb, g0, g1, g2, g3, g4⟩ := HG.out.cells hx
      rw [← HB.out.cell (p := ⟨kb, off + k * 5, none⟩) hkb] at g0
      rw [← HB.out.cell (p := ⟨kb, off + k * 5 + 1, none⟩) hkb] at g1
      rw [← HB.out.cell (p := ⟨kb, off + k * 5 + 2, none⟩) hkb] at g2
      rw [← HB.out.cell (p := ⟨kb, off + k * 5 + 3, none⟩) hkb] at g3
      rw [← HB.out.cell (p := ⟨kb, off + k * 5 + 4, none⟩) hkb] at g4
      have HC := Lib.hid hx
      clear hx hkb
      by_cases hq : 1000 < x.name.length
      · have HQ := Lib.hid hq
        have hq' : (1000 : Int) < (x.name.length : Int) := by omega
        clear hq
        go_wp2_with fail
        go_ret
        exact ⟨ret_bool (by symm; rw [HV2.out, show longExt l3 = true from any_at HC.out (by simp [HQ.out])]; rfl), HB.out.alloc HB.out.size _⟩
      · have hq' : ¬ (1000 : Int) < (x.name.length : Int) := by omega
        have HQ := Lib.hid hq
        clear hq
        by_cases hq2 : 1000 < x.cap.text.length
        · have HQ2 := Lib.hid hq2
          have hq2' : (1000 : Int) < (x.cap.text.length : Int) := by omega
          clear hq2
          go_wp2_with fail
          go_ret
          exact ⟨ret_bool (by symm; rw [HV2.out, show longExt l3 = true from any_at HC.out (by simp [HQ2.out])]; rfl), HB.out.alloc HB.out.size _⟩
        · have HQ2 := Lib.hid hq2
          have hq2' : ¬ (1000 : Int) < (x.cap.text.length : Int) := by omega
          clear hq2
          go_wp2_with fail
          exact ⟨⟨k + 1, by go_num, ⟨hlt2, any_next HC.out HNO.out (by simp [HQ.out, HQ2.out])⟩, HB2.out.alloc HB2.out.size _⟩, by simp [RowKit.intOf]; omega⟩
    · obtain rfl : k = l3.length := by omega
      have HV3 : Hid (res = (longText l0 || longText l1 || longText l2)) := Lib.hid (by rw [HV2.out, show longExt l3 = false from any_end (Nat.le_refl _) HNO.out]; simp)
      clear HV2 HNO
      have c0 := cell_of_row wr w.heap.size 2 _ _ _ HX2.out
      have c1 := cell_of_row wr w.heap.size 3 _ _ _ HX2.out
      have c2 := cell_of_row wr w.heap.size 4 _ _ _ HX2.out
      simp only [List.getElem?_toArray, List.getElem?_cons_zero, List.getElem?_cons_succ] at c0 c1 c2
      cases p0 : longText l0 with
      | true =>
        have HQ : Hid (res = true) := Lib.hid (by rw [HV3.out, p0]; rfl)
        rw [p0] at CL0
        clear p0 HV3
        go_wp2_with (go_at_call 126; refine (CL0.out _ HB.out).mono ?_; rintro e w2 ⟨rfl, hb2⟩; have HB3 := Lib.hid (HB.out.trans (hb2.mono HB.out.size)); clear hb2)
        go_ret
        exact ⟨ret_bool HQ.out.symm, HB3.out⟩
      | false =>
        rw [p0] at CL0
        cases p1 : longText l1 with
        | true =>
          have HQ : Hid (res = true) := Lib.hid (by rw [HV3.out, p0, p1]; rfl)
          rw [p1] at CL1
          clear p0 p1 HV3
          go_wp2_with (first
            | (go_at_call 126; with_reducible refine (CL0.out _ HB.out).mono ?_; rintro e w2 ⟨rfl, hb2⟩; have HB3 := Lib.hid (HB.out.trans (hb2.mono HB.out.size)); have d1 := hb2.cell (p := ⟨w.heap.size, 3, none⟩) (Array.getElem?_eq_some_iff.1 HX2.out).1; rw [c1] at d1; clear hb2)
            | (go_at_call 126; with_reducible refine (CL1.out _ HB3.out).mono ?_; rintro e w3 ⟨rfl, hb3⟩; have HB4 := Lib.hid (HB3.out.trans (hb3.mono HB3.out.size)); clear hb3))
          go_ret
          exact ⟨ret_bool HQ.out.symm, HB4.out⟩
        | false =>
          have HQ : Hid (res = longText l2) := Lib.hid (by rw [HV3.out, p0, p1]; rfl)
          rw [p1] at CL1
          clear p0 p1 HV3
          go_wp2_with (first
            | (go_at_call 126; with_reducible refine (CL0.out _ HB.out).mono ?_; rintro e w2 ⟨rfl, hb2⟩; have HB3 := Lib.hid (HB.out.trans (hb2.mono HB.out.size)); have d1 := hb2.cell (p := ⟨w.heap.size, 3, none⟩) (Array.getElem?_eq_some_iff.1 HX2.out).1; rw [c1] at d1; have d2 := hb2.cell (p := ⟨w.heap.size, 4, none⟩) (Array.getElem?_eq_some_iff.1 HX2.out).1; rw [c2] at d2; have HS := Lib.hid hb2.size; clear hb2)
            | (go_at_call 126; with_reducible refine (CL1.out _ HB3.out).mono ?_; rintro e w3 ⟨rfl, hb3⟩; have HB4 := Lib.hid (HB3.out.trans (hb3.mono HB3.out.size)); have d3 := hb3.cell (p := ⟨w.heap.size, 4, none⟩) (Nat.lt_of_lt_of_le (Array.getElem?_eq_some_iff.1 HX2.out).1 HS.out); rw [d2] at d3; clear hb3)
            | (go_at_call 126; with_reducible refine (CL2.out _ HB4.out).mono ?_; rintro e w4 ⟨rfl, hb4⟩; have HB5 := Lib.hid (HB4.out.trans (hb4.mono HB4.out.size)); clear hb4))
          go_ret
          exact ⟨ret_bool HQ.out.symm, HB5.out⟩
end

section
open Go.RowKit Go.Shelf Go.Lib Go.Maps
attribute [local go_sem] Oper.semAt_some

theorem tooLongP_no {t : TermD} (h : tooLongP t = false) : t.exts.length ≤ 256 ∧ ∀ x ∈ t.exts, x.name.length ≤ 1000 := by
  obtain ⟨nm, wd, l0, l1, l2, l3⟩ := t
  simp only [tooLongP, Bool.or_eq_false_iff, decide_eq_false_iff_not] at h
  obtain ⟨⟨⟨_, h5⟩, h6⟩, _⟩ := h
  refine ⟨by simpa using h5, fun x hx => ?_⟩
  have := List.any_eq_false.1 h6 x hx
  simp at this
  omega
abbrev termObj (nm : List UInt8) (wd : Bool) (a b c d : Value) : Obj := .cells #[str nm, .bool wd, a, b, c, d] 26
/-- an entry's box, unchanged since -/
structure InBox (w1 W : World) (bx : Nat) (nm : List UInt8) (wd : Bool) (a b c d : Value) : Prop where
  box : W.heap[bx]? = some (termObj nm wd a b c d)
  below : Below w1.heap.size w1 W
  tabs : Tabs W
  lt : bx < w1.heap.size
theorem InBox.next {w1 W W' : World} {bx : Nat} {nm : List UInt8} {wd : Bool} {a b c d : Value} (h : InBox w1 W bx nm wd a b c d) (hb : Below W.heap.size W W') : InBox w1 W' bx nm wd a b c d :=
  ⟨(hb.block _ (Nat.lt_of_lt_of_le h.lt h.below.size)).trans h.box, h.below.trans (hb.mono h.below.size), h.tabs.below hb, h.lt⟩
theorem InBox.cells {w1 W : World} {bx : Nat} {nm : List UInt8} {wd : Bool} {a b c d : Value} (h : InBox w1 W bx nm wd a b c d) :
    W.cell? ⟨bx, 0, none⟩ = some (str nm) ∧ W.cell? ⟨bx, 1, none⟩ = some (.bool wd) ∧ W.cell? ⟨bx, 2, none⟩ = some a ∧ W.cell? ⟨bx, 3, none⟩ = some b ∧ W.cell? ⟨bx, 4, none⟩ = some c ∧ W.cell? ⟨bx, 5, none⟩ = some d :=
  ⟨cell_of_row W _ 0 _ _ _ h.box, cell_of_row W _ 1 _ _ _ h.box, cell_of_row W _ 2 _ _ _ h.box, cell_of_row W _ 3 _ _ _ h.box, cell_of_row W _ 4 _ _ _ h.box, cell_of_row W _ 5 _ _ _ h.box⟩
theorem InBox.made (w : World) (hT : Tabs w) (nm : List UInt8) (wd : Bool) (a b c d : Value) : InBox (w.alloc (termObj nm wd a b c d)) (w.alloc (termObj nm wd a b c d)) w.heap.size nm wd a b c d :=
  ⟨World.alloc_heap_new w _, Below.refl _ _, hT.below ((Below.refl _ w).alloc (Nat.le_refl _) _), by simp⟩

set_option maxRecDepth 100000 in
set_option maxHeartbeats 4000000 in
theorem valid_any (w : World) (t : TermD) (v : Nat → Value) (ve : Value) (h : TermV w v ve t) (hT : Tabs w) (hs : tooLongP t = false) : Calls Tryz.prog 88 #[termVal t v ve] w fun e w' => e = .returned (.bool (validP t)) ∧ Below w.heap.size w w' := by
  obtain ⟨A0, n0, A1, n1, A2, n2, A3, n3, e0, e1, e2, e3, _, g0, g1, g2, g3⟩ := h.forms
  obtain ⟨hs1, hs2⟩ := tooLongP_no hs
  show Calls _ _ #[.agg #[str t.names, .bool t.wide, v 0, v 1, v 2, ve]] _ _
  rw [e0, e1, e2, e3]
  clear h e0 e1 e2 e3 hs
  obtain ⟨nm, wd, l0, l1, l2, l3⟩ := t
  simp only at hs1 hs2 g0 g1 g2 g3 ⊢
  have HV : Hid (validP ⟨nm, wd, l0, l1, l2, l3⟩ = (isNameP nm && (l0.all fun c => fitsP c 0 (topP wd)) && (l1.all fun c => fitsP c 1 (topP wd)) && (l2.all fun c => fitsP c 2 (topP wd)) && extsFitP (topP wd) [] 0 l3)) := Lib.hid rfl
  generalize validP ⟨nm, wd, l0, l1, l2, l3⟩ = res at *
  have hb : Below w.heap.size w (w.alloc (termObj nm wd (.slice A0 l0.length n0) (.slice A1 l1.length n1) (.slice A2 l2.length n2) (.slice A3 l3.length n3))) := (Below.refl _ w).alloc (Nat.le_refl _) _
  have CM := Lib.hid (fun W => maxNumber_any wd W)
  have CN := Lib.hid (fun W => isName_any nm W)
  have CL0 := Lib.hid (fun W (hW : Below w.heap.size w W) => allFit_any W _ _ 0 (topP wd) (g0.below hW))
  have CL1 := Lib.hid (fun W (hW : Below w.heap.size w W) => allFit_any W _ _ 1 (topP wd) (g1.below hW))
  have CL2 := Lib.hid (fun W (hW : Below w.heap.size w W) => allFit_any W _ _ 2 (topP wd) (g2.below hW))
  have CE := Lib.hid (fun W (hW : Below w.heap.size w W) => extsFit_any W _ l3 (topP wd) (g3.below hW) (hT.below hW) (by omega) (fun x hx => Nat.le_trans (hs2 x hx) (by omega)))
  have HB := Lib.hid hb
  have HI := Lib.hid (InBox.made w hT nm wd (.slice A0 l0.length n0) (.slice A1 l1.length n1) (.slice A2 l2.length n2) (.slice A3 l3.length n3))
  obtain ⟨c0, c1, c2, c3, c4, c5⟩ := HI.out.cells
  generalize l0.all _ = p0 at *
  generalize l1.all _ = p1 at *
  generalize l2.all _ = p2 at *
  generalize extsFitP _ _ _ _ = p3 at *
  generalize isNameP nm = pn at *
  generalize topP wd = top at *
  generalize l0.length = m0 at *
  generalize l1.length = m1 at *
  generalize l2.length = m2 at *
  generalize l3.length = m3 at *
  clear hb g0 g1 g2 g3 hT hs1 hs2
  go_enter Tryz.func88, Tryz.ntmps88
  obtain ⟨w1, hw1⟩ : ∃ w1, w1 = w.alloc (termObj nm wd (.slice A0 m0 n0) (.slice A1 m1 n1) (.slice A2 m2 n2) (.slice A3 m3 n3)) := ⟨_, rfl⟩
  have HW := Lib.hid hw1
  have H0 : Hid (Below w.heap.size w w1) := Lib.hid (by rw [hw1]; exact HB.out)
  clear HB
  rw [← hw1] at HI c0 c1 c2 c3 c4 c5
  clear hw1
  go_wp2_with (first
    | (go_at_call 127; rw [← HW.out]; refine (CM.out _).mono ?_; rintro e w' ⟨rfl, rfl⟩)
    | (go_at_call 128; refine (CN.out _).mono ?_; rintro e w' ⟨rfl, rfl⟩)
    | (go_at_call 129; with_reducible refine (CL0.out _ (H0.out.trans (HI.out.below.mono H0.out.size))).mono ?_; rintro e w2 ⟨rfl, hb2⟩; replace HI := Lib.hid (HI.out.next hb2); clear c0 c1 c2 c3 c4 c5; obtain ⟨c0, c1, c2, c3, c4, c5⟩ := HI.out.cells; clear hb2)
    | (go_at_call 129; with_reducible refine (CL1.out _ (H0.out.trans (HI.out.below.mono H0.out.size))).mono ?_; rintro e w2 ⟨rfl, hb2⟩; replace HI := Lib.hid (HI.out.next hb2); clear c0 c1 c2 c3 c4 c5; obtain ⟨c0, c1, c2, c3, c4, c5⟩ := HI.out.cells; clear hb2)
    | (go_at_call 129; with_reducible refine (CL2.out _ (H0.out.trans (HI.out.below.mono H0.out.size))).mono ?_; rintro e w2 ⟨rfl, hb2⟩; replace HI := Lib.hid (HI.out.next hb2); clear c0 c1 c2 c3 c4 c5; obtain ⟨c0, c1, c2, c3, c4, c5⟩ := HI.out.cells; clear hb2)
    | (go_at_call 130; with_reducible refine (CE.out _ (H0.out.trans (HI.out.below.mono H0.out.size))).mono ?_; rintro e w2 ⟨rfl, hb2⟩; replace HI := Lib.hid (HI.out.next hb2); clear c0 c1 c2 c3 c4 c5; obtain ⟨c0, c1, c2, c3, c4, c5⟩ := HI.out.cells; clear hb2))
  all_goals
    go_ret
    refine ⟨ret_bool (by rw [HV.out]; simp [*]), H0.out.trans (HI.out.below.mono H0.out.size)⟩

theorem termVal_open {t : TermD} {v : Nat → Value} {ve a b c d : Value} (e0 : v 0 = a) (e1 : v 1 = b) (e2 : v 2 = c) (e3 : ve = d) : termVal t v ve = .agg #[str t.names, .bool t.wide, a, b, c, d] := by
  rw [termVal, e0, e1, e2, e3]

set_option maxRecDepth 100000 in
set_option maxHeartbeats 4000000 in
theorem check_any (w : World) (t : TermD) (v : Nat → Value) (ve : Value) (h : TermV w v ve t) (hT : Tabs w) : Calls Tryz.prog 33 #[termVal t v ve] w fun e w' => e = .returned (.int .i64 (checkP t)) ∧ Below w.heap.size w w' := by
  have CT := Lib.hid (fun W (hW : Below w.heap.size w W) => tooLong_any W t v ve (h.below hW))
  have CV := Lib.hid (fun W (hW : Below w.heap.size w W) (hs : tooLongP t = false) => valid_any W t v ve (h.below hW) (hT.below hW) hs)
  have HV : Hid (checkP t = if tooLongP t then 3 else if validP t then 0 else 1) := Lib.hid rfl
  have HI := Lib.hid (InBox.made w hT t.names t.wide (v 0) (v 1) (v 2) ve)
  obtain ⟨c0, c1, c2, c3, c4, c5⟩ := HI.out.cells
  have H0 : Hid (Below w.heap.size w (w.alloc (termObj t.names t.wide (v 0) (v 1) (v 2) ve))) := Lib.hid ((Below.refl _ w).alloc (Nat.le_refl _) _)
  unfold termVal at CT CV ⊢
  obtain ⟨p, hp⟩ : ∃ p, p = tooLongP t := ⟨_, rfl⟩
  obtain ⟨q, hq⟩ : ∃ q, q = validP t := ⟨_, rfl⟩
  rw [← hp] at CT CV HV
  rw [← hq] at CV HV
  clear h hT hp hq
  generalize checkP t = res at *
  generalize t.names = nm at *
  generalize t.wide = wd at *
  generalize v 0 = a at *
  generalize v 1 = b at *
  generalize v 2 = c at *
  cases p with
  | true =>
    have HR : Hid (res = 3) := Lib.hid (by rw [HV.out]; rfl)
    clear HV
    go_enter Tryz.func33, Tryz.ntmps33
    go_wp2_with (go_at_call 87; refine (CT.out _ H0.out).mono ?_; rintro e w2 ⟨rfl, hb2⟩; have HB2 := Lib.hid (H0.out.trans (hb2.mono H0.out.size)); clear hb2)
    go_ret
    exact ⟨by rw [HR.out]; rfl, HB2.out⟩
  | false =>
    cases q with
    | true =>
      have HR : Hid (res = 0) := Lib.hid (by rw [HV.out]; rfl)
      clear HV
      go_enter Tryz.func33, Tryz.ntmps33
      go_wp2_with (first
        | (go_at_call 87; refine (CT.out _ H0.out).mono ?_; rintro e w2 ⟨rfl, hb2⟩; replace HI := Lib.hid (HI.out.next hb2); clear c0 c1 c2 c3 c4 c5; obtain ⟨c0, c1, c2, c3, c4, c5⟩ := HI.out.cells; clear hb2)
        | (go_at_call 88; refine (CV.out _ (H0.out.trans (HI.out.below.mono H0.out.size)) (by trivial)).mono ?_; rintro e w2 ⟨rfl, hb2⟩; replace HI := Lib.hid (HI.out.next hb2); clear hb2))
      go_ret
      exact ⟨by rw [HR.out]; rfl, H0.out.trans (HI.out.below.mono H0.out.size)⟩
    | false =>
      have HR : Hid (res = 1) := Lib.hid (by rw [HV.out]; rfl)
      clear HV
      go_enter Tryz.func33, Tryz.ntmps33
      go_wp2_with (first
        | (go_at_call 87; refine (CT.out _ H0.out).mono ?_; rintro e w2 ⟨rfl, hb2⟩; replace HI := Lib.hid (HI.out.next hb2); clear c0 c1 c2 c3 c4 c5; obtain ⟨c0, c1, c2, c3, c4, c5⟩ := HI.out.cells; clear hb2)
        | (go_at_call 88; refine (CV.out _ (H0.out.trans (HI.out.below.mono H0.out.size)) (by trivial)).mono ?_; rintro e w2 ⟨rfl, hb2⟩; replace HI := Lib.hid (HI.out.next hb2); clear hb2))
      go_ret
      exact ⟨by rw [HR.out]; rfl, H0.out.trans (HI.out.below.mono H0.out.size)⟩
end
end Go.Proofs.YtcfgppjhgobboaaGreatDoor
