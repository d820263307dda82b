/-
  The document's Same at two lists of equal actions.
-/
import Derived.Test.YtjoiagaadofndaaDoorVpBoundW
namespace Go.Proofs.YtjoiagaadofndaaDoor
open Go.RowKit Go.Shelf Go.Lib
attribute [local go_sem] Oper.semAt_some

theorem ActRow.below {W W' : World} {B : Nat} {v : Value} {al : List ActD} (h : ActRow W B v al) (hb : Below W.heap.size W W') : ActRow W' B v al := h.touch (Touch.of_below (T := fun _ => False) hb) fun _ hk => hk.elim
theorem own_short {W : World} {B n : Nat} {e : TypeId} {v : Value} {xs : List Value} {size : Nat} (h : W.ownsRow B e size v n xs) : n ≤ 9223372036854775807 := by
  rcases h.2 with ⟨_, h0⟩ | ⟨g, cap, cur, hv, hb, hg, hn, hcm, hs, ht⟩
  · omega
  · unfold maxLen at hcm; omega
def SameI (m : Nat) (w : World) (i : Value) (wr : World) : Prop := ∃ k : Nat, k ≤ m ∧ i = .int .i64 k ∧ Below w.heap.size w wr

set_option maxRecDepth 1000000 in
set_option maxHeartbeats 4000000 in
theorem refSame_eq (w : World) (B1 B2 : Nat) (v1 v2 : Value) (al : List ActD) (h1 : ActRow w B1 v1 al) (h2 : ActRow w B2 v2 al) (hl : al.length ≤ 1000000000) :
    Calls Tryd.prog 13 #[v1, v2] w fun e w' => e = .returned (.bool true) ∧ Below w.heap.size w w' := by
  have H1 := Lib.hid h1
  have H2 := Lib.hid h2
  obtain ⟨A1, c1, rfl⟩ := h1.form
  obtain ⟨A2, c2, rfl⟩ := h2.form
  clear h1 h2
  generalize hm : al.length = m at *
  have HM := Lib.hid hm
  have HL := Lib.hid hl
  clear hm hl
  go_enter Tryd.func13, Tryd.ntmps13
  go_wp2
  go_loopw [5] (fun i wr => SameI m w i wr) (fun i _ => m - (RowKit.intOf i).toNat)
  case atStart => exact ⟨0, Nat.zero_le _, rfl, Below.refl _ _⟩
  case round =>
    obtain ⟨k, hk, rfl, hb⟩ := hrel
    by_cases hlt : k < m
    · obtain ⟨a, hx⟩ : ∃ a, al[k]? = some a := ⟨_, List.getElem?_eq_getElem (by rw [HM.out]; exact hlt)⟩
      obtain ⟨g1, cap1, pv1, hv1, hgl1, hi1, k0, k1, k2, k3, k4, k5, k6⟩ := (H1.out.below hb).at hx
      obtain ⟨g2, cap2, pv2, hv2, hgl2, hi2, m0, m1, m2, m3, m4, m5, m6⟩ := (H2.out.below hb).at hx
      injection hv1 with e1 e2 e3
      subst e1 e3
      clear e2
      injection hv2 with e1 e2 e3
      subst e1 e3
      clear e2
      obtain ⟨A3, c3, rfl, _⟩ := own_form hi1
      obtain ⟨A4, c4, rfl, _⟩ := own_form hi2
      have i1 : (0 : Int) ≤ (k : Int) := by omega
      have i2 : ((k : Int) < (m : Int)) = True := by simp; exact hlt
      have hwk : wrap64 ((k : Int) + 1) = (k : Int) + 1 := by have := HL.out; unfold wrap64; omega
      have HI1 := Lib.hid hi1
      have HI2 := Lib.hid hi2
      have HB := Lib.hid hb
      have HPS : Hid (a.ps.length ≤ 9223372036854775807) := Lib.hid (own_short hi1)
      have HLT := Lib.hid hlt
      clear hi1 hi2 hb hlt hk hx
      go_wp2
      go_region
      · have hP : (((wr.alloc (actObj a (.slice A3 a.ps.length c3))).alloc (actObj a (.slice A4 a.ps.length c4))).drew).heap[wr.heap.size]? = some (actObj a (.slice A3 a.ps.length c3)) := (Below.heap_alloc (wr.alloc (actObj a (.slice A3 a.ps.length c3))) _ _ (by simp)).trans (heap_alloc_new wr _)
        have hQ : (((wr.alloc (actObj a (.slice A3 a.ps.length c3))).alloc (actObj a (.slice A4 a.ps.length c4))).drew).heap[wr.heap.size + 1]? = some (actObj a (.slice A4 a.ps.length c4)) := alloc_two wr (actObj a (.slice A3 a.ps.length c3)) (actObj a (.slice A4 a.ps.length c4))
        have hba : Below wr.heap.size wr ((wr.alloc (actObj a (.slice A3 a.ps.length c3))).alloc (actObj a (.slice A4 a.ps.length c4))).drew := (((Below.refl wr.heap.size wr).alloc (Nat.le_refl _) (actObj a (.slice A3 a.ps.length c3))).alloc (by simp) (actObj a (.slice A4 a.ps.length c4))).drew
        have HB2 := Lib.hid (HB.out.trans (hba.mono HB.out.size))
        have HI3 := Lib.hid (Holds1.of_own (own_below HI1.out hba))
        have HI4 := Lib.hid (Holds1.of_own (own_below HI2.out hba))
        clear hba
        generalize ((wr.alloc (actObj a (.slice A3 a.ps.length c3))).alloc (actObj a (.slice A4 a.ps.length c4))).drew = W2 at *
        obtain ⟨x, hx⟩ : ∃ x, x = wr.heap.size := ⟨_, rfl⟩
        obtain ⟨y, hy⟩ : ∃ y, y = wr.heap.size + 1 := ⟨_, rfl⟩
        rw [← hx] at hP
        rw [← hy] at hQ
        have p0 := cell_of_row _ _ 0 _ _ _ hP
        have p1 := cell_of_row _ _ 1 _ _ _ hP
        have p2 := cell_of_row _ _ 2 _ _ _ hP
        have p3 := cell_of_row _ _ 3 _ _ _ hP
        have p4 := cell_of_row _ _ 4 _ _ _ hP
        have p5 := cell_of_row _ _ 5 _ _ _ hP
        have p6 := cell_of_row _ _ 6 _ _ _ hP
        have q0 := cell_of_row _ _ 0 _ _ _ hQ
        have q1 := cell_of_row _ _ 1 _ _ _ hQ
        have q2 := cell_of_row _ _ 2 _ _ _ hQ
        have q3 := cell_of_row _ _ 3 _ _ _ hQ
        have q4 := cell_of_row _ _ 4 _ _ _ hQ
        have q5 := cell_of_row _ _ 5 _ _ _ hQ
        have q6 := cell_of_row _ _ 6 _ _ _ hQ
        have HP := Lib.hid hP
        have HQ := Lib.hid hQ
        clear hP hQ k0 k1 k2 k3 k4 k5 k6 m0 m1 m2 m3 m4 m5 m6 hgl1 hgl2
        rw [← hy, ← hx]
        clear hx hy
        generalize hps : a.ps = ps at *
        clear hps
        go_wp2
        clear p0 p1 p2 p3 p5 p6 q0 q1 q2 q3 q5 q6
        go_loopw [8] (fun i wr' => SameI ps.length W2 i wr') (fun i _ => ps.length - (RowKit.intOf i).toNat)
        case atStart => exact ⟨0, Nat.zero_le _, rfl, Below.refl _ _⟩
        case round =>
          obtain ⟨j, hj, rfl, hb⟩ := hrel
          have p4' := (hb.cell (p := ⟨x, 4, none⟩) (Array.getElem?_eq_some_iff.1 HP.out).1).trans p4
          have q4' := (hb.cell (p := ⟨y, 4, none⟩) (Array.getElem?_eq_some_iff.1 HQ.out).1).trans q4
          by_cases hjl : j < ps.length
          · obtain ⟨u, hu⟩ : ∃ u, ps[j]? = some u := ⟨_, List.getElem?_eq_getElem hjl⟩
            obtain ⟨A5, c5, e5, _, hc5⟩ := HI3.out.below hb
            obtain ⟨A6, c6, e6, _, hc6⟩ := HI4.out.below hb
            injection e5 with e1 e2 e3
            subst e1 e3
            clear e2
            injection e6 with e1 e2 e3
            subst e1 e3
            clear e2
            obtain ⟨b5, o5, rfl, _, hc5⟩ := hc5 (by rw [intVals_length]; omega)
            obtain ⟨b6, o6, rfl, _, hc6⟩ := hc6 (by rw [intVals_length]; omega)
            have l5 := hc5 j (.int .i64 u) (by simp [intVals, hu])
            have l6 := hc6 j (.int .i64 u) (by simp [intVals, hu])
            have j1 : (0 : Int) ≤ (j : Int) := by omega
            have j2 : ((j : Int) < (ps.length : Int)) = True := by simp; exact hjl
            have hwj : wrap64 ((j : Int) + 1) = (j : Int) + 1 := by have := HPS.out; unfold wrap64; omega
            have HJ := Lib.hid hb
            have HJL := Lib.hid hjl
            clear hc5 hc6 hjl hj hu hb p4 q4
            go_wp2
            go_region
            go_wp2
            go_roundw
            case rel => exact ⟨j + 1, HJL.out, next_val hwj, HJ.out.drew⟩
            case measure => exact measure_lt HJL.out hwj
          · obtain rfl : j = ps.length := by omega
            have j2 : ((ps.length : Int) < (ps.length : Int)) = False := by simp
            clear hjl hj
            go_wp2
            go_roundw
            case rel => exact ⟨k + 1, HLT.out, next_val hwk, HB2.out.trans (hb.mono HB2.out.size)⟩
            case measure => exact measure_lt HLT.out hwk
      · have hP : (((wr.alloc (actObj a (.slice A4 a.ps.length c4))).alloc (actObj a (.slice A3 a.ps.length c3))).drew).heap[wr.heap.size]? = some (actObj a (.slice A4 a.ps.length c4)) := (Below.heap_alloc (wr.alloc (actObj a (.slice A4 a.ps.length c4))) _ _ (by simp)).trans (heap_alloc_new wr _)
        have hQ : (((wr.alloc (actObj a (.slice A4 a.ps.length c4))).alloc (actObj a (.slice A3 a.ps.length c3))).drew).heap[wr.heap.size + 1]? = some (actObj a (.slice A3 a.ps.length c3)) := alloc_two wr (actObj a (.slice A4 a.ps.length c4)) (actObj a (.slice A3 a.ps.length c3))
        have hba : Below wr.heap.size wr ((wr.alloc (actObj a (.slice A4 a.ps.length c4))).alloc (actObj a (.slice A3 a.ps.length c3))).drew := (((Below.refl wr.heap.size wr).alloc (Nat.le_refl _) (actObj a (.slice A4 a.ps.length c4))).alloc (by simp) (actObj a (.slice A3 a.ps.length c3))).drew
        have HB2 := Lib.hid (HB.out.trans (hba.mono HB.out.size))
        have HI3 := Lib.hid (Holds1.of_own (own_below HI1.out hba))
        have HI4 := Lib.hid (Holds1.of_own (own_below HI2.out hba))
        clear hba
        generalize ((wr.alloc (actObj a (.slice A4 a.ps.length c4))).alloc (actObj a (.slice A3 a.ps.length c3))).drew = W2 at *
        obtain ⟨x, hx⟩ : ∃ x, x = wr.heap.size := ⟨_, rfl⟩
        obtain ⟨y, hy⟩ : ∃ y, y = wr.heap.size + 1 := ⟨_, rfl⟩
        rw [← hx] at hP
        rw [← hy] at hQ
        have p0 := cell_of_row _ _ 0 _ _ _ hP
        have p1 := cell_of_row _ _ 1 _ _ _ hP
        have p2 := cell_of_row _ _ 2 _ _ _ hP
        have p3 := cell_of_row _ _ 3 _ _ _ hP
        have p4 := cell_of_row _ _ 4 _ _ _ hP
        have p5 := cell_of_row _ _ 5 _ _ _ hP
        have p6 := cell_of_row _ _ 6 _ _ _ hP
        have q0 := cell_of_row _ _ 0 _ _ _ hQ
        have q1 := cell_of_row _ _ 1 _ _ _ hQ
        have q2 := cell_of_row _ _ 2 _ _ _ hQ
        have q3 := cell_of_row _ _ 3 _ _ _ hQ
        have q4 := cell_of_row _ _ 4 _ _ _ hQ
        have q5 := cell_of_row _ _ 5 _ _ _ hQ
        have q6 := cell_of_row _ _ 6 _ _ _ hQ
        have HP := Lib.hid hP
        have HQ := Lib.hid hQ
        clear hP hQ k0 k1 k2 k3 k4 k5 k6 m0 m1 m2 m3 m4 m5 m6 hgl1 hgl2
        rw [← hy, ← hx]
        clear hx hy
        generalize hps : a.ps = ps at *
        clear hps
        go_wp2
        clear p0 p1 p2 p3 p5 p6 q0 q1 q2 q3 q5 q6
        go_loopw [8] (fun i wr' => SameI ps.length W2 i wr') (fun i _ => ps.length - (RowKit.intOf i).toNat)
        case atStart => exact ⟨0, Nat.zero_le _, rfl, Below.refl _ _⟩
        case round =>
          obtain ⟨j, hj, rfl, hb⟩ := hrel
          have p4' := (hb.cell (p := ⟨x, 4, none⟩) (Array.getElem?_eq_some_iff.1 HP.out).1).trans p4
          have q4' := (hb.cell (p := ⟨y, 4, none⟩) (Array.getElem?_eq_some_iff.1 HQ.out).1).trans q4
          by_cases hjl : j < ps.length
          · obtain ⟨u, hu⟩ : ∃ u, ps[j]? = some u := ⟨_, List.getElem?_eq_getElem hjl⟩
            obtain ⟨A5, c5, e5, _, hc5⟩ := HI3.out.below hb
            obtain ⟨A6, c6, e6, _, hc6⟩ := HI4.out.below hb
            injection e5 with e1 e2 e3
            subst e1 e3
            clear e2
            injection e6 with e1 e2 e3
            subst e1 e3
            clear e2
            obtain ⟨b5, o5, rfl, _, hc5⟩ := hc5 (by rw [intVals_length]; omega)
            obtain ⟨b6, o6, rfl, _, hc6⟩ := hc6 (by rw [intVals_length]; omega)
            have l5 := hc5 j (.int .i64 u) (by simp [intVals, hu])
            have l6 := hc6 j (.int .i64 u) (by simp [intVals, hu])
            have j1 : (0 : Int) ≤ (j : Int) := by omega
            have j2 : ((j : Int) < (ps.length : Int)) = True := by simp; exact hjl
            have hwj : wrap64 ((j : Int) + 1) = (j : Int) + 1 := by have := HPS.out; unfold wrap64; omega
            have HJ := Lib.hid hb
            have HJL := Lib.hid hjl
            clear hc5 hc6 hjl hj hu hb p4 q4
            go_wp2
            go_region
            go_wp2
            go_roundw
            case rel => exact ⟨j + 1, HJL.out, next_val hwj, HJ.out.drew⟩
            case measure => exact measure_lt HJL.out hwj
          · obtain rfl : j = ps.length := by omega
            have j2 : ((ps.length : Int) < (ps.length : Int)) = False := by simp
            clear hjl hj
            go_wp2
            go_roundw
            case rel => exact ⟨k + 1, HLT.out, next_val hwk, HB2.out.trans (hb.mono HB2.out.size)⟩
            case measure => exact measure_lt HLT.out hwk
    · obtain rfl : k = m := by omega
      have i2 : ((k : Int) < (k : Int)) = False := by simp
      clear hlt hk
      go_wp2
      go_ret
      exact ⟨rfl, hb⟩
end Go.Proofs.YtjoiagaadofndaaDoor
