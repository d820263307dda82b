/-
  What long and Check of the document return.
-/
import Derived.Test.YtcfgppjhgobboaaGreatDoorTiRefChk2
import Derived.Deep.RegionWith
namespace Go.Proofs.YtcfgppjhgobboaaGreatDoor
open Go.RowKit Go.Shelf Go.Lib
attribute [local go_sem] Oper.semAt_some

def CountI (n : Nat) (p : Nat → Prop) (i : Value) : Prop := ∃ k : Nat, i = .int .i64 k ∧ k ≤ n ∧ p k

set_option maxRecDepth 100000 in
set_option maxHeartbeats 4000000 in
theorem long_any (w : World) (t : TermD) (v : Nat → Value) (ve : Value) (h : TermV w v ve t) (hT : Tabs w) : Calls Tryz.prog 94 #[termVal t v ve] w fun e w' => e = .returned (.bool (tooLongP t)) ∧ Below w.heap.size w w' := by
  obtain ⟨A0, n0, A1, n1, A2, n2, A3, n3, e0, e1, e2, e3, ⟨s0, s1, s2, s3⟩, g0, g1, g2, g3⟩ := h.forms
  show Calls _ _ #[.agg #[str t.names, .bool t.wide, v 0, v 1, v 2, ve]] _ _
  rw [e0, e1, e2, e3]
  clear h e0 e1 e2 e3
  obtain ⟨nm, wd, l0, l1, l2, l3⟩ := t
  simp only at s0 s1 s2 s3 g0 g1 g2 g3 ⊢
  have HV : Hid (tooLongP ⟨nm, wd, l0, l1, l2, l3⟩ = ((decide (511 < nm.length) || decide (64 < l0.length) || decide (64 < l1.length) || decide (512 < l2.length) || decide (256 < l3.length)) || longExt l3 || (longText l0 || longText l1 || longText l2))) := Lib.hid rfl
  generalize tooLongP ⟨nm, wd, l0, l1, l2, l3⟩ = res at *
  by_cases q0 : 511 < nm.length
  · have HQ : Hid (res = true) := Lib.hid (by rw [HV.out]; simp [q0])
    have r0 : (511 : Int) < (nm.length : Int) := by omega
    clear q0 HV g0 g1 g2 g3 hT
    go_enter Tryz.func94, Tryz.ntmps94
    go_wp2_with fail
    go_ret
    exact ⟨ret_bool HQ.out.symm, (Below.refl _ _).alloc (Nat.le_refl _) _⟩
  have r0 : ¬ (511 : Int) < (nm.length : Int) := by omega
  by_cases q1 : 64 < l0.length
  · have HQ : Hid (res = true) := Lib.hid (by rw [HV.out]; simp [q1])
    have r1 : (64 : Int) < (l0.length : Int) := by omega
    clear q1 HV g0 g1 g2 g3 hT
    go_enter Tryz.func94, Tryz.ntmps94
    go_wp2_with fail
    go_ret
    exact ⟨ret_bool HQ.out.symm, (Below.refl _ _).alloc (Nat.le_refl _) _⟩
  have r1 : ¬ (64 : Int) < (l0.length : Int) := by omega
  by_cases q2 : 64 < l1.length
  · have HQ : Hid (res = true) := Lib.hid (by rw [HV.out]; simp [q2])
    have r2 : (64 : Int) < (l1.length : Int) := by omega
    clear q2 HV g0 g1 g2 g3 hT
    go_enter Tryz.func94, Tryz.ntmps94
    go_wp2_with fail
    go_ret
    exact ⟨ret_bool HQ.out.symm, (Below.refl _ _).alloc (Nat.le_refl _) _⟩
  have r2 : ¬ (64 : Int) < (l1.length : Int) := by omega
  by_cases q3 : 512 < l2.length
  · have HQ : Hid (res = true) := Lib.hid (by rw [HV.out]; simp [q3])
    have r3 : (512 : Int) < (l2.length : Int) := by omega
    clear q3 HV g0 g1 g2 g3 hT
    go_enter Tryz.func94, Tryz.ntmps94
    go_wp2_with fail
    go_ret
    exact ⟨ret_bool HQ.out.symm, (Below.refl _ _).alloc (Nat.le_refl _) _⟩
  have r3 : ¬ (512 : Int) < (l2.length : Int) := by omega
  by_cases q4 : 256 < l3.length
  · have HQ : Hid (res = true) := Lib.hid (by rw [HV.out]; simp [q4])
    have r4 : (256 : Int) < (l3.length : Int) := by omega
    clear q4 HV g0 g1 g2 g3 hT
    go_enter Tryz.func94, Tryz.ntmps94
    go_wp2_with fail
    go_ret
    exact ⟨ret_bool HQ.out.symm, (Below.refl _ _).alloc (Nat.le_refl _) _⟩
  have r4 : ¬ (256 : Int) < (l3.length : Int) := by omega
  have HV2 : Hid (res = (longExt l3 || (longText l0 || longText l1 || longText l2))) := Lib.hid (by rw [HV.out]; simp [q0, q1, q2, q3, q4])
  clear HV q0 q1 q2 q3 q4
  have HI := Lib.hid (InBox.made w hT nm wd (.slice A0 l0.length n0) (.slice A1 l1.length n1) (.slice A2 l2.length n2) (.slice A3 l3.length n3))
  have hb : Below w.heap.size w (w.alloc (termObj nm wd (.slice A0 l0.length n0) (.slice A1 l1.length n1) (.slice A2 l2.length n2) (.slice A3 l3.length n3))) := (Below.refl _ w).alloc (Nat.le_refl _) _
  obtain ⟨c0, c1, c2, c3, c4, c5⟩ := HI.out.cells
  have G0 := Lib.hid (g0.below hb)
  have G1 := Lib.hid (g1.below hb)
  have G2 := Lib.hid (g2.below hb)
  have G3 := Lib.hid (g3.below hb)
  have HB := Lib.hid hb
  clear hb g0 g1 g2 g3 hT HI c0 c1
  go_enter Tryz.func94, Tryz.ntmps94
  go_wp2_with fail
  generalize w.alloc (termObj nm wd (.slice A0 l0.length n0) (.slice A1 l1.length n1) (.slice A2 l2.length n2) (.slice A3 l3.length n3)) = w1 at *
  go_loop [3] (fun i => CountI l2.length (fun k => ((l2.take k).any fun c => decide (1000 < c.text.length)) = false) i) (fun i => l2.length - (RowKit.intOf i).toNat)
  case atStart => exact ⟨0, rfl, Nat.zero_le _, rfl⟩
  case round =>
    obtain ⟨k, rfl, hk, hno⟩ := hrel
    have HNO := Lib.hid hno
    clear hno
    by_cases hlt : k < l2.length
    · obtain ⟨c, hc⟩ : ∃ c, l2[k]? = some c := ⟨_, List.getElem?_eq_getElem hlt⟩
      obtain ⟨kb, off, rfl, hkb, g0, g1, g2⟩ := G2.out.cells hc
      have i1 : (0 : Int) ≤ (k : Int) := by omega
      have i2 : (k : Int) < (l2.length : Int) := by omega
      have HC := Lib.hid hc
      clear hc hkb
      by_cases hq : 1000 < c.text.length
      · have HQ := Lib.hid hq
        have hq' : (1000 : Int) < (c.text.length : Int) := by omega
        clear hq
        go_wp2_with fail
        go_ret
        exact ⟨ret_bool (by symm; rw [HV2.out, show longText l2 = true from any_at HC.out (by simpa using HQ.out)]; simp), HB.out⟩
      · have hq' : ¬ (1000 : Int) < (c.text.length : Int) := by omega
        have HQ := Lib.hid hq
        clear hq
        go_wp2_with fail
        exact ⟨⟨k + 1, by go_num, hlt, any_next HC.out HNO.out (by simpa using HQ.out)⟩, by simp [RowKit.intOf]; omega⟩
    · obtain rfl : k = l2.length := by omega
      have Hl2 := Lib.hid (show longText l2 = false from any_end (Nat.le_refl _) HNO.out)
      clear HNO
      go_wp2_with fail
      go_loop [4] (fun i => CountI l0.length (fun k => ((l0.take k).any fun c => decide (1000 < c.text.length)) = false) i) (fun i => l0.length - (RowKit.intOf i).toNat)
      case atStart => exact ⟨0, rfl, Nat.zero_le _, rfl⟩
      case round =>
        obtain ⟨k, rfl, hk, hno⟩ := hrel
        have HNO := Lib.hid hno
        clear hno
        by_cases hlt : k < l0.length
        · obtain ⟨c, hc⟩ : ∃ c, l0[k]? = some c := ⟨_, List.getElem?_eq_getElem hlt⟩
          obtain ⟨kb, off, rfl, hkb, g0, g1, g2⟩ := G0.out.cells hc
          have i1 : (0 : Int) ≤ (k : Int) := by omega
          have i2 : (k : Int) < (l0.length : Int) := by omega
          have HC := Lib.hid hc
          clear hc hkb
          by_cases hq : 1000 < c.text.length
          · have HQ := Lib.hid hq
            have hq' : (1000 : Int) < (c.text.length : Int) := by omega
            clear hq
            go_wp2_with fail
            go_ret
            exact ⟨ret_bool (by symm; rw [HV2.out, show longText l0 = true from any_at HC.out (by simpa using HQ.out)]; simp), HB.out⟩
          · have hq' : ¬ (1000 : Int) < (c.text.length : Int) := by omega
            have HQ := Lib.hid hq
            clear hq
            go_wp2_with fail
            exact ⟨⟨k + 1, by go_num, hlt, any_next HC.out HNO.out (by simpa using HQ.out)⟩, by simp [RowKit.intOf]; omega⟩
        · obtain rfl : k = l0.length := by omega
          have Hl0 := Lib.hid (show longText l0 = false from any_end (Nat.le_refl _) HNO.out)
          clear HNO
          go_wp2_with fail
          go_loop [5] (fun i => CountI l1.length (fun k => ((l1.take k).any fun c => decide (1000 < c.text.length)) = false) i) (fun i => l1.length - (RowKit.intOf i).toNat)
          case atStart => exact ⟨0, rfl, Nat.zero_le _, rfl⟩
          case round =>
            obtain ⟨k, rfl, hk, hno⟩ := hrel
            have HNO := Lib.hid hno
            clear hno
            by_cases hlt : k < l1.length
            · obtain ⟨c, hc⟩ : ∃ c, l1[k]? = some c := ⟨_, List.getElem?_eq_getElem hlt⟩
              obtain ⟨kb, off, rfl, hkb, g0, g1, g2⟩ := G1.out.cells hc
              have i1 : (0 : Int) ≤ (k : Int) := by omega
              have i2 : (k : Int) < (l1.length : Int) := by omega
              have HC := Lib.hid hc
              clear hc hkb
              by_cases hq : 1000 < c.text.length
              · have HQ := Lib.hid hq
                have hq' : (1000 : Int) < (c.text.length : Int) := by omega
                clear hq
                go_wp2_with fail
                go_ret
                exact ⟨ret_bool (by symm; rw [HV2.out, show longText l1 = true from any_at HC.out (by simpa using HQ.out)]; simp), HB.out⟩
              · have hq' : ¬ (1000 : Int) < (c.text.length : Int) := by omega
                have HQ := Lib.hid hq
                clear hq
                go_wp2_with fail
                exact ⟨⟨k + 1, by go_num, hlt, any_next HC.out HNO.out (by simpa using HQ.out)⟩, by simp [RowKit.intOf]; omega⟩
            · obtain rfl : k = l1.length := by omega
              have Hl1 := Lib.hid (show longText l1 = false from any_end (Nat.le_refl _) HNO.out)
              clear HNO
              go_wp2_with fail
              go_loop [6] (fun i => CountI l3.length (fun k => ((l3.take k).any fun x => decide (1000 < x.name.length) || decide (1000 < x.cap.text.length)) = false) i) (fun i => l3.length - (RowKit.intOf i).toNat)
              case atStart => exact ⟨0, rfl, Nat.zero_le _, rfl⟩
              case round =>
                obtain ⟨k, rfl, hk, hno⟩ := hrel
                have HNO := Lib.hid hno
                clear hno
                by_cases hlt : k < l3.length
                · obtain ⟨x, hx⟩ : ∃ x, l3[k]? = some x := ⟨_, List.getElem?_eq_getElem hlt⟩
                  obtain ⟨kb, off, rfl, hkb, g0, g1, g2, g3, g4⟩ := G3.out.cells hx
                  have i1 : (0 : Int) ≤ (k : Int) := by omega
                  have i2 : (k : Int) < (l3.length : Int) := by omega
                  have HC := Lib.hid hx
                  clear hx hkb
                  by_cases hq : 1000 < x.cap.text.length
                  · have HQ := Lib.hid hq
                    have hq' : (1000 : Int) < (x.cap.text.length : Int) := by omega
                    clear hq
                    go_wp2_with fail
                    go_ret
                    exact ⟨ret_bool (by symm; rw [HV2.out, show longExt l3 = true from any_at HC.out (by simp [HQ.out])]; rfl), HB.out⟩
                  · have hq' : ¬ (1000 : Int) < (x.cap.text.length : Int) := by omega
                    have HQ := Lib.hid hq
                    clear hq
                    by_cases hq2 : 1000 < x.name.length
                    · have HQ2 := Lib.hid hq2
                      have hq2' : (1000 : Int) < (x.name.length : Int) := by omega
                      clear hq2
                      go_wp2_with fail
                      go_ret
                      exact ⟨ret_bool (by symm; rw [HV2.out, show longExt l3 = true from any_at HC.out (by simp [HQ2.out])]; rfl), HB.out⟩
                    · have hq2' : ¬ (1000 : Int) < (x.name.length : Int) := by omega
                      have HQ2 := Lib.hid hq2
                      clear hq2
                      go_wp2_with fail
                      exact ⟨⟨k + 1, by go_num, hlt, any_next HC.out HNO.out (by simp [HQ.out, HQ2.out])⟩, by simp [RowKit.intOf]; omega⟩
                · obtain rfl : k = l3.length := by omega
                  have HQ : Hid (res = false) := Lib.hid (by rw [HV2.out, show longExt l3 = false from any_end (Nat.le_refl _) HNO.out, Hl0.out, Hl1.out, Hl2.out]; rfl)
                  clear HNO
                  go_wp2_with fail
                  go_ret
                  exact ⟨ret_bool HQ.out.symm, HB.out⟩

end Go.Proofs.YtcfgppjhgobboaaGreatDoor
