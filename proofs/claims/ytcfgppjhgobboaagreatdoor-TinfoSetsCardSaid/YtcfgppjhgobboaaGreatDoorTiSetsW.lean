/-
  Setting a capability: the law's own walk.
-/
import Derived.Test.YtcfgppjhgobboaaGreatDoorTmObjs
import Derived.RegionTactic
namespace Go.Proofs.YtcfgppjhgobboaaGreatDoor
open Go.RowKit Go.Shelf Go.Lib
attribute [local go_sem] Oper.semAt_some

set_option maxRecDepth 100000 in
set_option maxHeartbeats 8000000 in
theorem sets_walk (w : World) (t : TermD) (v : Nat → Value) (ve : Value) (h : TermV w v ve t) (hT : Tabs w) (name other : List UInt8) (c : CapD) :
    Calls Tryz.prog 5 #[termVal t v ve, .agg #[str name, .int .i64 c.st, .int .i64 c.num, str c.text, str other]] w fun e w' => e = .returned (.bool true) ∧ Below w.heap.size w w' := by
  obtain ⟨A0, n0, A1, n1, A2, n2, A3, n3, hv, hV⟩ := h.slices
  rw [hv]
  have HFT := Lib.hid h.fits
  clear h hv
  have CS : Hid (∀ W, Below w.heap.size w W → Calls Tryz.prog 14 #[.agg #[str t.names, .bool t.wide, .slice A0 t.bools.length n0, .slice A1 t.nums.length n1, .slice A2 t.strs.length n2, .slice A3 t.exts.length n3], str name, .agg #[.int .i64 c.st, .int .i64 c.num, str c.text]] W (SetPost W (setP t name c))) := Lib.hid (fun W hW => set_any W t _ _ (hV.below hW) (hT.below hW) name c)
  have CR : Hid (∀ W, Below w.heap.size w W → Calls Tryz.prog 15 #[.agg #[str t.names, .bool t.wide, .slice A0 t.bools.length n0, .slice A1 t.nums.length n1, .slice A2 t.strs.length n2, .slice A3 t.exts.length n3], str name, .agg #[.int .i64 c.st, .int .i64 c.num, str c.text]] W (RSetPost W (setP t name c))) := Lib.hid (fun W hW => refSet_any W t _ _ (hV.below hW) (hT.below hW) name c)
  have CG : Hid (∀ W, Below w.heap.size w W → Calls Tryz.prog 16 #[.agg #[str t.names, .bool t.wide, .slice A0 t.bools.length n0, .slice A1 t.nums.length n1, .slice A2 t.strs.length n2, .slice A3 t.exts.length n3], str other] W (GetPost W (findR t other))) := Lib.hid (fun W hW => get_any W t _ _ (hV.below hW) (hT.below hW) other)
  have ho := ((Objs.none hT).push (termObj t.names t.wide (.slice A0 t.bools.length n0) (.slice A1 t.nums.length n1) (.slice A2 t.strs.length n2) (.slice A3 t.exts.length n3))).push (.cells #[str name, .int .i64 c.st, .int .i64 c.num, str c.text, str other] 39)
  simp only [World.size_alloc] at ho
  have HO := Lib.hid ho
  clear hV hT ho
  have HFU := Lib.hid (setP_fits (name := name) (c := c) HFT.out)
  have HOK : Hid (∀ x, setP t name c = (x, 0) → putTP t name c = some x) := Lib.hid (fun x hx => setP_ok hx)
  generalize setP t name c = r at *
  obtain ⟨u, er⟩ := r
  go_enter Tryz.func5, Tryz.ntmps5
  go_wp2_with fail
  go_region
  have ho1 := (HO.out.push (capObj c)).next ((Below.refl _ _).drew)
  simp only [World.size_alloc] at ho1
  have HO1 := Lib.hid ho1
  obtain ⟨c0, c1, c2, c3, c4, c5⟩ := ho1.term (.tail _ (.tail _ (.head _)))
  obtain ⟨k0, k1, k2⟩ := ho1.cap (.head _)
  clear ho1 HO
  by_cases he : er = 0
  · subst he
    have HP := Lib.hid (HOK.out u rfl)
    have HFS := Lib.hid (findR_set HP.out)
    obtain ⟨⟨x0, x, bx⟩, hx⟩ : ∃ q, findR t other = q := ⟨_, rfl⟩
    obtain ⟨⟨y0, y, b'⟩, hy⟩ : ∃ q, findR u other = q := ⟨_, rfl⟩
    have HSE : Hid (other = name ∨ x = y) := Lib.hid (by
      by_cases hon : other = name
      · exact .inl hon
      · have := findR_other HP.out hon
        rw [hx, hy] at this
        exact .inr this.symm)
    have HFT2 := Lib.hid hx
    have HFU2 := Lib.hid hy
    clear hx hy
    have tok1 : True := trivial
    have tok2 : True := trivial
    have qc := fun w => eql_cap c c w
    simp only [decide_true] at qc
    rcases HSE.out with hon | hxy
    · obtain rfl : name = other := hon.symm
      clear hon
      go_wp2_with (first
        | (go_at_call 14; refine (CS.out _ HO1.out.below).mono ?_; rintro e W1 hp; obtain ⟨B0, m0, B1, m1, B2, m2, B3, m3, rfl, hu, hb⟩ := hp.slices HFU.out; have HO2 := Lib.hid ((HO1.out.next hb).push (termObj u.names u.wide (.slice B0 u.bools.length m0) (.slice B1 u.nums.length m1) (.slice B2 u.strs.length m2) (.slice B3 u.exts.length m3))); have HU := Lib.hid (hu.below (below_alloc W1 (termObj u.names u.wide (.slice B0 u.bools.length m0) (.slice B1 u.nums.length m1) (.slice B2 u.strs.length m2) (.slice B3 u.exts.length m3)))); clear hp hu hb; clear c0 c1 c2 c3 c4 c5 k0 k1 k2; obtain ⟨c0, c1, c2, c3, c4, c5⟩ := HO2.out.term (.tail _ (.tail _ (.tail _ (.head _)))); obtain ⟨k0, k1, k2⟩ := HO2.out.cap (.tail _ (.head _)))
        | (go_at_call 15; refine (CR.out _ HO2.out.below).mono ?_; rintro e W2 hp; obtain ⟨D0, q0, D1, q1, D2, q2, D3, q3, rfl, hu, hb⟩ := hp.slices; have HO3 := Lib.hid ((HO2.out.next hb).push (termObj u.names u.wide (.slice D0 u.bools.length q0) (.slice D1 u.nums.length q1) (.slice D2 u.strs.length q2) (.slice D3 u.exts.length q3))); have HX := Lib.hid (hu.below (below_alloc W2 (termObj u.names u.wide (.slice D0 u.bools.length q0) (.slice D1 u.nums.length q1) (.slice D2 u.strs.length q2) (.slice D3 u.exts.length q3)))); have HU2 := Lib.hid ((HU.out.below hb).below (below_alloc W2 (termObj u.names u.wide (.slice D0 u.bools.length q0) (.slice D1 u.nums.length q1) (.slice D2 u.strs.length q2) (.slice D3 u.exts.length q3)))); clear hp hu hb; clear c0 c1 c2 c3 c4 c5 k0 k1 k2)
        | (go_at_call 9; refine (live_any _ HO3.out.tabs).mono ?_; rintro e W3 ⟨rfl, hb⟩; have HO4 := Lib.hid (HO3.out.next hb); have HX3 := Lib.hid (HX.out.below hb); have HU3 := Lib.hid (HU2.out.below hb); have CM := Lib.hid (refSame_eq W3 u _ _ _ _ HU3.out HX3.out); clear hb; obtain ⟨c0, c1, c2, c3, c4, c5⟩ := HO4.out.term (.tail _ (.head _)); obtain ⟨d0, d1, d2, d3, d4, d5⟩ := HO4.out.term (.head _))
        | (go_at_call 10; refine (CM.out).mono ?_; rintro e W4 ⟨rfl, hb⟩; have HO5 := Lib.hid (HO4.out.next hb); have HU4 := Lib.hid (HU3.out.below hb); have CU := Lib.hid (fun nm W (hW : Below W4.heap.size W4 W) => get_any W u _ _ (HU4.out.below hW) (HO5.out.tabs.below hW) nm); clear hb CM c0 c1 c2 c3 c4 c5 d0 d1 d2 d3 d4 d5; obtain ⟨c0, c1, c2, c3, c4, c5⟩ := HO5.out.term (.tail _ (.head _)))
        | (go_at_call 16; have _t := tok1; have CN := CU.out name W4 (Below.refl _ _); unfold GetPost at CN; rw [HFS.out] at CN; refine (CN).mono ?_; clear CN; rintro e W5 ⟨rfl, hb⟩; have HB5 := Lib.hid (hb.trans ((below_alloc W5 (capObj c)).mono hb.size)); have HO6 := Lib.hid ((HO5.out.next hb).push (capObj c)); clear hb tok1 c0 c1 c2 c3 c4 c5; obtain ⟨c0, c1, c2, c3, c4, c5⟩ := HO6.out.term (.tail _ (.tail _ (.tail _ (.tail _ (.tail _ (.head _)))))))
        | (go_at_call 16; have _t := tok2; have CN := CG.out _ HO6.out.below; unfold GetPost at CN; rw [HFT2.out] at CN; refine (CN).mono ?_; clear CN; rintro e W6 ⟨rfl, hb⟩; have HB6 := Lib.hid (HB5.out.trans ((hb.trans ((below_alloc W6 (capObj x)).mono hb.size)).mono HB5.out.size)); have HO7 := Lib.hid ((HO6.out.next hb).push (capObj x)); clear hb tok2 c0 c1 c2 c3 c4 c5; obtain ⟨c0, c1, c2, c3, c4, c5⟩ := HO7.out.term (.tail _ (.tail _ (.tail _ (.head _)))))
        | (go_at_call 16; have CN := CU.out name _ HB6.out; unfold GetPost at CN; rw [HFU2.out] at CN; refine (CN).mono ?_; clear CN; rintro e W7 ⟨rfl, hb⟩; have HO8 := Lib.hid ((HO7.out.next hb).push (capObj y)); clear hb c0 c1 c2 c3 c4 c5; obtain ⟨i0, i1, i2⟩ := HO8.out.cap (.tail _ (.tail _ (.head _))); obtain ⟨j0, j1, j2⟩ := HO8.out.cap (.tail _ (.head _)); obtain ⟨l0, l1, l2⟩ := HO8.out.cap (.head _); obtain ⟨k0, k1, k2⟩ := HO8.out.cap (.tail _ (.tail _ (.tail _ (.tail _ (.tail _ (.head _))))))))
      go_ret
      exact ⟨rfl, HO8.out.below⟩
    · subst hxy
      have qx := fun w => eql_cap x x w
      simp only [decide_true] at qx
      go_wp2_with (first
        | (go_at_call 14; refine (CS.out _ HO1.out.below).mono ?_; rintro e W1 hp; obtain ⟨B0, m0, B1, m1, B2, m2, B3, m3, rfl, hu, hb⟩ := hp.slices HFU.out; have HO2 := Lib.hid ((HO1.out.next hb).push (termObj u.names u.wide (.slice B0 u.bools.length m0) (.slice B1 u.nums.length m1) (.slice B2 u.strs.length m2) (.slice B3 u.exts.length m3))); have HU := Lib.hid (hu.below (below_alloc W1 (termObj u.names u.wide (.slice B0 u.bools.length m0) (.slice B1 u.nums.length m1) (.slice B2 u.strs.length m2) (.slice B3 u.exts.length m3)))); clear hp hu hb; clear c0 c1 c2 c3 c4 c5 k0 k1 k2; obtain ⟨c0, c1, c2, c3, c4, c5⟩ := HO2.out.term (.tail _ (.tail _ (.tail _ (.head _)))); obtain ⟨k0, k1, k2⟩ := HO2.out.cap (.tail _ (.head _)))
        | (go_at_call 15; refine (CR.out _ HO2.out.below).mono ?_; rintro e W2 hp; obtain ⟨D0, q0, D1, q1, D2, q2, D3, q3, rfl, hu, hb⟩ := hp.slices; have HO3 := Lib.hid ((HO2.out.next hb).push (termObj u.names u.wide (.slice D0 u.bools.length q0) (.slice D1 u.nums.length q1) (.slice D2 u.strs.length q2) (.slice D3 u.exts.length q3))); have HX := Lib.hid (hu.below (below_alloc W2 (termObj u.names u.wide (.slice D0 u.bools.length q0) (.slice D1 u.nums.length q1) (.slice D2 u.strs.length q2) (.slice D3 u.exts.length q3)))); have HU2 := Lib.hid ((HU.out.below hb).below (below_alloc W2 (termObj u.names u.wide (.slice D0 u.bools.length q0) (.slice D1 u.nums.length q1) (.slice D2 u.strs.length q2) (.slice D3 u.exts.length q3)))); clear hp hu hb; clear c0 c1 c2 c3 c4 c5 k0 k1 k2)
        | (go_at_call 9; refine (live_any _ HO3.out.tabs).mono ?_; rintro e W3 ⟨rfl, hb⟩; have HO4 := Lib.hid (HO3.out.next hb); have HX3 := Lib.hid (HX.out.below hb); have HU3 := Lib.hid (HU2.out.below hb); have CM := Lib.hid (refSame_eq W3 u _ _ _ _ HU3.out HX3.out); clear hb; obtain ⟨c0, c1, c2, c3, c4, c5⟩ := HO4.out.term (.tail _ (.head _)); obtain ⟨d0, d1, d2, d3, d4, d5⟩ := HO4.out.term (.head _))
        | (go_at_call 10; refine (CM.out).mono ?_; rintro e W4 ⟨rfl, hb⟩; have HO5 := Lib.hid (HO4.out.next hb); have HU4 := Lib.hid (HU3.out.below hb); have CU := Lib.hid (fun nm W (hW : Below W4.heap.size W4 W) => get_any W u _ _ (HU4.out.below hW) (HO5.out.tabs.below hW) nm); clear hb CM c0 c1 c2 c3 c4 c5 d0 d1 d2 d3 d4 d5; obtain ⟨c0, c1, c2, c3, c4, c5⟩ := HO5.out.term (.tail _ (.head _)))
        | (go_at_call 16; have _t := tok1; have CN := CU.out name W4 (Below.refl _ _); unfold GetPost at CN; rw [HFS.out] at CN; refine (CN).mono ?_; clear CN; rintro e W5 ⟨rfl, hb⟩; have HB5 := Lib.hid (hb.trans ((below_alloc W5 (capObj c)).mono hb.size)); have HO6 := Lib.hid ((HO5.out.next hb).push (capObj c)); clear hb tok1 c0 c1 c2 c3 c4 c5; obtain ⟨c0, c1, c2, c3, c4, c5⟩ := HO6.out.term (.tail _ (.tail _ (.tail _ (.tail _ (.tail _ (.head _)))))))
        | (go_at_call 16; have _t := tok2; have CN := CG.out _ HO6.out.below; unfold GetPost at CN; rw [HFT2.out] at CN; refine (CN).mono ?_; clear CN; rintro e W6 ⟨rfl, hb⟩; have HB6 := Lib.hid (HB5.out.trans ((hb.trans ((below_alloc W6 (capObj x)).mono hb.size)).mono HB5.out.size)); have HO7 := Lib.hid ((HO6.out.next hb).push (capObj x)); clear hb tok2 c0 c1 c2 c3 c4 c5; obtain ⟨c0, c1, c2, c3, c4, c5⟩ := HO7.out.term (.tail _ (.tail _ (.tail _ (.head _)))))
        | (go_at_call 16; have CN := CU.out other _ HB6.out; unfold GetPost at CN; rw [HFU2.out] at CN; refine (CN).mono ?_; clear CN; rintro e W7 ⟨rfl, hb⟩; have HO8 := Lib.hid ((HO7.out.next hb).push (capObj x)); clear hb c0 c1 c2 c3 c4 c5; obtain ⟨i0, i1, i2⟩ := HO8.out.cap (.tail _ (.tail _ (.head _))); obtain ⟨j0, j1, j2⟩ := HO8.out.cap (.tail _ (.head _)); obtain ⟨l0, l1, l2⟩ := HO8.out.cap (.head _); obtain ⟨k0, k1, k2⟩ := HO8.out.cap (.tail _ (.tail _ (.tail _ (.tail _ (.tail _ (.head _))))))))
      all_goals (go_ret; exact ⟨rfl, HO8.out.below⟩)
  · have hq1 : (er == 0) = false := by simpa using he
    have hq2 : (er != 0) = true := by simpa using he
    clear he
    go_wp2_with (first
      | (go_at_call 14; refine (CS.out _ HO1.out.below).mono ?_; rintro e W1 hp; obtain ⟨B0, m0, B1, m1, B2, m2, B3, m3, rfl, hu, hb⟩ := hp.slices HFU.out; have HO2 := Lib.hid ((HO1.out.next hb).push (termObj u.names u.wide (.slice B0 u.bools.length m0) (.slice B1 u.nums.length m1) (.slice B2 u.strs.length m2) (.slice B3 u.exts.length m3))); have HU := Lib.hid (hu.below (below_alloc W1 (termObj u.names u.wide (.slice B0 u.bools.length m0) (.slice B1 u.nums.length m1) (.slice B2 u.strs.length m2) (.slice B3 u.exts.length m3)))); clear hp hu hb; clear c0 c1 c2 c3 c4 c5 k0 k1 k2; obtain ⟨c0, c1, c2, c3, c4, c5⟩ := HO2.out.term (.tail _ (.tail _ (.tail _ (.head _)))); obtain ⟨k0, k1, k2⟩ := HO2.out.cap (.tail _ (.head _)))
      | (go_at_call 15; refine (CR.out _ HO2.out.below).mono ?_; rintro e W2 hp; obtain ⟨D0, q0, D1, q1, D2, q2, D3, q3, rfl, hu, hb⟩ := hp.slices; have HO3 := Lib.hid ((HO2.out.next hb).push (termObj u.names u.wide (.slice D0 u.bools.length q0) (.slice D1 u.nums.length q1) (.slice D2 u.strs.length q2) (.slice D3 u.exts.length q3))); have HX := Lib.hid (hu.below (below_alloc W2 (termObj u.names u.wide (.slice D0 u.bools.length q0) (.slice D1 u.nums.length q1) (.slice D2 u.strs.length q2) (.slice D3 u.exts.length q3)))); have HU2 := Lib.hid ((HU.out.below hb).below (below_alloc W2 (termObj u.names u.wide (.slice D0 u.bools.length q0) (.slice D1 u.nums.length q1) (.slice D2 u.strs.length q2) (.slice D3 u.exts.length q3)))); clear hp hu hb; clear c0 c1 c2 c3 c4 c5 k0 k1 k2)
      | (go_at_call 9; refine (live_any _ HO3.out.tabs).mono ?_; rintro e W3 ⟨rfl, hb⟩; have HO4 := Lib.hid (HO3.out.next hb); have HX3 := Lib.hid (HX.out.below hb); have HU3 := Lib.hid (HU2.out.below hb); have CM := Lib.hid (refSame_eq W3 u _ _ _ _ HU3.out HX3.out); clear hb; obtain ⟨c0, c1, c2, c3, c4, c5⟩ := HO4.out.term (.tail _ (.head _)); obtain ⟨d0, d1, d2, d3, d4, d5⟩ := HO4.out.term (.head _))
      | (go_at_call 10; refine (CM.out).mono ?_; rintro e W4 ⟨rfl, hb⟩; have HO5 := Lib.hid (HO4.out.next hb); have HU4 := Lib.hid (HU3.out.below hb); have CU := Lib.hid (fun nm W (hW : Below W4.heap.size W4 W) => get_any W u _ _ (HU4.out.below hW) (HO5.out.tabs.below hW) nm); clear hb CM c0 c1 c2 c3 c4 c5 d0 d1 d2 d3 d4 d5; obtain ⟨c0, c1, c2, c3, c4, c5⟩ := HO5.out.term (.tail _ (.head _))))
    go_ret
    exact ⟨rfl, HO5.out.below⟩
end Go.Proofs.YtcfgppjhgobboaaGreatDoor
