/-
  What is handed in is left as it is and not kept, what is answered is nobody's else: the walk.
-/
import Derived.Test.YtknekldnipdpeaaKrOwnQ
namespace Go.Proofs.Ytknekldnipdpeaa
open Go.RowKit Go.Shelf Go.Lib
attribute [local go_sem] Oper.semAt_some

set_option maxRecDepth 1000000 in
set_option maxHeartbeats 16000000 in
theorem own_short (w : World) (ls : List (List Int)) (A : Option Addr) (n c : Nat) (h : Mat w (.slice A n c) ls) (h24 : n * 24 ≤ 140737488355328) (f : List Int) (A0 : Option Addr) (n0 c0 : Nat) (hf : Holds1 w (.slice A0 n0 c0) (runeVals f)) (hfl : f.length ≤ 35184372087808) (hok : ¬ fromOk ls) : Calls Try.prog 7 #[.slice A n c, .slice A0 n0 c0] w fun e w' => e = .returned (.bool true) ∧ Below w.heap.size w w' := by
  have hn : n = ls.length := by
    obtain ⟨A', c', e⟩ := h.form
    injection e
  have HM := Lib.hid h
  have HN := Lib.hid hn
  have H24 := Lib.hid h24
  have HF := Lib.hid hf
  have HFL := Lib.hid hfl
  have HOK := Lib.hid hok
  have CL := Lib.hid fun W => live_any W
  have HLEN : Hid (n ≤ 140737488355328) := Lib.hid (by omega)
  clear h hn h24 hf hfl hok
  go_enter Try.func7, Try.ntmps7
  go_wp2
  go_loopw [5, 27] (fun mv i wr => ∃ (k : Nat) (xs : List Value), k ≤ n ∧ i = .int .i64 (k : Int) ∧ ARow wr w.heap.size mv (ls.take k) xs ∧ Below w.heap.size w wr) (fun _ i _ => n - (RowKit.intOf i).toNat)
  case atStart => exact ⟨0, [], Nat.zero_le _, rfl, ⟨World.ownsRow_nil _ _ _ _, fun i l hi => by simp at hi⟩, Below.refl _ _⟩
  case round =>
    obtain ⟨k, xs, hk, rfl, hr, hb⟩ := hrel
    obtain ⟨Ao, co, rfl, _⟩ := own_form hr.1
    by_cases hlt : k < n
    · have hkl : k < ls.length := by rw [← HN.out]; exact hlt
      obtain ⟨x, hx⟩ : ∃ x, ls[k]? = some x := ⟨_, List.getElem?_eq_getElem hkl⟩
      have htk : ls.take (k + 1) = ls.take k ++ [x] := by rw [List.take_add_one, hx]; rfl
      obtain ⟨bb, off, A2, c2, hA, hbl, hcell0, hh, hx1⟩ := HM.out.at hx
      subst hA
      have hcell := (hb.cell (p := ⟨bb, off + k, none⟩) hbl).trans hcell0
      have j1 : (0 : Int) ≤ (k : Int) := by omega
      have j2 : ((k : Int) < (n : Int)) = True := eq_true (by omega)
      have hwk : wrap64 ((k : Int) + 1) = (k : Int) + 1 := by have := HLEN.out; unfold wrap64; omega
      have HLT := Lib.hid hlt
      have hkt : (ls.take k).length = k := by rw [List.length_take]; omega
      have HR := Lib.hid hr
      have HB := Lib.hid hb
      have HT := Lib.hid htk
      have HKT := Lib.hid hkt
      have hb1 : Below wr.heap.size wr (wr.alloc (.cells #[] 21)) := (Below.refl _ _).alloc (Nat.le_refl _) _
      have HB1 := Lib.hid hb1
      have HH := Lib.hid ((hh.below hb).below hb1)
      have HL0 : Hid (([] : List Int).length + x.length ≤ 35184372088832) := Lib.hid (by simp; omega)
      have tok1 : True := trivial
      clear hk hr hb hlt hkl hx htk hbl hcell0 hh hx1 hb1
      generalize hxl : x.length = xl at *
      have HXL := Lib.hid hxl
      rw [hkt]
      clear hkt hxl
      go_wp2_with (first
        | (at_builtin; have tk := tok1; refine wpList_append_runes2 (by rfl) _ _ (by rfl) wr.heap.size (.slice (some ⟨wr.heap.size, 0, none⟩) 0 0) [] (by rfl) (RRow.fresh wr (Nat.le_refl _)) A2 xl c2 x (by rfl) HH.out (by rw [HXL.out]; exact HL0.out) (by simp) ?_; rintro A3 n3 c3 w3 hn3 hrow hb3 hg3 ho3; rw [List.nil_append] at hrow hn3; have hba : Below w3.heap.size w3 (w3.alloc (.cells #[.slice A3 n3 c3] 30)) := (Below.refl _ _).alloc (Nat.le_refl _) _; have hb4 := HB1.out.trans (hb3.trans (hba.mono (Nat.le_trans HB1.out.size hb3.size))); have ROW : Hid (RRow (w3.alloc (.cells #[.slice A3 n3 c3] 30)) w.heap.size (.slice A3 n3 c3) x) := Lib.hid (own_below (own_less hrow HB.out.size) hba); have AR := Lib.hid (HR.out.below hb4); have BB := Lib.hid (HB.out.trans (hb4.mono HB.out.size)); have tok2 : True := trivial; clear hrow hb3 hg3 ho3 hn3 hba hb4 tk tok1)
        | (at_builtin; have tk := tok2; refine wpList_append_rows2 (by rfl) _ _ (by rfl) w.heap.size (.slice Ao k co) k xs (by rfl) (by have := AR.out.1; rwa [HKT.out] at this) (some ⟨w3.heap.size, 0, none⟩) 1 1 [.slice A3 n3 c3] (by rfl) (built_src _) (by intro u hu; simp at hu; subst hu; rfl) (by have := H24.out; have := HLT.out; omega) BB.out.size ?_; rintro A' n' c' w5 hn' hrow2 hb2 hg2 ho2; have M2 : Hid (ARow w5 w.heap.size (.slice A' n' c') (ls.take k ++ [x]) (xs ++ [.slice A3 n3 c3])) := Lib.hid (ARow.snoc (by have := AR.out; rw [HKT.out] at this; exact this) ROW.out (by rw [HKT.out]; exact hn') hrow2 hg2); have B2 := Lib.hid (BB.out.trans hb2); clear hrow2 hb2 hg2 ho2 hn' tk tok2))
      go_roundw
      case rel => exact ⟨k + 1, _, HLT.out, next_val hwk, by rw [HT.out]; exact M2.out, B2.out⟩
      case measure => exact measure_lt HLT.out hwk
    · obtain rfl : k = n := by omega
      have i2 : ((k : Int) < (k : Int)) = False := by simp
      have htk : ls.take k = ls := List.take_of_length_le (by rw [HN.out]; exact Nat.le_refl _)
      rw [htk] at hr
      rw [htk]
      have hnl : ls.length = k := HN.out.symm
      rw [hnl]
      have HR : Hid (ARow wr w.heap.size (.slice Ao k co) ls xs) := Lib.hid (by rw [hnl] at hr; exact hr)
      have HB := Lib.hid hb
      have HMM : Hid (Mat wr (.slice Ao k co) ls) := Lib.hid (HR.out.mat (by have := HLEN.out; omega) HM.out.each)
      clear hk hr hb hlt htk hnl
      have CF : Hid (Calls Try.prog 20 #[.slice Ao k co] wr fun e w' => e = .returned (.tuple #[.pointer none, .int .i64 3]) ∧ wr = w') := Lib.hid (from_long wr ls Ao k co HMM.out HOK.out)
      have CW : Hid (Calls Try.prog 21 #[.slice A k c] wr fun e w' => e = .returned (.tuple #[.pointer none, .int .i64 3]) ∧ Below wr.heap.size wr w') := Lib.hid ((wfrom_any wr ls A k c (HM.out.below HB.out)).mono (by
        rintro e w' (⟨_, h1, h2⟩ | ⟨h1, _⟩)
        · exact ⟨h1, h2⟩
        · exact absurd h1 HOK.out))
      go_wp2_with (first
        | (go_at_call 20; refine (CF.out).mono ?_; rintro e w1 ⟨rfl, rfl⟩)
        | (go_at_call 21; refine (CW.out).mono ?_; rintro e w2 ⟨rfl, hb⟩; have B := Lib.hid (HB.out.trans (hb.mono HB.out.size)); clear hb)
        | (go_at_call 10; refine (CL.out _).mono ?_; rintro e w3 ⟨rfl, hb⟩; have B := Lib.hid (B.out.trans (hb.mono B.out.size)); clear hb))
      go_ret
      exact ⟨rfl, B.out⟩
set_option maxRecDepth 1000000 in
set_option maxHeartbeats 16000000 in
theorem own_main (w : World) (ls : List (List Int)) (A : Option Addr) (n c : Nat) (h : Mat w (.slice A n c) ls) (h24 : n * 24 ≤ 140737488355328) (f : List Int) (A0 : Option Addr) (n0 c0 : Nat) (hf : Holds1 w (.slice A0 n0 c0) (runeVals f)) (hfl : f.length ≤ 35184372087808) (hok : fromOk ls) : Calls Try.prog 7 #[.slice A n c, .slice A0 n0 c0] w fun e w' => e = .returned (.bool true) ∧ Below w.heap.size w w' := by
  have hn : n = ls.length := by
    obtain ⟨A', c', e⟩ := h.form
    injection e
  have HM := Lib.hid h
  have HN := Lib.hid hn
  have H24 := Lib.hid h24
  have HF := Lib.hid hf
  have HFL := Lib.hid hfl
  have HOK := Lib.hid hok
  have CL := Lib.hid fun W => live_any W
  have HLEN : Hid (n ≤ 140737488355328) := Lib.hid (by omega)
  clear h hn h24 hf hfl hok
  refine (callsIn_wide (n := 8)).1 ?_
  refine callsIn_of_wp_marks Try.func7 rfl trivial ?_ rfl
  simp only [Try.ntmps7, List.size_toArray, List.length_cons, List.length_nil, Nat.reduceAdd, Nat.reduceSub, Array.replicate_succ, Array.replicate_zero, List.push_toArray, List.append_toArray, List.nil_append, List.cons_append]
  have hdep : Fence.wide.depth.isSome = false := rfl
  have hf0 : Fence.wide.fn 10 := trivial
  have hf1 : Fence.wide.fn 13 := trivial
  have hf2 : Fence.wide.fn 15 := trivial
  have hf3 : Fence.wide.fn 11 := trivial
  have hf4 : Fence.wide.fn 20 := trivial
  have hf5 : Fence.wide.fn 21 := trivial
  have hf6 : Fence.wide.fn 23 := trivial
  have hf7 : Fence.wide.fn 12 := trivial
  have hf8 : Fence.wide.fn 19 := trivial
  gi_wp2
  gi_loopw [5, 27] (fun mv i wr => ∃ (k : Nat) (xs : List Value), k ≤ n ∧ i = .int .i64 (k : Int) ∧ ARow wr w.heap.size mv (ls.take k) xs ∧ Below w.heap.size w wr) (fun _ i _ => n - (RowKit.intOf i).toNat)
  case atStart => exact ⟨0, [], Nat.zero_le _, rfl, ⟨World.ownsRow_nil _ _ _ _, fun i l hi => by simp at hi⟩, Below.refl _ _⟩
  case round =>
    obtain ⟨k, xs, hk, rfl, hr, hb⟩ := hrel
    obtain ⟨Ao, co, rfl, _⟩ := own_form hr.1
    by_cases hlt : k < n
    · have hkl : k < ls.length := by rw [← HN.out]; exact hlt
      obtain ⟨x, hx⟩ : ∃ x, ls[k]? = some x := ⟨_, List.getElem?_eq_getElem hkl⟩
      have htk : ls.take (k + 1) = ls.take k ++ [x] := by rw [List.take_add_one, hx]; rfl
      obtain ⟨bb, off, A2, c2, hA, hbl, hcell0, hh, hx1⟩ := HM.out.at hx
      subst hA
      have hcell := (hb.cell (p := ⟨bb, off + k, none⟩) hbl).trans hcell0
      have j1 : (0 : Int) ≤ (k : Int) := by omega
      have j2 : ((k : Int) < (n : Int)) = True := eq_true (by omega)
      have hwk : wrap64 ((k : Int) + 1) = (k : Int) + 1 := by have := HLEN.out; unfold wrap64; omega
      have HLT := Lib.hid hlt
      have hkt : (ls.take k).length = k := by rw [List.length_take]; omega
      have HR := Lib.hid hr
      have HB := Lib.hid hb
      have HT := Lib.hid htk
      have HKT := Lib.hid hkt
      have hb1 : Below wr.heap.size wr (wr.alloc (.cells #[] 21)) := (Below.refl _ _).alloc (Nat.le_refl _) _
      have HB1 := Lib.hid hb1
      have HH := Lib.hid ((hh.below hb).below hb1)
      have HL0 : Hid (([] : List Int).length + x.length ≤ 35184372088832) := Lib.hid (by simp; omega)
      have tok1 : True := trivial
      clear hk hr hb hlt hkl hx htk hbl hcell0 hh hx1 hb1
      generalize hxl : x.length = xl at *
      have HXL := Lib.hid hxl
      rw [hkt]
      clear hkt hxl
      gi_wp2_with (first
        | (gi_at_builtin; have tk := tok1; refine wpListIn_append_runes2 (by rfl) _ _ (by rfl) wr.heap.size (.slice (some ⟨wr.heap.size, 0, none⟩) 0 0) [] (by rfl) (RRow.fresh wr (Nat.le_refl _)) A2 xl c2 x (by rfl) HH.out (by rw [HXL.out]; exact HL0.out) (by simp) ?_; rintro A3 n3 c3 w3 hn3 hrow hb3 hg3 ho3; rw [List.nil_append] at hrow hn3; have hba : Below w3.heap.size w3 (w3.alloc (.cells #[.slice A3 n3 c3] 30)) := (Below.refl _ _).alloc (Nat.le_refl _) _; have hb4 := HB1.out.trans (hb3.trans (hba.mono (Nat.le_trans HB1.out.size hb3.size))); have ROW : Hid (RRow (w3.alloc (.cells #[.slice A3 n3 c3] 30)) w.heap.size (.slice A3 n3 c3) x) := Lib.hid (own_below (own_less hrow HB.out.size) hba); have AR := Lib.hid (HR.out.below hb4); have BB := Lib.hid (HB.out.trans (hb4.mono HB.out.size)); have tok2 : True := trivial; clear hrow hb3 hg3 ho3 hn3 hba hb4 tk tok1)
        | (gi_at_builtin; have tk := tok2; refine wpListIn_append_rows2 (by rfl) _ _ (by rfl) w.heap.size (.slice Ao k co) k xs (by rfl) (by have := AR.out.1; rwa [HKT.out] at this) (some ⟨w3.heap.size, 0, none⟩) 1 1 [.slice A3 n3 c3] (by rfl) (built_src _) (by intro u hu; simp at hu; subst hu; rfl) (by have := H24.out; have := HLT.out; omega) BB.out.size ?_; rintro A' n' c' w5 hn' hrow2 hb2 hg2 ho2; have M2 : Hid (ARow w5 w.heap.size (.slice A' n' c') (ls.take k ++ [x]) (xs ++ [.slice A3 n3 c3])) := Lib.hid (ARow.snoc (by have := AR.out; rw [HKT.out] at this; exact this) ROW.out (by rw [HKT.out]; exact hn') hrow2 hg2); have B2 := Lib.hid (BB.out.trans hb2); clear hrow2 hb2 hg2 ho2 hn' tk tok2))
      go_roundw
      case rel => exact ⟨k + 1, _, HLT.out, next_val hwk, by rw [HT.out]; exact M2.out, B2.out⟩
      case measure => exact measure_lt HLT.out hwk
    · obtain rfl : k = n := by omega
      have i2 : ((k : Int) < (k : Int)) = False := by simp
      have htk : ls.take k = ls := List.take_of_length_le (by rw [HN.out]; exact Nat.le_refl _)
      rw [htk] at hr
      rw [htk]
      have hnl : ls.length = k := HN.out.symm
      rw [hnl]
      have HR : Hid (ARow wr w.heap.size (.slice Ao k co) ls xs) := Lib.hid (by rw [hnl] at hr; exact hr)
      have HB := Lib.hid hb
      have HMM : Hid (Mat wr (.slice Ao k co) ls) := Lib.hid (HR.out.mat (by have := HLEN.out; omega) HM.out.each)
      clear hk hr hb hlt htk hnl
      have CF := Lib.hid (from_ok wr ls Ao k co HMM.out HOK.out)
      have CW : Hid (∀ W, Below w.heap.size w W → Calls Try.prog 21 #[.slice A k c] W fun e w' => ∃ r K, e = .returned (.tuple #[.pointer (some ⟨r, 0, none⟩), .int .i64 0]) ∧ WAt K w' r ⟨ls, 0⟩ ∧ (∀ k, K k → W.heap.size ≤ k) ∧ W.heap.size ≤ r ∧ Below W.heap.size W w') := Lib.hid fun W hb => (wfrom_any W ls A k c (HM.out.below hb)).mono (by
        rintro e w' (⟨h1, _⟩ | ⟨_, r, K, h1, h2, h3, h4, h5⟩)
        · exact absurd HOK.out h1
        · exact ⟨r, K, h1, h2, h3, h4, h5⟩)
      have HL0 : Hid (([] : List Int).length + f.length ≤ 35184372088832) := Lib.hid (by have := HFL.out; simp; omega)
      obtain ⟨S2, hS2⟩ : ∃ S2, S2 = killS ⟨ls, 0⟩ 0 f := ⟨_, rfl⟩
      have HS2 := Lib.hid hS2
      generalize her : killErr ⟨ls, 0⟩ 0 f = er at *
      have HER := Lib.hid her
      have hn0 : n0 = f.length := by
        obtain ⟨_, _, e, _⟩ := id HF.out
        rw [runeVals_length] at e
        injection e
      have HN0 := Lib.hid hn0
      clear hS2 her hn0
      gi_wp2_with (first
        | (gi_at_call 20; refine (callsIn_wide.2 (CF.out)).mono ?_; rintro e w1 ⟨g, K, rfl, hR, hK, hg, hb⟩; have R := Lib.hid hR; have HK := Lib.hid hK; have HG := Lib.hid hg; have HGL := Lib.hid hR.lt; have HK1 := Lib.hid hR.inw; have B := Lib.hid (HB.out.trans (hb.mono HB.out.size)); have B1 := Lib.hid hb; clear hR hK hg hb)
        | (gi_at_call 21; refine (callsIn_wide.2 (CW.out _ B.out)).mono ?_; rintro e w2 ⟨r, K', rfl, hW, hK', hr, hb⟩; have R := Lib.hid (R.out.below hb); have V := Lib.hid hW; have HK' := Lib.hid hK'; have HRR := Lib.hid hr; have B12 := Lib.hid hb; have B := Lib.hid (B.out.trans (hb.mono B.out.size)); clear hW hK' hr hb)
        | (gi_at_call 10; refine (callsIn_wide.2 (CL.out _)).mono ?_; rintro e w4 ⟨rfl, hb⟩; have R := Lib.hid (R.out.below hb); have V := Lib.hid (V.out.below hb); have B14 := Lib.hid (B12.out.trans (hb.mono B12.out.size)); have B := Lib.hid (B.out.trans (hb.mono B.out.size)); have D4 : Hid (w.heap.size ≤ w4.heap.size) := Lib.hid B.out.size; have hbn : Below w4.heap.size w4 (w4.alloc (.cells #[] 21)) := (Below.refl _ _).alloc (Nat.le_refl _) _; have BN := Lib.hid hbn; clear hb hbn)
        | (gi_at_builtin; refine wpListIn_append_runes2 (by rfl) _ _ (by rfl) w4.heap.size (.slice (some ⟨w4.heap.size, 0, none⟩) 0 0) [] (by rfl) (RRow.fresh w4 (Nat.le_refl _)) A0 n0 c0 f (by rfl) ((HF.out.below B.out).below BN.out) HL0.out (by simp) ?_; rintro A5 n5 c5 w5 hn5 hrow hb5 hg5 ho5; rw [List.nil_append] at hrow hn5; have hb45 := BN.out.trans hb5; have D5 := Lib.hid (DX.start (w := w) (wr := wr) (w1 := w1) (w4 := w4) (R.out.below hb45) (V.out.below hb45) HK.out HK1.out HK'.out HG.out HGL.out HRR.out V.out.lt B14.out.size V.out.inw hb45.size (B.out.trans (hb45.mono B.out.size)) HB.out.size B1.out.size); have MORE := Lib.hid hrow; have HN5 := Lib.hid hn5; have BR5 : Hid (Below wr.heap.size wr w5) := Lib.hid (B1.out.trans ((B14.out.trans (hb45.mono B14.out.size)).mono B1.out.size)); clear hrow hb5 hg5 ho5 hn5 hb45)
        | (gi_at_call 11; have ck := D5.out.kill 0 _ f MORE.out.holds; rw [HER.out, ← HS2.out] at ck; refine (callsIn_wide.2 ck).mono ?_; rintro e w6 ⟨rfl, hd, ht⟩; have D6 := Lib.hid hd; have T6 := Lib.hid ht; clear hd ht ck)
        | (gi_at_call 12; have ck := D6.out.wkill 0 _ f (HF.out.below D6.out.b); rw [HER.out, ← HS2.out] at ck; refine (callsIn_wide.2 ck).mono ?_; rintro e w7 ⟨rfl, hd, ht⟩; have D7 := Lib.hid hd; have T7 := Lib.hid ht; have B7R : Hid (Below wr.heap.size wr w7) := Lib.hid ((BR5.out.trans (T6.out.below BR5.out.size fun k hk => by simp only [Only] at hk; have := HG.out; omega)).trans (ht.below (Nat.le_trans BR5.out.size T6.out.size) fun k hk => by simp only [Only] at hk; have := HRR.out; have := B1.out.size; omega)); have M7 : Hid (RRow w7 w4.heap.size (.slice A5 n5 c5) f) := Lib.hid (own_same (own_same MORE.out fun b hb => T6.out.block b (own_lt MORE.out b hb).2 (by have := own_lt MORE.out b hb; have := HGL.out; have := B14.out.size; simp only [Only]; omega)) fun b hb => ht.block b (Nat.lt_of_lt_of_le (own_lt MORE.out b hb).2 T6.out.size) (by have := own_lt MORE.out b hb; have := V.out.lt; simp only [Only]; omega)); have hba : Below w7.heap.size w7 (w7.alloc (.cells #[.slice A5 n5 c5] 30)) := (Below.refl _ _).alloc (Nat.le_refl _) _; have BA := Lib.hid hba; clear hd ht ck hba)
        | (gi_at_builtin; refine wpListIn_append_rows2 (by rfl) _ _ (by rfl) w.heap.size (.slice Ao k co) k xs (by rfl) (by have := (HR.out.below (B7R.out.trans (BA.out.mono B7R.out.size))).1; rwa [← HN.out] at this) (some ⟨w7.heap.size, 0, none⟩) 1 1 [.slice A5 n5 c5] (by rfl) (built_src _) (by intro u hu; simp at hu; subst hu; rfl) (by have := HOK.out.1; have := HN.out; omega) (Nat.le_trans D7.out.b.size BA.out.size) ?_; rintro A8 n8 c8 w8 hn8 hrow hb8 hg8 ho8; have HN8 := Lib.hid hn8; have OS8 := Lib.hid (OS.start HR.out HM.out.each HFL.out (B7R.out.trans (BA.out.mono B7R.out.size)) MORE.out (own_below M7.out BA.out) D4.out HB.out.size (D7.out.touch (Touch.of_below (T := fun _ => False) BA.out) (fun _ h => h.elim)) hrow hg8); clear hrow hb8 hg8 ho8 hn8))
      obtain ⟨X, hX⟩ : ∃ X : Nat → Prop, X = (fun k => k < wr.heap.size ∨ (w4.heap.size ≤ k ∧ k < w5.heap.size)) := ⟨_, rfl⟩
      rw [← hX] at OS8
      clear hX
      gi_loopw [80] (fun i W => ∃ q : Nat, q ≤ n8 ∧ i = .int .i64 (q : Int) ∧ OS X w g r S2 (.slice A8 n8 c8) n8 (xs ++ [.slice A5 n5 c5]) W) (fun i _ => n8 - (RowKit.intOf i).toNat)
      case atStart => exact ⟨0, Nat.zero_le _, rfl, OS8.out⟩
      case round =>
        obtain ⟨q, hq, rfl, hO⟩ := hrel
        have H8 : Hid (n8 ≤ 61) := Lib.hid (by have := HN8.out; have := HOK.out.1; have := HN.out; omega)
        by_cases hlt : q < n8
        · obtain ⟨b8, Ay, m, cy, hA8, hcy, hm, hy, hwy⟩ := hO.at hlt
          have hwq : wrap64 ((q : Int) + 1) = (q : Int) + 1 := by have := H8.out; unfold wrap64; omega
          have j1 : (0 : Int) ≤ (q : Int) := by omega
          have j2 : ((q : Int) < (n8 : Int)) = True := eq_true (by omega)
          have HLQ := Lib.hid hlt
          have HY := Lib.hid hy
          have HMY := Lib.hid hm
          have HO := Lib.hid hO
          have HWY := Lib.hid hwy
          subst hA8
          clear hq hlt hO hy hm hwy
          gi_wp2
          gi_loopw [86] (fun i W => ∃ j : Nat, j ≤ m ∧ i = .int .i64 (j : Int) ∧ OS X w g r S2 (.slice (some ⟨b8, 0, none⟩) n8 c8) n8 (xs ++ [.slice A5 n5 c5]) W ∧ WR W (.slice Ay m cy) m) (fun i _ => m - (RowKit.intOf i).toNat)
          case atStart => exact ⟨0, Nat.zero_le _, rfl, HO.out, HWY.out⟩
          case round =>
            obtain ⟨j, hj, rfl, hO2, hw2⟩ := hrel
            by_cases hjl : j < m
            · obtain ⟨by', hAy, ⟨u0, hu0⟩, hfz, _⟩ := hw2.at hjl
              have hnext := hO2.set HY.out hw2 hjl hAy (.int .i32 63)
              have hnw := hw2.set by' j (.int .i32 63)
              have k1 : (0 : Int) ≤ (j : Int) := by omega
              have k2 : ((j : Int) < (m : Int)) = True := eq_true (by omega)
              have hwj : wrap64 ((j : Int) + 1) = (j : Int) + 1 := by have := HMY.out; unfold wrap64; omega
              have HJL := Lib.hid hjl
              have HNX := Lib.hid hnext
              have HNW := Lib.hid hnw
              subst hAy
              clear hj hO2 hw2 hjl hnext hnw
              gi_wp2
              go_roundw
              case rel => exact ⟨j + 1, HJL.out, next_val hwj, HNX.out, HNW.out⟩
              case measure => exact measure_lt HJL.out hwj
            · obtain rfl : j = m := by omega
              have k2 : ((j : Int) < (j : Int)) = False := by simp
              have HNX := Lib.hid hO2
              clear hj hO2 hw2 hjl
              gi_wp2
              go_roundw
              case rel => exact ⟨q + 1, HLQ.out, next_val hwq, HNX.out⟩
              case measure => exact measure_lt HLQ.out hwq
        · obtain rfl : q = n8 := by omega
          have j2 : ((q : Int) < (q : Int)) = False := by simp
          have HO := Lib.hid hO
          have D9 := Lib.hid hO.dx.di
          clear hq hlt hO
          obtain ⟨X2, hX2⟩ : ∃ X2 : Nat → Prop, X2 = fun k => wr.heap.size ≤ k := ⟨_, rfl⟩
          have Y9 : Hid (DY X2 w wr g r S2 S2) := Lib.hid (by rw [hX2]; exact DY.of D9.out)
          have HX2 : Hid (∀ k, wr.heap.size ≤ k → X2 k ∧ w.heap.size ≤ k) := Lib.hid fun k hk => ⟨by rw [hX2]; exact hk, Nat.le_trans D9.out.b.size hk⟩
          clear hX2
          gi_wp2_with (first
            | (gi_at_call 13; refine (callsIn_wide.2 Y9.out.yank).mono ?_; rintro e w10 ⟨⟨Ay, ny, cy, ey, rfl, hy⟩, hd, hb⟩; have Y10 := Lib.hid hd; have NY := Lib.hid hy; have B10 := Lib.hid hb; clear hy hd hb)
            | (gi_at_call 15; refine (callsIn_wide.2 (Y10.out.rotate 0)).mono ?_; rintro e w11 ⟨⟨Az, nz, cz, ez, rfl, hz⟩, hd, ht⟩; have Z11 : Hid (OZ X2 w w11 g r (rotS S2 0) S2 (.slice Ay ny cy) (.slice Az nz cz) ny nz) := Lib.hid ⟨hd, NY.out.1.ring Y10.out ht, hz.1, fun b hb => HX2.out b (NY.out.2.2 b hb), fun b hb => HX2.out b (Nat.le_trans B10.out.size (hz.2.2 b hb))⟩; have NZ := Lib.hid hz; have H11 : Hid (wr.heap.size ≤ w11.heap.size) := Lib.hid (Nat.le_trans B10.out.size ht.size); clear hz hd ht))
          have HES : Hid ((rotS S2 0).es = S2.es) := Lib.hid (rotS_es S2 0)
          generalize rotS S2 0 = S3 at *
          generalize wr.heap.size = z9 at *
          gi_loopw [106] (fun i W => ∃ j : Nat, j ≤ ny ∧ i = .int .i64 (j : Int) ∧ OZ X2 w W g r S3 S2 (.slice Ay ny cy) (.slice Az nz cz) ny nz ∧ z9 ≤ W.heap.size) (fun i _ => ny - (RowKit.intOf i).toNat)
          case atStart => exact ⟨0, Nat.zero_le _, rfl, Z11.out, H11.out⟩
          case round =>
            obtain ⟨j, hj, rfl, hZ, hs⟩ := hrel
            by_cases hjl : j < ny
            · obtain ⟨by', hAy, ⟨u0, hu0⟩, hfz, hob⟩ := hZ.yw.at hjl
              have hnext := hZ.set (j := j) (hZ.yX by' hob) (.int .i32 63)
              have hsn : z9 ≤ (wr.setCell ⟨by', j, none⟩ (.int .i32 63)).heap.size := by simpa [World.setCell] using hs
              have k1 : (0 : Int) ≤ (j : Int) := by omega
              have k2 : ((j : Int) < (ny : Int)) = True := eq_true (by omega)
              have hwj : wrap64 ((j : Int) + 1) = (j : Int) + 1 := by have := NY.out.2.1; unfold wrap64; omega
              have HJL := Lib.hid hjl
              have HNX := Lib.hid hnext
              have HSN := Lib.hid hsn
              subst hAy
              clear hj hZ hjl hnext hob hs hsn
              gi_wp2
              go_roundw
              case rel => exact ⟨j + 1, HJL.out, next_val hwj, HNX.out, HSN.out⟩
              case measure => exact measure_lt HJL.out hwj
            · obtain rfl : ny = j := by omega
              have k2 : ((ny : Int) < (ny : Int)) = False := by simp
              have HZ106 := Lib.hid hZ
              have HS106 := Lib.hid hs
              clear hj hZ hjl hs
              gi_wp2
              gi_loopw [115] (fun i W => ∃ j : Nat, j ≤ nz ∧ i = .int .i64 (j : Int) ∧ OZ X2 w W g r S3 S2 (.slice Ay ny cy) (.slice Az nz cz) ny nz ∧ z9 ≤ W.heap.size) (fun i _ => nz - (RowKit.intOf i).toNat)
              case atStart => exact ⟨0, Nat.zero_le _, rfl, HZ106.out, HS106.out⟩
              case round =>
                obtain ⟨j, hj, rfl, hZ, hs⟩ := hrel
                by_cases hjl : j < nz
                · obtain ⟨by', hAy, ⟨u0, hu0⟩, hfz, hob⟩ := hZ.zw.at hjl
                  have hnext := hZ.set (j := j) (hZ.zX by' hob) (.int .i32 63)
                  have hsn : z9 ≤ (wr.setCell ⟨by', j, none⟩ (.int .i32 63)).heap.size := by simpa [World.setCell] using hs
                  have k1 : (0 : Int) ≤ (j : Int) := by omega
                  have k2 : ((j : Int) < (nz : Int)) = True := eq_true (by omega)
                  have hwj : wrap64 ((j : Int) + 1) = (j : Int) + 1 := by have := NZ.out.2.1; unfold wrap64; omega
                  have HJL := Lib.hid hjl
                  have HNX := Lib.hid hnext
                  have HSN := Lib.hid hsn
                  subst hAy
                  clear hj hZ hjl hnext hob hs hsn
                  gi_wp2
                  go_roundw
                  case rel => exact ⟨j + 1, HJL.out, next_val hwj, HNX.out, HSN.out⟩
                  case measure => exact measure_lt HJL.out hwj
                · obtain rfl : nz = j := by omega
                  have k2 : ((nz : Int) < (nz : Int)) = False := by simp
                  have HZ115 := Lib.hid hZ
                  have HS115 := Lib.hid hs
                  clear hj hZ hjl hs
                  obtain ⟨K, K', hRA, hKK⟩ := HZ115.out.dy.ex
                  have CA := Lib.hid (all_any wr g S3 hRA)
                  have HKI := Lib.hid hRA.inw
                  have DYZ := Lib.hid HZ115.out.dy
                  clear hRA hKK
                  gi_wp2_with (first
                    | (gi_at_call 23; refine (callsIn_wide.2 CA.out).mono ?_; rintro e wA ⟨rfl, hg, hb⟩; have G := Lib.hid hg; have DA := Lib.hid (DYZ.out.below hb); clear hg hb))
                  have HKA : Hid (∀ k, (K k ∨ k = wr.heap.size) → k < wA.heap.size) := Lib.hid fun k hk => hk.elim (fun h => Nat.lt_trans (HKI.out k h) G.out.lt) fun h => by rw [h]; exact G.out.lt
                  have HZA : Hid (z9 ≤ wA.heap.size) := Lib.hid (by have := HS115.out; have := G.out.lt; omega)
                  generalize wr.heap.size = b0 at *
                  refine range_law2t 23 (R := fun k x y b Wz => wA.heap.size + 2 ≤ b → AllR S3.es k x y b Wz) rfl (enters_of Try.func34 (by kernel_rfl) rfl) ((all_iter wA b0 S3.es G.out (fun k hk => HKA.out k (.inl hk))).weak fun k x y b Wz h _ => h) ?_ HKA.out
                    (fun _ W => DY X2 w W g r S3 S2) (fun _ _ => False) (fun _ W W' h ht => h.touch ht fun k hk => HX2.out k (by have := HZA.out; omega)) (fun _ _ _ h _ => h) DA.out ?_ ?_ ?_ (fun _ _ h => h.elim)
                  · rintro k x y b Wa Wb hr hz hk hb
                    obtain ⟨r1, r2, l, A2, c2, r3, r4, r5, r6⟩ := hr hb
                    exact ⟨r1, Nat.le_trans r2 hz, l, A2, c2, r3, r4, r5, own_same r6 fun k hk2 => hk k (Nat.le_trans hb (own_lt r6 k hk2).1)⟩
                  · intro l x y Wa K1 hK1
                    gi_wp2_with fail
                    exact hK1
                  · rintro l k x y b Wr hk hx hbb hI hlt
                    obtain ⟨rfl, hbz, lk, A2, c2, hlk, rfl, hlk2, hrow⟩ := hx hbb
                    have HWX := Lib.hid (WR.of hrow rfl)
                    have OWN : Hid (∀ b', (Value.slice A2 lk.length c2).ownBlock = some b' → b ≤ b') := Lib.hid fun b' hb' => (own_lt hrow b' hb').1
                    have HL2 := Lib.hid hlk2
                    have HI := Lib.hid hI
                    have HBB := Lib.hid hbb
                    have h1l : 1 ≤ 8 - 1 - 1 := by decide
                    clear hx hlk hrow hlk2 hI hbb hbz hlt hk
                    generalize lk.length = m at *
                    gi_wp2_with fail
                    gi_loopw [128] (fun i W => ∃ j : Nat, j ≤ m ∧ i = .int .i64 (j : Int) ∧ DY X2 w W g r S3 S2 ∧ WR W (.slice A2 m c2) m ∧ Same (fun j => (K j ∨ j = b0) ∨ j = wA.heap.size ∨ j = wA.heap.size + 1 ∨ (wA.heap.size + 2 ≤ j ∧ j < b)) Wr W) (fun i _ => m - (RowKit.intOf i).toNat)
                    case atStart => exact ⟨0, Nat.zero_le _, rfl, HI.out, HWX.out, Same.refl _ _⟩
                    case round =>
                      obtain ⟨j, hj, rfl, hd, hwx, hsm⟩ := hrel
                      by_cases hjl : j < m
                      · obtain ⟨by', hAy, ⟨u0, hu0⟩, hfz, hob⟩ := hwx.at hjl
                        have hge := OWN.out by' hob
                        have hnd : DY X2 w (wr.setCell ⟨by', j, none⟩ (.int .i32 63)) g r S3 S2 := hd.touch (T := fun k => k = by') (Touch.setCell wr ⟨by', j, none⟩ _ rfl) fun k hk => HX2.out k (by have := HZA.out; have := HBB.out; omega)
                        have hnw := hwx.set by' j (.int .i32 63)
                        have hns : Same (fun j => (K j ∨ j = b0) ∨ j = wA.heap.size ∨ j = wA.heap.size + 1 ∨ (wA.heap.size + 2 ≤ j ∧ j < b)) Wr (wr.setCell ⟨by', j, none⟩ (.int .i32 63)) := hsm.trans ⟨by simp [World.setCell], fun q hq => Below.heap_setCell wr ⟨by', j, none⟩ _ q (by
                          show q ≠ by'
                          have := HBB.out
                          rcases hq with hq | hq
                          · have := HKA.out q hq
                            omega
                          · omega)⟩
                        have k1 : (0 : Int) ≤ (j : Int) := by omega
                        have k2 : ((j : Int) < (m : Int)) = True := eq_true (by omega)
                        have hwj : wrap64 ((j : Int) + 1) = (j : Int) + 1 := by have := HL2.out; unfold wrap64; omega
                        have HJL := Lib.hid hjl
                        have HND := Lib.hid hnd
                        have HNW := Lib.hid hnw
                        have HNS := Lib.hid hns
                        subst hAy
                        clear hj hd hwx hsm hjl hob hge hnd hnw hns
                        gi_wp2
                        go_roundw
                        case rel => exact ⟨j + 1, HJL.out, next_val hwj, HND.out, HNW.out, HNS.out⟩
                        case measure => exact measure_lt HJL.out hwj
                      · obtain rfl : m = j := by omega
                        have k2 : ((m : Int) < (m : Int)) = False := by simp
                        have HND := Lib.hid hd
                        have HNS := Lib.hid hsm
                        clear hj hd hwx hsm hjl
                        gi_wp2_with fail
                        exact ⟨HNS.out, HND.out⟩
                  · intro WE hI hKE
                    obtain ⟨A9, c9, pl9, hr9, ht9⟩ := hI.di.told2 HES.out
                    have CT := Lib.hid (ht9 WE (Below.refl _ _) 0)
                    have r0 := cell_of_row WE r 0 _ _ _ hr9
                    simp at r0
                    have HI := Lib.hid hI
                    have HKE := Lib.hid hKE
                    clear hI hKE hr9 ht9
                    generalize S3.es.length = ln at *
                    gi_wp2_with (first
                      | (gi_at_call 19; refine (callsIn_wide.2 CT.out).mono ?_; rintro e wT ⟨rfl, hb⟩; have BT := Lib.hid hb; clear hb))
                    have hd := (BT.out.block _ (Array.getElem?_eq_some_iff.1 HKE.out).1).trans HKE.out
                    refine ⟨by simp, .inl ⟨_, _, rfl, run_takeDeferred hd, ?_⟩⟩
                    have hbw : Below w.heap.size w wT := HI.out.b.trans (BT.out.mono HI.out.b.size)
                    exact ⟨.bool true, by simp [results, Try.results7, go_sem], rfl, hbw.trans ((Touch.putObj (T := fun x => x = wA.heap.size) _ _ (.deferred none) rfl).below hbw.size fun k hk => by have := HX2.out wA.heap.size HZA.out; omega)⟩
end Go.Proofs.Ytknekldnipdpeaa
