/-
  How package tparm reads a format behind a colon.
-/
import Derived.Test.YtapihomdfdhnnaaDoorTpLex3
namespace Go.Proofs.YtapihomdfdhnnaaDoor
open Go.RowKit Go.Shelf Go.Lib
attribute [local go_sem] Oper.semAt_some
set_option maxRecDepth 100000 in
set_option maxHeartbeats 40000000 in
theorem formatted_colon (s : List UInt8) (h2 : 2 ≤ s.length) (hl : s.length ≤ 4000000) (w : World) (hc : byteAt s 1 = 58) : Calls Tryd.prog 62 #[str s] w (FirstPost w (formattedP s)) := by
  have hi1 : (1 : Int) < (s.length : Int) := by omega
  have ec := at_byte (l := s) (i := 1) (by omega)
  have hN1 : 1 < s.length := by omega
  have HAT : Hid (fmtAt1 s = 2) := Lib.hid (by unfold fmtAt1; rw [if_pos hc])
  have HFL : Hid (fmtFl s = colonFlags) := Lib.hid (by unfold fmtFl; rw [if_pos hc])
  have HA1 : Hid (2 ≤ s.length) := Lib.hid (by omega)
  have HL := Lib.hid hl
  clear hl h2
  generalize byteAt s 1 = c1 at *
  subst hc
  go_enter Tryd.func62, Tryd.ntmps62
  go_wp2_with fail
  rename_i K hK
  have HM : Hid (∀ A W, FmtM s w A W → K A W) := Lib.hid (by
    intro A wr h
    refine hK A wr ?_
    clear hK
    obtain ⟨k, f, u6, u9, u10, u11, u12, u13, u14, u15, u16, u17, u18, u19, u20, u21, u22, u23, u24, u25, u26, u27, u28, u29, u30, u31, u32, u33, rfl, hk2, hf, hbox, hbel, hX⟩ := h
    have HF := Lib.hid hf
    have HB := Lib.hid (And.intro hbox hbel)
    have HX := Lib.hid hX
    have HK2 := Lib.hid hk2
    have hi2 : (0 : Int) ≤ (k : Int) := by omega
    have hi3 : (k : Int) ≤ 4000000 := by have := HL.out; omega
    have hi4 : (k : Int) ≤ (s.length : Int) := by omega
    clear hf hbox hbel hX
    have hx := drop_str s k
    have CN1 := Lib.hid (fun W => number_wid (s.drop k) (by have := HL.out; rw [List.length_drop]; omega) W)
    have HW : Hid (fmtW s = numP 1001 (s.drop k) 0) := Lib.hid (by unfold fmtW; rw [HX.out.1])
    have hmk := numP_len 1001 (s.drop k) 0
    rw [List.length_drop] at hmk
    generalize (numP 1001 (s.drop k) 0) = aw at *
    obtain ⟨a, m⟩ := aw
    have HW1 : Hid ((fmtW s).1 = a) := Lib.hid (by rw [HW.out])
    have hx3 := drop_str s (k + m)
    have HA3 : Hid (fmtAt3 s = k + m) := Lib.hid (by unfold fmtAt3; rw [HX.out.1, HW.out])
    have CP := Lib.hid (fun W => prefix_any (s.drop (k + m)) [46] W)
    have HD : Hid (fmtDot s = hasPrefix (s.drop (k + m)) [46]) := Lib.hid (by unfold fmtDot; rw [HA3.out])
    have hc := HF.out.cells
    have c0' : wr.cell? ⟨w.heap.size + 1, 0, none⟩ = some (.bool f.left) := (hc 0 _ rfl).1
    have c1' : wr.cell? ⟨w.heap.size + 1, 1, none⟩ = some (.bool f.plus) := (hc 1 _ rfl).1
    have c2' : wr.cell? ⟨w.heap.size + 1, 2, none⟩ = some (.bool f.sharp) := (hc 2 _ rfl).1
    have c3' : wr.cell? ⟨w.heap.size + 1, 3, none⟩ = some (.bool f.blank) := (hc 3 _ rfl).1
    have c4' : wr.cell? ⟨w.heap.size + 1, 4, none⟩ = some (.bool f.zero) := (hc 4 _ rfl).1
    obtain ⟨c5, f5⟩ := hc 5 _ rfl
    have hpr : f.prec = -1 := by rw [← HX.out.2]; exact (flags_rest _ _ _).trans rfl
    have c6 : wr.cell? ⟨w.heap.size + 1, 6, none⟩ = some (.int .i64 (-1)) := by rw [← hpr]; exact (hc 6 _ rfl).1
    have f6 := (hc 6 _ rfl).2
    clear hpr
    have i5 : (0 : Int) ≤ (k : Int) + (m : Int) ∧ (k : Int) + (m : Int) ≤ (s.length : Int) := by simp only at hmk; omega
    have i6 : (k : Int) + (m : Int) ≤ 4000000 := by have := HL.out; omega
    clear hc hmk hk2
    have hr := fun i => cell_of_row wr w.heap.size i _ _ _ HB.out.1
    have r0 := hr 0
    have r1 := hr 1
    have r2 := hr 2
    have r3 := hr 3
    have r4 := hr 4
    have r5 := hr 5
    have r6 := hr 6
    have r7 := hr 7
    have r8 := hr 8
    have r9 := hr 9
    have r10 := hr 10
    have hfr := fun i => frozen_of_row wr w.heap.size i _ _ HB.out.1
    clear hr
    cases hd : hasPrefix (s.drop (k + m)) [46] with
    | true =>
      have h3 := (prefix_one hd).1
      rw [hd] at CP HD
      have hx4 := drop_str s (k + m + 1)
      have CN2 := Lib.hid (fun W => number_wid (s.drop (k + m + 1)) (by have := HL.out; rw [List.length_drop]; omega) W)
      have HPR : Hid (fmtPr s = numP 1001 (s.drop (k + m + 1)) 0) := Lib.hid (by unfold fmtPr; rw [HA3.out])
      have hqk := numP_len 1001 (s.drop (k + m + 1)) 0
      rw [List.length_drop] at hqk
      generalize (numP 1001 (s.drop (k + m + 1)) 0) = pq at *
      obtain ⟨p, q⟩ := pq
      have HA4 : Hid (fmtAt4 s = k + m + (1 + q)) := Lib.hid (by unfold fmtAt4; rw [HD.out, HA3.out, HPR.out]; rfl)
      have HP : Hid (fmtPrec s = (p : Int)) := Lib.hid (by unfold fmtPrec; rw [HD.out, HPR.out]; rfl)
      have i7 : (k : Int) + (m : Int) + 1 ≤ (s.length : Int) := by omega
      have j7 : (k : Int) + (m : Int) + (1 + (q : Int)) ≤ (s.length : Int) := by simp only at hqk; omega
      have j8 : (k : Int) + (m : Int) + (1 + (q : Int)) ≤ 4000000 := by have := HL.out; omega
      have j9 : 1 + (q : Int) ≤ 4000000 := by omega
      clear hd hqk
      by_cases h4 : k + m + (1 + q) = s.length
      · have HGD := Lib.hid (fmt_bad1 HA4.out h4)
        have i8 : (k : Int) + (m : Int) + (1 + (q : Int)) = (s.length : Int) := by omega
        clear h4
        skip
        go_wp2_with (first | (go_at_call 73; (with_reducible refine (CN1.out _).mono ?_); rintro e w' ⟨rfl, rfl⟩) | (go_at_call 22; (with_reducible refine (CP.out _).mono ?_); rintro e w' ⟨rfl, rfl⟩) | (go_at_call 73; (with_reducible refine (CN2.out _).mono ?_); rintro e w' ⟨rfl, rfl⟩))
        with_reducible refine fmt_end (n := w.heap.size) (x := .int .i64 (0)) ?_ ?_ ?_ (item_set0 ?_ _ _ _ _ _ _ _ _ _ _ _) ?_
        · simp [go_sem]
        · simp [go_sem]
        · rfl
        · rw [Below.heap_setCell _ _ _ _ (by simp), Below.heap_setCell _ _ _ _ (by simp)]
          exact HB.out.1
        · refine ⟨?_, ?_⟩
          · rw [HGD.out]
            rfl
          · repeat with_reducible refine Below.setCell ?_ (by simp) _
            exact HB.out.2
      have i8 : (((k : Int) + (m : Int) + (1 + (q : Int)) : Int) == (s.length : Int)) = false := by simp; omega
      have i9 : k + m + (1 + q) < s.length := by omega
      have i10 : (k : Int) + (m : Int) + (1 + (q : Int)) < (s.length : Int) := by omega
      have i11 : (0 : Int) ≤ (k : Int) + (m : Int) + (1 + (q : Int)) := by omega
      have i12 : (0 : Int) ≤ (k : Int) + (m : Int) + (1 + (q : Int)) ∧ (k : Int) + (m : Int) + (1 + (q : Int)) < (s.length : Int) := ⟨i11, i10⟩
      have ec4 := at_byte i9
      have hnat : ((k : Int) + (m : Int) + (1 + (q : Int))).toNat = k + m + (1 + q) := by omega
      have hwr : IntKind.i64.wrap ((k : Int) + (m : Int) + (1 + (q : Int)) + 1) = (k : Int) + (m : Int) + (1 + (q : Int)) + 1 := by rw [IntKind.wrap_i64]; omega
      have CV := Lib.hid (fun W => index_any formatVerbs (byteAt s (k + m + (1 + q))) W)
      have HV0 := Lib.hid (@fmt_bad2 s (k + m + (1 + q)) HA4.out)
      have HV1 := Lib.hid (@fmt_good s (k + m + (1 + q)) a ((p : Int)) f HA4.out HW1.out HP.out HX.out.2 (by omega))
      clear h4
      generalize byteAt s (k + m + (1 + q)) = e4 at *
      by_cases hv : indexByte formatVerbs e4 < 0
      · have HGD := Lib.hid (HV0.out hv)
        generalize indexByte formatVerbs e4 = iv at *
        go_wp2_with (first | (go_at_call 73; (with_reducible refine (CN1.out _).mono ?_); rintro e w' ⟨rfl, rfl⟩) | (go_at_call 22; (with_reducible refine (CP.out _).mono ?_); rintro e w' ⟨rfl, rfl⟩) | (go_at_call 73; (with_reducible refine (CN2.out _).mono ?_); rintro e w' ⟨rfl, rfl⟩) | (go_at_call 41; (with_reducible refine (CV.out _).mono ?_); rintro e w' ⟨rfl, rfl⟩))
        with_reducible refine fmt_end (n := w.heap.size) (x := .int .i64 (0)) ?_ ?_ ?_ (item_set0 ?_ _ _ _ _ _ _ _ _ _ _ _) ?_
        · simp [go_sem]
        · simp [go_sem]
        · rfl
        · rw [Below.heap_setCell _ _ _ _ (by simp), Below.heap_setCell _ _ _ _ (by simp)]
          exact HB.out.1
        · refine ⟨?_, ?_⟩
          · rw [HGD.out]
            rfl
          · repeat with_reducible refine Below.setCell ?_ (by simp) _
            exact HB.out.2
      by_cases h1k : (1000 : Int) < max (a : Int) ((p : Int))
      · have HGD := Lib.hid (fmt_bad3 HW1.out HP.out h1k)
        generalize indexByte formatVerbs e4 = iv at *
        go_wp2_with (first | (go_at_call 73; (with_reducible refine (CN1.out _).mono ?_); rintro e w' ⟨rfl, rfl⟩) | (go_at_call 22; (with_reducible refine (CP.out _).mono ?_); rintro e w' ⟨rfl, rfl⟩) | (go_at_call 73; (with_reducible refine (CN2.out _).mono ?_); rintro e w' ⟨rfl, rfl⟩) | (go_at_call 41; (with_reducible refine (CV.out _).mono ?_); rintro e w' ⟨rfl, rfl⟩))
        with_reducible refine fmt_end (n := w.heap.size) (x := .int .i64 (0)) ?_ ?_ ?_ (item_set0 ?_ _ _ _ _ _ _ _ _ _ _ _) ?_
        · simp [go_sem]
        · simp [go_sem]
        · rfl
        · rw [Below.heap_setCell _ _ _ _ (by simp), Below.heap_setCell _ _ _ _ (by simp)]
          exact HB.out.1
        · refine ⟨?_, ?_⟩
          · rw [HGD.out]
            rfl
          · repeat with_reducible refine Below.setCell ?_ (by simp) _
            exact HB.out.2
      have HGD := Lib.hid (HV1.out hv h1k)
      generalize indexByte formatVerbs e4 = iv at *
      go_wp2_with (first | (go_at_call 73; (with_reducible refine (CN1.out _).mono ?_); rintro e w' ⟨rfl, rfl⟩) | (go_at_call 22; (with_reducible refine (CP.out _).mono ?_); rintro e w' ⟨rfl, rfl⟩) | (go_at_call 73; (with_reducible refine (CN2.out _).mono ?_); rintro e w' ⟨rfl, rfl⟩) | (go_at_call 41; (with_reducible refine (CV.out _).mono ?_); rintro e w' ⟨rfl, rfl⟩))
      go_region_law (fail)
      all_goals
        go_wp2
        with_reducible refine fmt_end_drew (n := w.heap.size) (x := .int .i64 ((k : Int) + (m : Int) + (1 + (q : Int)) + 1)) ?_ ?_ ?_ (item_set0 ?_ _ _ _ _ _ _ _ _ _ _ _) ?_
        · simp [go_sem]
        · simp [go_sem]
        · rfl
        · rw [Below.heap_setCell _ _ _ _ (by simp), Below.heap_setCell _ _ _ _ (by simp)]
          exact HB.out.1
        · refine ⟨?_, ?_⟩
          · rw [HGD.out]
            simp
          · refine Below.drew ?_
            repeat with_reducible refine Below.setCell ?_ (by simp) _
            exact HB.out.2
      
    | false =>
      rw [hd] at CP HD
      have HA4 : Hid (fmtAt4 s = k + m) := Lib.hid (by unfold fmtAt4; rw [HD.out, HA3.out]; rfl)
      have HP : Hid (fmtPrec s = -1) := Lib.hid (by unfold fmtPrec; rw [HD.out]; rfl)
      clear hd
      by_cases h4 : k + m = s.length
      · have HGD := Lib.hid (fmt_bad1 HA4.out h4)
        have i8 : (k : Int) + (m : Int) = (s.length : Int) := by omega
        clear h4
        have CPE : Hid (∀ W, Calls Tryd.prog 22 #[.string ByteArray.empty, str [46]] W fun e w' => e = .returned (.bool false) ∧ W = w') := Lib.hid (fun W => prefix_any [] [46] W)
        go_wp2_with (first | (go_at_call 73; (with_reducible refine (CN1.out _).mono ?_); rintro e w' ⟨rfl, rfl⟩) | (go_at_call 22; (with_reducible refine (CP.out _).mono ?_); rintro e w' ⟨rfl, rfl⟩) | (go_at_call 22; (with_reducible refine (CPE.out _).mono ?_); rintro e w' ⟨rfl, rfl⟩))
        with_reducible refine fmt_end (n := w.heap.size) (x := .int .i64 (0)) ?_ ?_ ?_ (item_set0 ?_ _ _ _ _ _ _ _ _ _ _ _) ?_
        · simp [go_sem]
        · simp [go_sem]
        · rfl
        · rw [Below.heap_setCell _ _ _ _ (by simp)]
          exact HB.out.1
        · refine ⟨?_, ?_⟩
          · rw [HGD.out]
            rfl
          · repeat with_reducible refine Below.setCell ?_ (by simp) _
            exact HB.out.2
      have i8 : (((k : Int) + (m : Int) : Int) == (s.length : Int)) = false := by simp; omega
      have i9 : k + m < s.length := by omega
      have i10 : (k : Int) + (m : Int) < (s.length : Int) := by omega
      have i11 : (0 : Int) ≤ (k : Int) + (m : Int) := by omega
      have i12 : (0 : Int) ≤ (k : Int) + (m : Int) ∧ (k : Int) + (m : Int) < (s.length : Int) := ⟨i11, i10⟩
      have ec4 := at_byte i9
      have hnat : ((k : Int) + (m : Int)).toNat = k + m := by omega
      have hwr : IntKind.i64.wrap ((k : Int) + (m : Int) + 1) = (k : Int) + (m : Int) + 1 := by rw [IntKind.wrap_i64]; omega
      have CV := Lib.hid (fun W => index_any formatVerbs (byteAt s (k + m)) W)
      have HV0 := Lib.hid (@fmt_bad2 s (k + m) HA4.out)
      have HV1 := Lib.hid (@fmt_good s (k + m) a (-1) f HA4.out HW1.out HP.out HX.out.2 (by omega))
      clear h4
      generalize byteAt s (k + m) = e4 at *
      by_cases hv : indexByte formatVerbs e4 < 0
      · have HGD := Lib.hid (HV0.out hv)
        generalize indexByte formatVerbs e4 = iv at *
        go_wp2_with (first | (go_at_call 73; (with_reducible refine (CN1.out _).mono ?_); rintro e w' ⟨rfl, rfl⟩) | (go_at_call 22; (with_reducible refine (CP.out _).mono ?_); rintro e w' ⟨rfl, rfl⟩) | (go_at_call 41; (with_reducible refine (CV.out _).mono ?_); rintro e w' ⟨rfl, rfl⟩))
        with_reducible refine fmt_end (n := w.heap.size) (x := .int .i64 (0)) ?_ ?_ ?_ (item_set0 ?_ _ _ _ _ _ _ _ _ _ _ _) ?_
        · simp [go_sem]
        · simp [go_sem]
        · rfl
        · rw [Below.heap_setCell _ _ _ _ (by simp)]
          exact HB.out.1
        · refine ⟨?_, ?_⟩
          · rw [HGD.out]
            rfl
          · repeat with_reducible refine Below.setCell ?_ (by simp) _
            exact HB.out.2
      by_cases h1k : (1000 : Int) < max (a : Int) (-1)
      · have HGD := Lib.hid (fmt_bad3 HW1.out HP.out h1k)
        generalize indexByte formatVerbs e4 = iv at *
        go_wp2_with (first | (go_at_call 73; (with_reducible refine (CN1.out _).mono ?_); rintro e w' ⟨rfl, rfl⟩) | (go_at_call 22; (with_reducible refine (CP.out _).mono ?_); rintro e w' ⟨rfl, rfl⟩) | (go_at_call 41; (with_reducible refine (CV.out _).mono ?_); rintro e w' ⟨rfl, rfl⟩))
        with_reducible refine fmt_end (n := w.heap.size) (x := .int .i64 (0)) ?_ ?_ ?_ (item_set0 ?_ _ _ _ _ _ _ _ _ _ _ _) ?_
        · simp [go_sem]
        · simp [go_sem]
        · rfl
        · rw [Below.heap_setCell _ _ _ _ (by simp)]
          exact HB.out.1
        · refine ⟨?_, ?_⟩
          · rw [HGD.out]
            rfl
          · repeat with_reducible refine Below.setCell ?_ (by simp) _
            exact HB.out.2
      have HGD := Lib.hid (HV1.out hv h1k)
      generalize indexByte formatVerbs e4 = iv at *
      go_wp2_with (first | (go_at_call 73; (with_reducible refine (CN1.out _).mono ?_); rintro e w' ⟨rfl, rfl⟩) | (go_at_call 22; (with_reducible refine (CP.out _).mono ?_); rintro e w' ⟨rfl, rfl⟩) | (go_at_call 41; (with_reducible refine (CV.out _).mono ?_); rintro e w' ⟨rfl, rfl⟩))
      go_region_law (fail)
      all_goals
        go_wp2
        with_reducible refine fmt_end_drew (n := w.heap.size) (x := .int .i64 ((k : Int) + (m : Int) + 1)) ?_ ?_ ?_ (item_set0 ?_ _ _ _ _ _ _ _ _ _ _ _) ?_
        · simp [go_sem]
        · simp [go_sem]
        · rfl
        · rw [Below.heap_setCell _ _ _ _ (by simp)]
          exact HB.out.1
        · refine ⟨?_, ?_⟩
          · rw [HGD.out]
            simp
          · refine Below.drew ?_
            repeat with_reducible refine Below.setCell ?_ (by simp) _
            exact HB.out.2
      
    )
  clear hK
  have HST := Lib.hid (flag_start w s colonFlags 2 HA1.out)
  go_loopw [5] (fun a wr => FlagI w s colonFlags 2 a wr) (fun a _ => s.length - (RowKit.intOf a).toNat)
  case atStart => exact HST.out
  case round =>
    obtain ⟨k, f, rfl, hk1, hk2, hf, hbox, hbel, e1, e2⟩ := hrel
    have HF := Lib.hid hf
    have HB := Lib.hid (And.intro hbox hbel)
    have HE := Lib.hid (And.intro e1 e2)
    have HK := Lib.hid (And.intro hk1 hk2)
    have hi2 : (0 : Int) ≤ (k : Int) := by omega
    have hi3 : (k : Int) ≤ 4000000 := by have := HL.out; omega
    clear hf hbox hbel e1 e2
    by_cases hlt : k < s.length
    · have hi1 : (k : Int) < (s.length : Int) := by omega
      have ec := at_byte hlt
      have HLT := Lib.hid hlt
      have CI := Lib.hid (fun W => index_any colonFlags (byteAt s k) W)
      have HN := Lib.hid (flagsP_at (fl := colonFlags) (f := f) hlt)
      have CS1 := Lib.hid (set_any (byteAt s k) wr (w.heap.size + 1) f HF.out)
      generalize byteAt s k = c at *
      by_cases hix : 0 ≤ indexByte colonFlags c
      · have HIX := Lib.hid hix
        generalize indexByte colonFlags c = ix at *
        clear hk1 hk2 hlt
        go_wp2_with (first
          | (go_at_call 41; (with_reducible refine (CI.out _).mono ?_); rintro e w' ⟨rfl, rfl⟩)
          | (go_at_call 74; (with_reducible refine (CS1.out).mono ?_); rintro e w' ⟨rfl, hs1, hs2⟩; have HS1 := Lib.hid (And.intro hs1 hs2); clear hs1 hs2))
        exact ⟨flag_next HB.out.1 HB.out.2 HK.out.1 HLT.out HS1.out.1 HS1.out.2 HE.out.1 HE.out.2 (by rw [HN.out, if_pos HIX.out]), by have := HLT.out; simp [RowKit.intOf]; omega⟩
      · have HX : Hid (fmtAt2 s = k ∧ (fmtF s).1 = f) := Lib.hid (flag_stop HAT.out HFL.out HE.out.1 HE.out.2 (by rw [HN.out, if_neg hix]))
        have hix2 : (indexByte colonFlags c < 0) := by omega
        have hix3 : ¬ (0 : Int) ≤ indexByte colonFlags c := hix
        generalize indexByte colonFlags c = ix at *
        clear hk1 hk2 hlt hix
        go_wp2_with (go_at_call 41; (with_reducible refine (CI.out _).mono ?_); rintro e w' ⟨rfl, rfl⟩)
        exact HM.out _ _ ⟨k, f, _, _, _, _, _, _, _, _, _, _, _, _, _, _, _, _, _, _, _, _, _, _, _, _, _, _, rfl, HK.out.2, HF.out, HB.out.1, HB.out.2, HX.out⟩
    · have HX : Hid (fmtAt2 s = k ∧ (fmtF s).1 = f) := Lib.hid (flag_stop HAT.out HFL.out HE.out.1 HE.out.2 (flagsP_end (Nat.le_of_not_lt hlt)))
      have hi1 : ¬ (k : Int) < (s.length : Int) := by omega
      clear hk1 hk2 hlt
      go_wp2_with fail
      exact HM.out _ _ ⟨k, f, _, _, _, _, _, _, _, _, _, _, _, _, _, _, _, _, _, _, _, _, _, _, _, _, _, _, rfl, HK.out.2, HF.out, HB.out.1, HB.out.2, HX.out⟩
end Go.Proofs.YtapihomdfdhnnaaDoor
