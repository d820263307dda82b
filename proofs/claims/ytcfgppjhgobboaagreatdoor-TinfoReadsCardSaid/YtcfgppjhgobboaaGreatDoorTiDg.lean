/-
  The document's reader of package tinfo: the extended part.
-/
import Derived.Test.YtcfgppjhgobboaaGreatDoorTiDk
import Derived.Test.YtcfgppjhgobboaaGreatDoorTiDc
import Derived.Deep.Cut
import Derived.Deep.RegionHeld3
import Derived.StillTailTactics
namespace Go.Proofs.YtcfgppjhgobboaaGreatDoor
open Go.RowKit Go.Shelf Go.Lib
attribute [local go_sem] Oper.semAt_some

set_option maxRecDepth 100000 in
set_option maxHeartbeats 2000000 in
theorem dsecond_short (w : World) (kb : Nat) (A : Option Addr) (cap : Nat) (b : List UInt8) (p : Nat) (wide : Bool) (h : DrAt w kb (.slice A b.length cap) b ⟨p, 0, 0, wide⟩) (hl : b.length < p + 10) :
    Calls Tryz.prog 27 #[.pointer (some ⟨kb, 0, none⟩)] w (DSecondPost w kb (.slice A b.length cap) b p wide) := by
  have HR := Lib.hid (readExt_e1 (wide := wide) hl)
  have HEN : Hid (Ends b.length (headS b.length ⟨p, 0, 0, wide⟩ 5)) := Lib.hid (headS_ends rfl h.pos 5 (by show b.length < p + 2 * 5; omega))
  have CH := Lib.hid (dhead_any w kb _ b _ h)
  clear h hl
  go_enter Tryz.func27, Tryz.ntmps27
  go_wp2_with (first
  | (go_at_call 74; refine (CH.out).mono ?_; rintro e w2 ⟨u, rfl, hr, ho, hs⟩
     obtain ⟨B1, c1, rfl⟩ := hr.form
     obtain ⟨s', hs'⟩ : ∃ s', headS b.length ⟨p, 0, 0, wide⟩ 5 = s' := ⟨_, rfl⟩
     rw [hs'] at hs HEN
     have HS := Lib.hid hs
     obtain ⟨c0, -, c2, -, -, -, -, -, -, -⟩ := hs.rd.cells
     rw [HEN.out.1] at c2
     clear hr ho hs hs'))
  go_ret
  exact DSecondPost.bad HR.out HEN.out.1 HEN.out.2 (by decide) HS.out
set_option maxRecDepth 100000 in
set_option maxHeartbeats 16000000 in
theorem dsecond_long (w : World) (kb : Nat) (A : Option Addr) (cap : Nat) (b : List UInt8) (p : Nat) (wide : Bool) (h : DrAt w kb (.slice A b.length cap) b ⟨p, 0, 0, wide⟩) (hT : RobP (fun k => k = kb) w Tabs) (hl : ¬ b.length < p + 10) :
    Calls Tryz.prog 27 #[.pointer (some ⟨kb, 0, none⟩)] w (DSecondPost w kb (.slice A b.length cap) b p wide) := by
  have H0 := Lib.hid h
  have HL := Lib.hid hl
  have HLT := Lib.hid h.lt
  have HTb := Lib.hid hT
  have hbig := h.big
  have HBG := Lib.hid hbig
  have CH : Hid (Calls Tryz.prog 74 #[.pointer (some ⟨kb, 0, none⟩)] w fun e w' => ∃ u, e = .returned (.tuple #[u, .int .i64 p]) ∧ IntRow w' u (shortsAt b p 5) ∧ (∀ k, u.ownBlock = some k → w.heap.size ≤ k) ∧ DStep w kb (.slice A b.length cap) b ⟨p + 10, 0, 0, wide⟩ w') := Lib.hid (dhead_ok w kb _ b _ h rfl (by show p + 10 ≤ _; omega))
  have ip : (p : Int) + 10 ≤ (b.length : Int) := by omega
  have ib : (b.length : Int) ≤ 140737488351232 := by omega
  clear h hT hl hbig
  go_enter Tryz.func27, Tryz.ntmps27
  go_wp2_with (first
  | (go_at_call 74; refine (CH.out).mono ?_; rintro e w2 ⟨u, rfl, hr, ho, hs⟩
     obtain ⟨B1, bc1, hB1, hIN⟩ := hr.reads_n (shorts_length _ _ _) (by omega)
     subst hB1
     obtain ⟨ka, oa, rfl, hka, _⟩ := hIN.cell (shorts_at b p 5 0 (by omega))
     have hx : DS (fun k => k = kb) w w2 kb (.slice A b.length cap) b ⟨p + 10, 0, 0, wide⟩ ka oa bc1 (shortsAt b p 5) Tabs := ⟨hs, RobI.of_row hr (fun k hk hx => by have := ho k hk; have := HLT.out; omega) (by rw [shorts_length]; omega), HTb.out.next hs.ht⟩
     have HX := Lib.hid hx
     obtain ⟨c0, -, c2, -, -, -, -, -, -, -⟩ := hs.rd.cells
     clear hr ho hs hIN hka hx))
  clear c0 c2
  go_loopw [5] (fun i wr => DExtR w kb (.slice A b.length cap) b p wide ka oa bc1 i wr) (fun i _ => 5 - (RowKit.intOf i).toNat)
  case atStart => exact ⟨0, rfl, Nat.zero_le _, HX.out⟩
  case round =>
    obtain ⟨k, rfl, hk, hdt⟩ := hrel
    have HT := Lib.hid hdt
    obtain ⟨v0, v1⟩ := short_bd b p
    obtain ⟨v2, v3⟩ := short_bd b (p + 2)
    obtain ⟨v4, v5⟩ := short_bd b (p + 4)
    by_cases hk5 : k < 5
    · have HLK := Lib.hid hk5
      have hc := hdt.cell (shorts_at b p 5 k hk5)
      obtain ⟨k0, k1, k2, -, -⟩ := hdt.cells
      have HBD : Hid (extBad b p k = (decide (shortAt b (p + 2 * k) < 0) || (k == 2 && decide (256 < shortAt b p + shortAt b (p + 2) + shortAt b (p + 4))))) := Lib.hid rfl
      have HNX := Lib.hid (countS_next (extBad b p) p ⟨p + 10, 0, 0, wide⟩ k)
      have CF : Hid (∀ W s, DrAt W kb (.slice A b.length cap) b s → Calls Tryz.prog 28 #[.pointer (some ⟨kb, 0, none⟩), .int .i64 32, .int .i64 ((p : Int) + 2 * (k : Int))] W fun e w' => e = .returned (.tuple #[]) ∧ DStep W kb (.slice A b.length cap) b (failS s 32 (p + 2 * k)) w') := Lib.hid (fun W s hW => by have := dfail_any W kb _ b s 32 (p + 2 * k) hW; rwa [show ((p + 2 * k : Nat) : Int) = (p : Int) + 2 * (k : Int) by push_cast; rfl] at this)
      have i1 : (0 : Int) ≤ (k : Int) := by omega
      have i2 : (k : Int) < 5 := by omega
      clear hk hdt hk5
      generalize shortAt b p = z0 at *
      generalize shortAt b (p + 2) = z1 at *
      generalize shortAt b (p + 4) = z2 at *
      by_cases h1 : shortAt b (p + 2 * k) < 0
      · have HB : Hid (extBad b p k = true) := Lib.hid (by rw [HBD.out]; simp [h1])
        generalize shortAt b (p + 2 * k) = z at *
        go_wp2
        go_quiet (fail)
        go_wp2_with (first
        | (go_at_call 28; refine (CF.out _ _ (HT.out.below (drewN_below wr nq)).st.rd).mono ?_; rintro e w4 ⟨rfl, hs⟩; have HS := Lib.hid (((HT.out.below (drewN_below wr nq)).next rfl hs)); clear hs))
        go_roundw
        case rel => exact DExtR.next HLK.out (by rw [HNX.out, HB.out, if_pos rfl]; exact HS.out)
        case measure => have := HLK.out; simp [RowKit.intOf]; omega
      · have h1' : (shortAt b (p + 2 * k) < 0) = False := by simp; omega
        by_cases hk2 : k = 2
        · have hkb : ((k : Int) == 2) = true := by simp [hk2]
          by_cases h2 : 256 < z0 + z1 + z2
          · have HB : Hid (extBad b p k = true) := Lib.hid (by rw [HBD.out]; simp [hk2, h2])
            have h2' : (256 < z0 + z1 + z2) = True := by simp [h2]
            generalize shortAt b (p + 2 * k) = z at *
            clear h1 h2 hk2
            go_wp2
            go_quiet (fail)
            go_wp2_with (first
            | (go_at_call 28; refine (CF.out _ _ (HT.out.below (drewN_below wr nq)).st.rd).mono ?_; rintro e w4 ⟨rfl, hs⟩; have HS := Lib.hid (((HT.out.below (drewN_below wr nq)).next rfl hs)); clear hs))
            go_roundw
            case rel => exact DExtR.next HLK.out (by rw [HNX.out, HB.out, if_pos rfl]; exact HS.out)
            case measure => have := HLK.out; simp [RowKit.intOf]; omega
          · have HB : Hid (extBad b p k = false) := Lib.hid (by rw [HBD.out]; simp [h1, h2])
            have h2' : (256 < z0 + z1 + z2) = False := by simp; omega
            generalize shortAt b (p + 2 * k) = z at *
            clear h1 h2 hk2
            go_wp2
            go_quiet (fail)
            go_wp2
            go_roundw
            case rel => exact DExtR.next HLK.out (by rw [HNX.out, HB.out, if_neg (by decide)]; exact (HT.out.below (drewN_below wr nq)))
            case measure => have := HLK.out; simp [RowKit.intOf]; omega
        · have HB : Hid (extBad b p k = false) := Lib.hid (by rw [HBD.out]; simp [h1, hk2])
          have hkb : ((k : Int) == 2) = false := by simp; omega
          generalize shortAt b (p + 2 * k) = z at *
          clear h1 hk2
          go_wp2
          go_quiet (fail)
          go_wp2
          go_roundw
          case rel => exact DExtR.next HLK.out (by rw [HNX.out, HB.out, if_neg (by decide)]; exact (HT.out.below (drewN_below wr nq)))
          case measure => have := HLK.out; simp [RowKit.intOf]; omega
    · have i2 : ¬ (k : Int) < 5 := by omega
      have hk5e : k = 5 := by omega
      obtain ⟨s5, h5⟩ : ∃ s, countS (extBad b p) p ⟨p + 10, 0, 0, wide⟩ 5 = s := ⟨_, rfl⟩
      rw [hk5e, h5] at hdt
      have hp5 : s5.pos = p + 10 := by rw [← h5, countS_pos]
      have hw5 : s5.wide = wide := by rw [← h5, countS_wide]
      have HZC : Hid (s5.e = 0 → firstBad 5 (extBad b p) = none ∧ s5 = ⟨p + 10, 0, 0, wide⟩) := Lib.hid (fun he => by rw [← h5] at he; have := count_e0 (s := ⟨p + 10, 0, 0, wide⟩) rfl he; exact ⟨this.1, h5 ▸ this.2⟩)
      have W5 := Lib.hid hw5
      obtain ⟨v6, v7⟩ := short_bd b (p + 6)
      obtain ⟨v8, v9⟩ := short_bd b (p + 8)
      have HZ : Hid (firstBad 5 (extBad b p) = none → shortAt b p = (cnt b p 0 : Nat) ∧ shortAt b (p + 2) = (cnt b p 1 : Nat) ∧ shortAt b (p + 4) = (cnt b p 2 : Nat) ∧ shortAt b (p + 6) = (cnt b p 3 : Nat) ∧ shortAt b (p + 8) = (cnt b p 4 : Nat) ∧ cnt b p 0 + cnt b p 1 + cnt b p 2 ≤ 256 ∧ cnt b p 3 ≤ 32767 ∧ cnt b p 4 ≤ 32767) := Lib.hid (fun hf => by
        obtain ⟨hn, hr⟩ := extCnt_bd hf
        exact ⟨cnt_at (hn 0 (by omega)), cnt_at (hn 1 (by omega)), cnt_at (hn 2 (by omega)), cnt_at (hn 3 (by omega)), cnt_at (hn 4 (by omega)), hr⟩)
      have HFE := Lib.hid (fun s6 s7 s8 s9 s10 s11 => @second_error b p wide s5 s6 s7 s8 s9 s10 s11 HL.out h5)
      have CL : Hid (∀ W s P, DS (fun k => k = kb) w W kb (.slice A b.length cap) b s ka oa bc1 (shortsAt b p 5) P →
        W.cell? ⟨ka, oa, none⟩ = some (.int .i64 (shortAt b p)) ∧ W.cell? ⟨ka, oa + 1, none⟩ = some (.int .i64 (shortAt b (p + 2))) ∧ W.cell? ⟨ka, oa + 2, none⟩ = some (.int .i64 (shortAt b (p + 4))) ∧ W.cell? ⟨ka, oa + 3, none⟩ = some (.int .i64 (shortAt b (p + 6))) ∧ W.cell? ⟨ka, oa + 4, none⟩ = some (.int .i64 (shortAt b (p + 8)))) := Lib.hid (fun W s P h => h.cells)
      generalize shortAt b p = z0 at *
      generalize shortAt b (p + 2) = z1 at *
      generalize shortAt b (p + 4) = z2 at *
      generalize shortAt b (p + 6) = z3 at *
      generalize shortAt b (p + 8) = z4 at *
      obtain ⟨k0, k1, k2, k3, k4⟩ := CL.out _ _ _ hdt
      clear HT
      have HT := Lib.hid hdt
      clear hk hdt hk5 hk5e h5 hp5 hw5
      go_wp2
      go_quiet (fail)
      have hx := HT.out.below (drewN_below wr nq)
      clear HT k0 k1 k2 k3 k4
      generalize wr.drewN nq = w3 at *
      have HT := Lib.hid hx
      obtain ⟨k0, k1, k2, k3, k4⟩ := CL.out _ _ _ hx
      clear hx
      go_upto_region 16 with (first
        | (go_at_call 76; (with_reducible refine (dflags_any _ kb _ b s5 z0 HT.out.st.rd (by omega) (by omega) (fun he => by have := (HZ.out (HZC.out he).1); omega)).mono ?_); rintro e w5 ⟨u1, rfl, hr, ho, hs⟩
           obtain ⟨s6, h6⟩ : ∃ s, skipS b.length s5 z0 = s := ⟨_, rfl⟩
           rw [h6] at hs
           have E6 : Hid (s6.e = 0 → s5.e = 0) := Lib.hid (fun he => (skipS_e0 (h6 ▸ he)).1)
           obtain ⟨L1, hL1⟩ : ∃ l, (if needB b.length s5 z0 = true then flagsAt b s5.pos z0.toNat else []) = l := ⟨_, rfl⟩
           rw [hL1] at hr
           have hln1 : L1.length ≤ 40000 := by rw [← hL1]; exact caps_if_len _ _ _ (by rw [flagsAt_length]; omega)
           obtain ⟨B1, m1, rfl⟩ := hr.form
           have H6 := Lib.hid h6
           have HL1 := Lib.hid hL1
           clear h6 hL1
           have hx := (HT.out.next rfl hs).add (Rob.of_row (T := (fun k => k = kb)) hr (fun k hk hx => by have := ho k hk; have := HT.out.st.rd.lt; omega) (by omega))
           clear HT k0 k1 k2 k3 k4 hs hr ho
           have HT := Lib.hid hx
           obtain ⟨k0, k1, k2, k3, k4⟩ := CL.out _ _ _ hx
           clear hx)
        | (go_at_call 26; (with_reducible refine (deven_any _ kb _ b s6 HT.out.st.rd).mono ?_); rintro e w6 ⟨rfl, hs⟩
           obtain ⟨s7, h7⟩ : ∃ s, evenS b.length s6 = s := ⟨_, rfl⟩
           rw [h7] at hs
           have E7 : Hid (s7.e = 0 → s5.e = 0) := Lib.hid (fun he => E6.out (evenS_e0 (h7 ▸ he)).1)
           have W7 : Hid (s7.wide = wide) := Lib.hid (by rw [← h7, evenS_wide, ← H6.out, skipS_wide]; exact W5.out)
           have H7 := Lib.hid h7
           clear h7
           have hx := HT.out.next rfl hs
           clear HT k0 k1 k2 k3 k4 hs
           have HT := Lib.hid hx
           obtain ⟨k0, k1, k2, k3, k4⟩ := CL.out _ _ _ hx
           clear hx)
        | (go_at_call 77; (with_reducible refine (dnums_any _ kb _ b s7 z1 HT.out.st.rd (by omega) (by omega) (fun he => by have := (HZ.out (HZC.out (E7.out he)).1); omega)).mono ?_); unfold DNumsPost; rw [W7.out]; rintro e w7 ⟨u2, rfl, hr, ho, hs⟩
           obtain ⟨s8, h8⟩ : ∃ s, skipS b.length s7 (z1 * (sizeOf wide : Nat)) = s := ⟨_, rfl⟩
           rw [h8] at hs
           have E8 : Hid (s8.e = 0 → s5.e = 0) := Lib.hid (fun he => E7.out (skipS_e0 (h8 ▸ he)).1)
           obtain ⟨L2, hL2⟩ : ∃ l, (if needB b.length s7 (z1 * (sizeOf wide : Nat)) = true then (numsAt wide b s7.pos z1.toNat).map capOfNum else []) = l := ⟨_, rfl⟩
           rw [hL2] at hr
           have hln2 : L2.length ≤ 40000 := by rw [← hL2]; exact caps_if_len _ _ _ (by rw [List.length_map, numsAt_length]; omega)
           obtain ⟨B2, m2, rfl⟩ := hr.form
           obtain ⟨q3, hq3⟩ : ∃ q, s8.pos = q := ⟨_, rfl⟩
           have H8 := Lib.hid h8
           have HL2 := Lib.hid hL2
           have P8 := Lib.hid hq3
           have A1 := trivial
           clear h8 hL2 hq3
           have hx := (HT.out.next rfl hs).add (Rob.of_row (T := (fun k => k = kb)) hr (fun k hk hx => by have := ho k hk; have := HT.out.st.rd.lt; omega) (by omega))
           clear HT k0 k1 k2 k3 k4 hs hr ho
           have HT := Lib.hid hx
           obtain ⟨k0, k1, k2, k3, k4⟩ := CL.out _ _ _ hx
           clear hx)
        | (go_at_call 75; have _t := A1; (with_reducible refine (dskip_any _ kb _ b s8 (2 * z2) HT.out.st.rd (by omega) (by omega) (fun he => by have := (HZ.out (HZC.out (E8.out he)).1); omega)).mono ?_); rw [P8.out]; rintro e w8 ⟨rfl, hs⟩
           obtain ⟨s9, h9⟩ : ∃ s, skipS b.length s8 (2 * z2) = s := ⟨_, rfl⟩
           rw [h9] at hs
           have E9 : Hid (s9.e = 0 → s5.e = 0) := Lib.hid (fun he => E8.out (skipS_e0 (h9 ▸ he)).1)
           obtain ⟨q4, hq4⟩ : ∃ q, s9.pos = q := ⟨_, rfl⟩
           have H9 := Lib.hid h9
           have P9 := Lib.hid hq4
           have A2 := trivial
           clear A1 h9 hq4
           have hx := HT.out.next rfl hs
           clear HT k0 k1 k2 k3 k4 hs
           have HT := Lib.hid hx
           obtain ⟨k0, k1, k2, k3, k4⟩ := CL.out _ _ _ hx
           clear hx)
        | (go_at_call 75; have _t := A2; (with_reducible refine (dskip_any _ kb _ b s9 (2 * (z0 + z1 + z2)) HT.out.st.rd (by omega) (by omega) (fun he => by have := (HZ.out (HZC.out (E9.out he)).1); omega)).mono ?_); rw [P9.out]; rintro e w9 ⟨rfl, hs⟩
           obtain ⟨s10, h10⟩ : ∃ s, skipS b.length s9 (2 * (z0 + z1 + z2)) = s := ⟨_, rfl⟩
           rw [h10] at hs
           have E10 : Hid (s10.e = 0 → s5.e = 0) := Lib.hid (fun he => E9.out (skipS_e0 (h10 ▸ he)).1)
           obtain ⟨q5, hq5⟩ : ∃ q, s10.pos = q := ⟨_, rfl⟩
           have H10 := Lib.hid h10
           have P10 := Lib.hid hq5
           have A3 := trivial
           clear A2 h10 hq5
           have hx := HT.out.next rfl hs
           clear HT k0 k1 k2 k3 k4 hs
           have HT := Lib.hid hx
           obtain ⟨k0, k1, k2, k3, k4⟩ := CL.out _ _ _ hx
           clear hx)
        | (go_at_call 75; have _t := A3; (with_reducible refine (dskip_any _ kb _ b s10 z4 HT.out.st.rd (by omega) (by omega) (fun he => by have := (HZ.out (HZC.out (E10.out he)).1); omega)).mono ?_); rw [P10.out]; rintro e w10 ⟨rfl, hs⟩
           obtain ⟨s11, h11⟩ : ∃ s, skipS b.length s10 z4 = s := ⟨_, rfl⟩
           rw [h11] at hs
           have H11 := Lib.hid h11
           clear A3 h11
           have hx := HT.out.next rfl hs
           clear HT k0 k1 k2 k3 k4 hs
           have HT := Lib.hid hx
           obtain ⟨k0, k1, k2, k3, k4⟩ := CL.out _ _ _ hx
           clear hx))
      have hT := HT.out
      obtain ⟨c0, -, c2, -, -, -, -, -, -, -⟩ := hT.st.rd.cells
      clear HX
      by_cases he : s11.e = 0
      · obtain ⟨a5, b5, r6, r7, b7, r8, r9, r10, r11⟩ := sect2_e0 H6.out H7.out H8.out H9.out H10.out H11.out he
        obtain ⟨hf, h5'⟩ := HZC.out a5
        obtain ⟨y0, y1, y2, y3, y4, u0, u1, u2⟩ := HZ.out hf
        obtain ⟨al, hal⟩ : ∃ n, cnt b p 0 + cnt b p 1 + cnt b p 2 = n := ⟨_, rfl⟩
        obtain ⟨q2, hq2⟩ : ∃ q, evenUp (p + 10 + cnt b p 0) = q := ⟨_, rfl⟩
        have p6 : s6.pos = p + 10 + cnt b p 0 := by rw [r6, h5', y0]; simp
        have p7 : s7.pos = q2 := by rw [r7]; simp only [p6]; exact hq2
        have p8 : q3 = q2 + cnt b p 1 * sizeOf wide := by rw [← P8.out, r8, y1]; simp only [p7]; rw [← Int.natCast_mul, Int.toNat_natCast]
        have p9 : q4 = q3 + cnt b p 2 * 2 := by rw [← P9.out, r9, y2, ← P8.out]; simp; omega
        have p10 : q5 = q4 + al * 2 := by rw [← P10.out, r10, y0, y1, y2, ← P9.out]; simp; omega
        have hlay : lay2 wide p (cnt b p) = ⟨p + 10, q2, q3, q4, q5, q5 + cnt b p 4⟩ := by rw [lay2_eq, hal, hq2, p10, p9, p8]
        have hep : p + 10 + cnt b p 0 ≤ q2 ∧ q2 ≤ q3 ∧ q3 ≤ q4 ∧ q4 ≤ q5 := by refine ⟨hq2 ▸ evenUp_le _, by rw [p8]; exact Nat.le_add_right _ _, by omega, by omega⟩
        have hs11 : s11 = ⟨q5 + cnt b p 4, 0, 0, wide⟩ := by
          rw [r11, y4, ← P10.out, r10, r9, r8, r7, r6, h5']; simp
        have hfin : q5 + cnt b p 4 ≤ b.length := by have := hT.st.rd.pos; rw [hs11] at this; exact this
        have hl1 : L1 = flagsAt b (p + 10) (cnt b p 0) := by rw [← HL1.out, if_pos b5, h5', y0, Int.toNat_natCast]
        have hl2 : L2 = (numsAt wide b q2 (cnt b p 1)).map capOfNum := by rw [← HL2.out, if_pos b7, p7, y1, Int.toNat_natCast]
        obtain ⟨is, his⟩ : ∃ l, shortsAt b q3 (cnt b p 2) = l := ⟨_, rfl⟩
        obtain ⟨ps, hps⟩ : ∃ l, shortsAt b q4 al = l := ⟨_, rfl⟩
        obtain ⟨tab, htab⟩ : ∃ l, part b q5 (cnt b p 4) = l := ⟨_, rfl⟩
        have hnl : ¬ b.length < q5 + cnt b p 4 := by omega
        have hE4 := @readExt_e4 b p wide HL.out hf
        have hE5 := fun i => @readExt_e5 b p wide i HL.out hf
        have hE6 := fun i => @readExt_e6 b p wide i HL.out hf
        have hE7 := @readExt_ok b p wide HL.out hf
        unfold extTab at hE6 hE7
        rw [hlay] at hE4 hE5 hE6 hE7
        simp only [hal, his, hps, htab] at hE4 hE5 hE6 hE7
        rw [← hl1, ← hl2] at hE7
        have HE4 := Lib.hid (hE4 hnl)
        have HE5 := Lib.hid (fun i => hE5 i hnl)
        have HE6 := Lib.hid (fun i => hE6 i hnl)
        have HE7 := Lib.hid (hE7 hnl)
        have HLL : Hid (L1.length = cnt b p 0 ∧ L2.length = cnt b p 1) := Lib.hid ⟨by rw [hl1, flagsAt_length], by rw [hl2, List.length_map, numsAt_length]⟩
        have HIS := Lib.hid (And.intro his (And.intro hps htab))
        have HLI : Hid (is.length = cnt b p 2 ∧ ps.length = al ∧ tab.length = cnt b p 4) := Lib.hid ⟨by rw [← his, shorts_length], by rw [← hps, shorts_length], by rw [← htab]; exact part_length b hfin⟩
        have HQ := Lib.hid (And.intro hfin (And.intro hep (And.intro hal (And.intro u0 (And.intro u1 u2)))))
        have HSUM : Hid (((cnt b p 0 : Nat) : Int) + ((cnt b p 1 : Nat) : Int) + ((cnt b p 2 : Nat) : Int) = (al : Int)) := Lib.hid (by omega)
        rw [hs11] at hT c2
        have hbv := hT.st.rd.val.size
        have HBC := Lib.hid hbv.1
        have j0 : ((cnt b p 0 : Nat) : Int) ≤ 256 := by omega
        have j1 : ((cnt b p 1 : Nat) : Int) ≤ 256 := by omega
        have j2 : ((cnt b p 2 : Nat) : Int) ≤ 256 := by omega
        have j3 : ((cnt b p 3 : Nat) : Int) ≤ 32767 := by omega
        have j4 : ((cnt b p 4 : Nat) : Int) ≤ 32767 := by omega
        have i3 : (q3 : Int) + 2 * ((cnt b p 2 : Nat) : Int) ≤ (b.length : Int) := by omega
        have i4 : (q5 : Int) + ((cnt b p 4 : Nat) : Int) ≤ (b.length : Int) := by omega
        have i5 : (q4 : Int) + 2 * (al : Int) ≤ (b.length : Int) := by omega
        have ja : (al : Int) ≤ 256 := by omega
        have HT := Lib.hid hT
        have HI := Lib.hid (show DThereR w kb (.slice A b.length cap) b ⟨q5 + cnt b p 4, 0, 0, wide⟩ ka oa bc1 p (fun W => (Tabs W ∧ CapsV W (.slice B1 L1.length m1) L1) ∧ CapsV W (.slice B2 L2.length m2) L2) is (cnt b p 2) (.int .i64 0) (.int .i64 0) w10 from ⟨0, rfl, Nat.zero_le _, rfl, hT⟩)
        clear he hf hlay hs11 hfin hl1 hl2 his hps htab hE4 hE5 hE6 hE7 hnl hep u0 u1 u2 hT hal hq2 p6 p7 p8 p9 p10 r6 r7 r8 r9 r10 r11 a5 b5 b7 h5' hbv
        clear HFE HZ HZC H6 H7 H8 H9 H10 H11 HL1 HL2 E6 E7 E8 E9 E10 W7 P8 P9 P10 W5
        subst y0 y1 y2 y3 y4
        go_wp2_with fail
        clear c0 c2 k0 k1 k2 k3 k4 HT
        go_loopw [12, 13] (fun t i wr => DThereR w kb (.slice A b.length cap) b ⟨q5 + cnt b p 4, 0, 0, wide⟩ ka oa bc1 p (fun W => (Tabs W ∧ CapsV W (.slice B1 L1.length m1) L1) ∧ CapsV W (.slice B2 L2.length m2) L2) is (cnt b p 2) t i wr) (fun _ i _ => cnt b p 2 - (RowKit.intOf i).toNat)
        case atStart => exact HI.out
        case round =>
          obtain ⟨k2', rfl, hk, rfl, hdt⟩ := hrel
          have HT := Lib.hid hdt
          obtain ⟨k0, k1, k2, k3, k4⟩ := CL.out _ _ _ hdt
          have HPL : Hid (presentP (is.take k2') ≤ 256) := Lib.hid (by have := presentP_le (is.take k2'); rw [List.length_take] at this; have := HLI.out.1; have := HQ.out; omega)
          obtain ⟨pc, hpc⟩ : ∃ n, presentP (is.take k2') = n := ⟨_, rfl⟩
          rw [hpc] at HPL ⊢
          have HPC := Lib.hid hpc
          have i7 : (pc : Int) ≤ 256 := by have := HPL.out; omega
          by_cases hlt : k2' < cnt b p 2
          · have hz := shorts_at b q3 (cnt b p 2) k2' hlt
            rw [HIS.out.1] at hz
            have CP := Lib.hid (dpeek_at wr kb _ b _ ((q3 : Int) + 2 * (k2' : Int)) (q3 + 2 * k2') (by push_cast; rfl) hdt.st.rd (by have := HQ.out; omega))
            generalize shortAt b (q3 + 2 * k2') = z at *
            have HZ := Lib.hid hz
            have HLK := Lib.hid hlt
            have i8 : (0 : Int) ≤ (k2' : Int) := by omega
            have i9 : (k2' : Int) < ((cnt b p 2 : Nat) : Int) := by omega
            clear hdt hk hpc hz hlt
            by_cases h0 : 0 ≤ z
            · have HX0 : Hid ((pc : Int) + 1 = (presentP (is.take k2') : Nat) + (if 0 ≤ z then 1 else 0)) := Lib.hid (by rw [HPC.out, if_pos h0])
              go_wp2_with (go_at_call 81; refine (CP.out).mono ?_; rintro e w4 ⟨rfl, N, rfl⟩)
              go_roundw
              case rel => exact DThereR.next HLK.out HZ.out HX0.out (HT.out.below (drewN_below wr N))
              case measure => have := HLK.out; simp [RowKit.intOf]; omega
            · have HX0 : Hid ((pc : Int) = (presentP (is.take k2') : Nat) + (if 0 ≤ z then 1 else 0)) := Lib.hid (by rw [HPC.out, if_neg h0]; simp)
              have h0' : (0 ≤ z) = False := by simp; omega
              clear h0
              go_wp2_with (go_at_call 81; refine (CP.out).mono ?_; rintro e w4 ⟨rfl, N, rfl⟩)
              go_roundw
              case rel => exact DThereR.next HLK.out HZ.out HX0.out (HT.out.below (drewN_below wr N))
              case measure => have := HLK.out; simp [RowKit.intOf]; omega
          · have hkn : k2' = cnt b p 2 := by omega
            have i9 : ((k2' : Int) < ((cnt b p 2 : Nat) : Int)) = False := by simp; omega
            have HPI : Hid (presentP is = pc) := Lib.hid (by rw [← HPC.out, hkn, List.take_of_length_le (by rw [HLI.out.1]; exact Nat.le_refl _)])
            clear hk hpc hlt hkn
            by_cases hcn : cnt b p 3 = pc + al
            · have hcb : (((cnt b p 3 : Nat) : Int) != (pc : Int) + (((cnt b p 0 : Nat) : Int) + ((cnt b p 1 : Nat) : Int) + ((cnt b p 2 : Nat) : Int))) = false := by have := HSUM.out; simp; omega
              have HNC : Hid (¬ cnt b p 3 ≠ presentP is + al) := Lib.hid (by rw [HPI.out]; omega)
              clear hcn hdt
              have hsl : ∀ W, (Instr.slice 22 (.slice A b.length cap) (some (.int .i64 q5)) (some (.int .i64 ((q5 : Int) + ((cnt b p 4 : Nat) : Int)))) none).run Tryz.prog W = .ok (.slice (tailA A cap q5 1) (cnt b p 4) (cap - q5)) W := fun W => by
                have := slice_both (P := Tryz.prog) 22 5 Tryz.underlying22 1 size_u8 A b.length cap q5 (q5 + cnt b p 4) (by omega) (by have := HBC.out; have := HQ.out; omega) W
                rw [show q5 + cnt b p 4 - q5 = cnt b p 4 by omega] at this
                exact_mod_cast this
              have hcv : ∀ N, (convert 22 9 (.slice (tailA A cap q5 1) (cnt b p 4) (cap - q5))).run Tryz.prog (wr.drewN N) = .ok (str tab) (wr.drewN N) := fun N => by
                have := ((HT.out.st.rd.val.below (drewN_below wr N)).part (p := q5) (m := cnt b p 4) (by have := HQ.out; omega)).text
                rw [HIS.out.2.2] at this
                exact this
              have CT : Hid (∀ W, DrAt W kb (.slice A b.length cap) b ⟨q5 + cnt b p 4, 0, 0, wide⟩ → Calls Tryz.prog 79 #[.pointer (some ⟨kb, 0, none⟩), str tab, .int .i64 q3, .int .i64 (cnt b p 2 : Nat)] W (DTakenPost W kb (.slice A b.length cap) b ⟨q5 + cnt b p 4, 0, 0, wide⟩ q3 tab is)) := Lib.hid (fun W hW => by have := dtaken_any W kb _ b _ tab q3 (cnt b p 2) hW rfl (by rw [HLI.out.2.2]; have := HQ.out; omega) (by have := HQ.out; omega) (by have := HQ.out; omega); rwa [HIS.out.1] at this)
              obtain ⟨c0, -, -, -, -, -, -, -, -, -⟩ := HT.out.st.rd.cells
              go_wp2
              go_quiet (fail)
              have hx := HT.out.below (drewN_below wr nq)
              clear HT k0 k1 k2 k3 k4 c0 hcv hsl
              generalize wr.drewN nq = w11 at *
              have HT := Lib.hid hx
              obtain ⟨k0, k1, k2, k3, k4⟩ := CL.out _ _ _ hx
              clear hx
              cases hfb : firstBad (cnt b p 2) (textBad tab is) with
              | some i =>
                have HRE := Lib.hid (HE5.out i HNC.out hfb)
                have CT2 : Hid (Calls Tryz.prog 79 #[.pointer (some ⟨kb, 0, none⟩), str tab, .int .i64 q3, .int .i64 (cnt b p 2 : Nat)] w11 fun e w' => (∃ A m c z, e = .returned (.tuple #[.slice A m c, .int .i64 z])) ∧ DStep w11 kb (.slice A b.length cap) b ⟨q5 + cnt b p 4, 33, q3 + 2 * i, wide⟩ w') := Lib.hid ((CT.out _ HT.out.st.rd).mono fun e w' h => by unfold DTakenPost at h; rw [HLI.out.1, hfb] at h; exact h)
                clear hfb
                go_wp2_with (first
                  | (go_at_call 79; refine (CT2.out).mono ?_; rintro e w12 ⟨⟨A5, m5, c5, z5, rfl⟩, hs⟩
                     have hx := HT.out.next rfl hs
                     have hbn : Below w12.heap.size w12 (w12.alloc (.cells #[.slice B1 L1.length m1, .slice B2 L2.length m2, .slice A5 m5 c5] 23)) := (Below.refl _ _).alloc (Nat.le_refl _) _
                     have hx2 := hx.below hbn
                     have hbox := World.alloc_heap_new w12 (.cells #[.slice B1 L1.length m1, .slice B2 L2.length m2, .slice A5 m5 c5] 23)
                     have HBOX := Lib.hid (And.intro hbox hx.st.rd.lt)
                     have HX2 := Lib.hid hx2
                     clear HT hs k0 k1 k2 k3 k4 hx hx2 hbn hbox))
                generalize w12.alloc (.cells #[.slice B1 L1.length m1, .slice B2 L2.length m2, .slice A5 m5 c5] 23) = w0 at *
                have HSTP : Hid (Stopped wide b p ⟨q5 + cnt b p 4, 33, q3 + 2 * i, wide⟩) := Lib.hid ⟨_, _, HRE.out, rfl, rfl, by decide⟩
                go_loopw [17, 19] (fun u i wr => ∃ k : Nat, i = .int .i64 k ∧ k ≤ 3 ∧ DGiveB w0 kb (.slice A b.length cap) b p wide u wr) (fun _ i _ => 3 - (RowKit.intOf i).toNat)
                case atStart => exact ⟨0, rfl, by omega, ⟨none, 0, 0, rfl⟩, _, HSTP.out, HX2.out.st.rd.step⟩
                case round =>
                  obtain ⟨kd, rfl, hkd, ⟨A6, m6, c6, rfl⟩, s', hstop, hst⟩ := hrel
                  have HST := Lib.hid (And.intro hstop hst)
                  have i12 : (0 : Int) ≤ (kd : Int) := by omega
                  by_cases hk3 : kd < 3
                  · have i13 : (kd : Int) < 3 := by omega
                    obtain ⟨Ak, mk, ck, hck⟩ : ∃ Ak mk ck, (#[.slice B1 L1.length m1, .slice B2 L2.length m2, .slice A5 m5 c5] : Array Value)[kd]? = some (.slice Ak mk ck) := by
                      match kd, hk3 with
                      | 0, _ => exact ⟨_, _, _, rfl⟩
                      | 1, _ => exact ⟨_, _, _, rfl⟩
                      | 2, _ => exact ⟨_, _, _, rfl⟩
                    have hcl := (cell_of_row wr w12.heap.size kd _ _ _ ((hst.ht.block _ (Array.getElem?_eq_some_iff.1 HBOX.out.1).1 (by have := HBOX.out.2; omega)).trans HBOX.out.1)).trans hck
                    obtain ⟨-, -, c2, -, -, -, -, -, -, -⟩ := hst.rd.cells
                    have he0 : (s'.e == 0) = false := by obtain ⟨_, _, _, h1, _, h2⟩ := hstop; rw [h1]; simpa using h2
                    have HK3 := Lib.hid hk3
                    clear hstop hst hkd hk3 hck
                    obtain ⟨e', he'⟩ : ∃ e', s'.e = e' := ⟨_, rfl⟩
                    rw [he'] at c2 he0
                    clear he'
                    go_wp2_with fail
                    go_loopw [17, 20] (fun u i W => u = .slice A6 m6 c6 ∧ i = .int .i64 0 ∧ W = wr) (fun _ _ _ => 0)
                    case atStart => exact ⟨rfl, rfl, rfl⟩
                    case round =>
                      obtain ⟨rfl, rfl, hww⟩ := hrel
                      subst hww
                      by_cases hm0 : 0 < mk
                      · have i14 : (0 : Int) < (mk : Int) := by omega
                        clear hm0
                        go_wp2_with fail
                        exact ⟨⟨kd + 1, by go_num, HK3.out, ⟨A6, m6, c6, rfl⟩, s', HST.out.1, HST.out.2⟩, by have := HK3.out; simp [RowKit.intOf]; omega⟩
                      · have i14 : (0 < mk) = False := by simp; omega
                        clear hm0
                        go_wp2_with fail
                        exact ⟨⟨kd + 1, by go_num, HK3.out, ⟨A6, m6, c6, rfl⟩, s', HST.out.1, HST.out.2⟩, by have := HK3.out; simp [RowKit.intOf]; omega⟩
                  · have i13 : ¬ (kd : Int) < 3 := by omega
                    clear hk3 hkd hstop hst
                    go_wp2_with fail
                    go_ret
                    obtain ⟨⟨q, er, h1, h2, h3, h4⟩, hst⟩ := HST.out
                    exact DSecondPost.bad h1 h2 h3 h4 (HX2.out.st.trans hst)
              | none =>
                obtain ⟨TX, hTX⟩ : ∃ l, textsOf tab is = l := ⟨_, rfl⟩
                have hle := endOf_le (tab := tab) is (-1) 0 (is_bad HLI.out.1 hfb) (by omega) (by omega) (by omega)
                rw [hTX] at hle
                obtain ⟨en, hen⟩ : ∃ n : Nat, (endOf is TX (-1, 0)).2 = n := ⟨(endOf is TX (-1, 0)).2.toNat, by omega⟩
                rw [hen] at hle
                obtain ⟨tab2, htab2⟩ : ∃ l, tab.drop en = l := ⟨_, rfl⟩
                have HTXL : Hid (TX.length = cnt b p 2) := Lib.hid (by rw [← hTX]; unfold textsOf; rw [List.length_map, HLI.out.1])
                have hE6 := fun i => HE6.out i HNC.out hfb
                have hE7 := HE7.out HNC.out hfb
                simp only [hTX, hen, Int.toNat_natCast, htab2] at hE6 hE7
                obtain ⟨all, hall⟩ : ∃ l, extsAll (ps.map (nameOf tab2)) L1 L2 TX = l := ⟨_, rfl⟩
                have hnm0 : (ps.map (nameOf tab2)).length = L1.length + L2.length + TX.length := by rw [List.length_map, HLI.out.2.1, HLL.out.1, HLL.out.2, HTXL.out]; exact HQ.out.2.2.1.symm
                rw [← extsAll_eq (by rw [hnm0]; exact Nat.le_refl _), hall] at hE7
                have HE6b := Lib.hid hE6
                have HE7b := Lib.hid hE7
                have HAL : Hid (all.length = al ∧ offK L1 L2 TX 3 = al) := Lib.hid (by
                  have h1 : L1.length + L2.length + TX.length = al := by rw [← hnm0, List.length_map]; exact HLI.out.2.1
                  exact ⟨by rw [← hall, extsAll_length (by rw [hnm0]; exact Nat.le_refl _)]; exact h1, h1⟩)
                have HOFF := Lib.hid (fun k (hk : k < 3) => offK_next L1 L2 TX hk)
                have HAT : Hid (∀ k i c nm, k < 3 → (listK L1 L2 TX k)[i]? = some c → (ps.map (nameOf tab2))[offK L1 L2 TX k + i]? = some nm → all[offK L1 L2 TX k + i]? = some ⟨(k : Int), nm, c⟩) := Lib.hid fun k i c nm hk hc hnm => hall ▸ extsAll_at hnm (kinded_at hk hc)
                have HNM : Hid (∀ m, (all.take m).map (·.name) = (ps.map (nameOf tab2)).take m) := Lib.hid (fun m => hall ▸ extsAll_names m hnm0)
                have HOE : Hid (∀ k, k < 3 → offK L1 L2 TX k + (listK L1 L2 TX k).length ≤ al) := Lib.hid fun k hk => by
                  rw [← offK_next L1 L2 TX hk, ← HAL.out.2]
                  match k, hk with
                  | 0, _ => simp [offK]; omega
                  | 1, _ => simp [offK]
                  | 2, _ => simp [offK]
                have hdr := drop_str tab en
                rw [htab2] at hdr
                have HEN : Hid (en ≤ tab.length ∧ tab2.length ≤ 4000000) := Lib.hid ⟨by omega, by rw [← htab2, List.length_drop, HLI.out.2.2]; have := HQ.out; omega⟩
                have i15 : (en : Int) ≤ (tab.length : Int) := by omega
                have i16 : min (en : Int) (tab.length : Int) = (en : Int) := by omega
                have CT2 : Hid (Calls Tryz.prog 79 #[.pointer (some ⟨kb, 0, none⟩), str tab, .int .i64 q3, .int .i64 (cnt b p 2 : Nat)] w11 fun e w' => (∃ A c, e = .returned (.tuple #[.slice A TX.length c, .int .i64 en]) ∧ CapRow w' (.slice A TX.length c) TX ∧ ∀ k, (Value.slice A TX.length c).ownBlock = some k → w11.heap.size ≤ k) ∧ DStep w11 kb (.slice A b.length cap) b ⟨q5 + cnt b p 4, 0, 0, wide⟩ w') := Lib.hid ((CT.out _ HT.out.st.rd).mono fun e w' h => by
                  unfold DTakenPost at h
                  rw [HLI.out.1, hfb, hTX, hen] at h
                  obtain ⟨u, rfl, hr, ho, hs⟩ := h
                  obtain ⟨A5, c5, rfl⟩ := hr.form
                  exact ⟨⟨A5, c5, rfl, hr, ho⟩, hs⟩)
                clear hfb hTX hle hen htab2 hE6 hE7 hall hnm0
                go_wp2_with (first
                  | (go_at_call 79; refine (CT2.out).mono ?_; rintro e w12 ⟨⟨A5, c5, rfl, hr, ho⟩, hs⟩
                     have hx := (HT.out.next rfl hs).add (Rob.of_row (T := (fun k => k = kb)) hr (fun k hk hx => by have := ho k hk; have := HT.out.st.rd.lt; omega) (by have := HTXL.out; have := HQ.out; omega))
                     have hbn : Below w12.heap.size w12 (w12.alloc (.cells #[.slice B1 L1.length m1, .slice B2 L2.length m2, .slice A5 TX.length c5] 23)) := (Below.refl _ _).alloc (Nat.le_refl _) _
                     have hx2 := hx.below hbn
                     have hbox := World.alloc_heap_new w12 (.cells #[.slice B1 L1.length m1, .slice B2 L2.length m2, .slice A5 TX.length c5] 23)
                     have HBOX := Lib.hid (And.intro hbox hx.st.rd.lt)
                     have HX2 := Lib.hid hx2
                     clear HT hs k0 k1 k2 k3 k4 hx hx2 hbn hbox hr ho))
                generalize w12.alloc (.cells #[.slice B1 L1.length m1, .slice B2 L2.length m2, .slice A5 TX.length c5] 23) = w0 at *
                have HU : Hid (∀ k, k < 3 → ∀ W, Touch (fun k => k = kb) w0 W → W.cell? ⟨w12.heap.size, k, none⟩ = some (kinds3 (.slice B1 L1.length m1) (.slice B2 L2.length m2) (.slice A5 TX.length c5) k) ∧ CapsV W (kinds3 (.slice B1 L1.length m1) (.slice B2 L2.length m2) (.slice A5 TX.length c5) k) (listK L1 L2 TX k)) := Lib.hid (fun k hk W hW => by
                  have hb := HX2.out.bag W hW
                  have hcl := cell_of_row W w12.heap.size k _ _ _ ((hW.block _ (Array.getElem?_eq_some_iff.1 HBOX.out.1).1 (by have := HBOX.out.2; omega)).trans HBOX.out.1)
                  match k, hk with
                  | 0, _ => exact ⟨hcl, hb.1.1.2⟩
                  | 1, _ => exact ⟨hcl, hb.1.2⟩
                  | 2, _ => exact ⟨hcl, hb.2⟩)
                have CN : Hid (∀ W (A' : Option Addr) (m' c' : Nat) (t : List UInt8), ExtRow W (.slice A' m' c') (all.take m') → Touch (fun k => k = kb) w0 W → m' ≤ al → Calls Tryz.prog 83 #[.slice A' m' c', str t] W fun e w' => e = .returned (.bool (addP ((ps.take m').map (nameOf tab2)) t)) ∧ Below W.heap.size W w') := Lib.hid (fun W A' m' c' t hr hW hm => by
                  have := named_any W _ (all.take m') (ExtRow.reads hr (by rw [List.length_take]; have := HQ.out; omega)) (HX2.out.bag W hW).1.1.1 t
                  rwa [HNM.out, ← List.map_take] at this)
                go_loopw [17, 19] (fun u i wr => DOuterR w0 kb (.slice A b.length cap) b ⟨q5 + cnt b p 4, 0, 0, wide⟩ p wide tab2 ps all L1 L2 TX u i wr) (fun _ i _ => 3 - (RowKit.intOf i).toNat)
                case atStart => exact ⟨0, rfl, by omega, .inl ⟨fun j hj => by simp [offK] at hj, World.ownsRow_nil _ _ _ _, (fun j hj => by cases hj), HX2.out.st.rd.step⟩⟩
                case round =>
                  obtain ⟨kd, rfl, hkd, hor⟩ := hrel
                  have HOR := Lib.hid hor
                  have i12 : (0 : Int) ≤ (kd : Int) := by omega
                  by_cases hk3 : kd < 3
                  · have i13 : (kd : Int) < 3 := by omega
                    obtain ⟨Ak, ck, hform, hsm⟩ := (HU.out kd hk3 w0 (Touch.refl _ _)).2.form
                    have HCELL := Lib.hid (HU.out kd hk3)
                    rw [hform] at HCELL
                    have HK3 := Lib.hid hk3
                    have HO := Lib.hid (And.intro (HOFF.out kd hk3) (And.intro (HOE.out kd hk3) (fun i c nm => HAT.out kd i c nm hk3)))
                    have HI2 := Lib.hid (show DGiveR w0 kb (.slice A b.length cap) b ⟨q5 + cnt b p 4, 0, 0, wide⟩ p wide tab2 ps all (offK L1 L2 TX kd) (listK L1 L2 TX kd).length u17 (.int .i64 0) wr from ⟨0, rfl, Nat.zero_le _, hor⟩)
                    clear hor hkd hk3 hform hsm
                    generalize offK L1 L2 TX kd = of at *
                    generalize listK L1 L2 TX kd = L at *
                    obtain ⟨len, hlen⟩ : ∃ len, L.length = len := ⟨_, rfl⟩
                    rw [hlen] at HCELL HI2 HO
                    have HLEN := Lib.hid hlen
                    have i23 : (len : Int) ≤ 256 := by have := HO.out.2.1; omega
                    clear hlen HOR
                    go_wp2_with fail
                    go_loopw [17, 20] (fun u i W => DGiveR w0 kb (.slice A b.length cap) b ⟨q5 + cnt b p 4, 0, 0, wide⟩ p wide tab2 ps all of len u i W) (fun _ i _ => len - (RowKit.intOf i).toNat)
                    case atStart => exact HI2.out
                    case round =>
                      obtain ⟨k, rfl, hk, hor⟩ := hrel
                      have i17 : (0 : Int) ≤ (k : Int) := by omega
                      rcases hor with ⟨hg, hrow, hown, hst⟩ | ⟨⟨A6, m6, c6, rfl⟩, s', hstop, hst⟩
                      · have hlc := (HCELL.out _ hst.ht).1
                        have hcv := (HCELL.out _ hst.ht).2
                        obtain ⟨B0, bc0, hf0⟩ := hrow.form
                        rw [show (all.take (of + k)).length = of + k by rw [List.length_take, HAL.out.1]; have := HO.out.2.1; omega] at hf0
                        subst hf0
                        obtain ⟨c0, -, c2, -, -, -, -, -, -, -⟩ := hst.rd.cells
                        by_cases hlt : k < len
                        · obtain ⟨c, hc2⟩ : ∃ c, L[k]? = some c := ⟨_, List.getElem?_eq_getElem (by rw [HLEN.out]; exact hlt)⟩
                          have hmal : of + k < al := by have := HO.out.2.1; omega
                          have HXA0 := Lib.hid (fun nm => HO.out.2.2 k c nm hc2)
                          obtain ⟨ka2, oa2, rfl, hka, g0, g1, g2⟩ := hcv.cells hc2
                          have CELLS : Hid (∀ W, Touch (fun k => k = kb) w0 W → W.cell? ⟨w12.heap.size, kd, none⟩ = some (.slice (some ⟨ka2, oa2, none⟩) len ck) ∧ W.cell? ⟨ka2, oa2 + k * 3, none⟩ = some (.int .i64 c.st) ∧ W.cell? ⟨ka2, oa2 + k * 3 + 1, none⟩ = some (.int .i64 c.num) ∧ W.cell? ⟨ka2, oa2 + k * 3 + 2, none⟩ = some (str c.text)) := Lib.hid (fun W hW => by
                            obtain ⟨h1, h2⟩ := HCELL.out W hW
                            obtain ⟨_, _, e, _, y0, y1, y2⟩ := h2.cells hc2
                            injection e with e
                            injection e with e1 e2
                            subst e1 e2
                            exact ⟨h1, y0, y1, y2⟩)
                          generalize hm : of + k = m at *
                          have HMM := Lib.hid hm
                          have hz := shorts_at b q4 al m hmal
                          rw [HIS.out.2.1] at hz
                          have hgd : ps.getD m 0 = shortAt b (q4 + 2 * m) := by rw [List.getD_eq_getElem?_getD, hz]; rfl
                          have CP := Lib.hid (dpeek_at wr kb _ b _ ((q4 : Int) + 2 * (m : Int)) (q4 + 2 * m) (by push_cast; rfl) hst.rd (by have := HQ.out; omega))
                          have hzb := short_bd b (q4 + 2 * m)
                          generalize shortAt b (q4 + 2 * m) = z at *
                          have HZ := Lib.hid (And.intro hz hgd)
                          have HMAL := Lib.hid hmal
                          have HG := Lib.hid hg
                          have HS := Lib.hid hst
                          have HR := Lib.hid hrow
                          have HOWN := Lib.hid hown
                          have HLK2 := Lib.hid hlt
                          have CF : Hid (∀ W, DrAt W kb (.slice A b.length cap) b ⟨q5 + cnt b p 4, 0, 0, wide⟩ → Calls Tryz.prog 28 #[.pointer (some ⟨kb, 0, none⟩), .int .i64 33, .int .i64 ((q4 : Int) + 2 * (m : Int))] W fun e w' => e = .returned (.tuple #[]) ∧ DStep W kb (.slice A b.length cap) b ⟨q5 + cnt b p 4, 33, q4 + 2 * m, wide⟩ w') := Lib.hid (fun W hW => by have := dfail_any W kb _ b _ 33 (q4 + 2 * m) hW; rw [failS_ok rfl] at this; rwa [show ((q4 + 2 * m : Nat) : Int) = (q4 : Int) + 2 * (m : Int) by push_cast; rfl] at this)
                          have i18 : (k : Int) < (len : Int) := by omega
                          have i19 : (0 : Int) ≤ (m : Int) := by omega
                          have i20 : (m : Int) < (al : Int) := by omega
                          obtain ⟨i21, i22⟩ := hzb
                          clear hrow hown hst hg hlt hk hm hmal hc2 hz hgd hcv hka
                          by_cases h0 : 0 ≤ z
                          · obtain ⟨zn, rfl⟩ : ∃ n : Nat, z = n := ⟨z.toNat, by omega⟩
                            have CT3 := Lib.hid (fun W => dtext_any W tab2 zn HEN.out.2)
                            cases ht : textP tab2 (zn : Int) with
                            | none =>
                              have HRB := Lib.hid (HE6b.out m (firstBad_some HMAL.out (by unfold nameBad; rw [HZ.out.2, ht]; rfl) HG.out))
                              have CT : Hid (∀ W, Calls Tryz.prog 82 #[str tab2, .int .i64 zn] W fun e w' => e = .returned (.tuple #[str [], .bool false]) ∧ Below W.heap.size W w') := Lib.hid (by rw [ht] at CT3; exact CT3.out)
                              clear h0 ht CT3
                              go_wp2_with (first
                                | (go_at_call 81; refine (CP.out).mono ?_; rintro e w4 ⟨rfl, N, rfl⟩
                                   have hb4 := drewN_below wr N
                                   have HS4 := Lib.hid (HS.out.next hb4)
                                   have HR4 := Lib.hid (own_same HR.out fun j hj => hb4.block j (own_lt HR.out j hj).2)
                                   clear c0 c2 hlc g0 g1 g2 hb4
                                   generalize wr.drewN N = w4 at *
                                   obtain ⟨c0, -, c2, -, -, -, -, -, -, -⟩ := HS4.out.rd.cells
                                   obtain ⟨hlc, g0, g1, g2⟩ := CELLS.out _ HS4.out.ht)
                                | (go_at_call 82; refine (CT.out _).mono ?_; rintro e w5 ⟨rfl, hb5⟩
                                   have HS5 := Lib.hid (HS4.out.next hb5)
                                   have HR5 := Lib.hid (own_same HR4.out fun j hj => hb5.block j (own_lt HR4.out j hj).2)
                                   clear c0 c2 hlc g0 g1 g2 hb5
                                   obtain ⟨c0, -, c2, -, -, -, -, -, -, -⟩ := HS5.out.rd.cells
                                   obtain ⟨hlc, g0, g1, g2⟩ := CELLS.out _ HS5.out.ht)
                                | (go_at_call 28; refine (CF.out _ HS5.out.rd).mono ?_; rintro e w7 ⟨rfl, hs7⟩
                                   have HS7 := Lib.hid (HS5.out.trans hs7)
                                   have HR7 := Lib.hid (own_same HR5.out fun j hj => hs7.ht.block j (own_lt HR5.out j hj).2 (by have := HOWN.out j hj; have := HX2.out.st.rd.lt; omega))
                                   clear c0 c2 hlc g0 g1 g2 hs7
                                   obtain ⟨c0, -, c2, -, -, -, -, -, -, -⟩ := HS7.out.rd.cells
                                   obtain ⟨hlc, g0, g1, g2⟩ := CELLS.out _ HS7.out.ht)
                                | (at_builtin
                                   have hx8 := World.alloc_heap_new w7 (.cells #[.int .i64 kd, str [], .int .i64 c.st, .int .i64 c.num, str c.text] 48)
                                   have hb8 : Below w7.heap.size w7 (w7.alloc (.cells #[.int .i64 kd, str [], .int .i64 c.st, .int .i64 c.num, str c.text] 48)) := (Below.refl _ _).alloc (Nat.le_refl _) _
                                   have HX8 := Lib.hid (fun j => cell_of_row _ _ j _ _ _ hx8)
                                   have HR8 := Lib.hid (own_same HR7.out fun j hj => hb8.block j (own_lt HR7.out j hj).2)
                                   have HS8 := Lib.hid (HS7.out.next hb8)
                                   clear hx8 hb8
                                   refine wpList_append_ext (by rfl) (.tmp 216) (.tmp 227) (by rfl) (.slice B0 m bc0) (all.take m) (by rfl) HR8.out ⟨(kd : Int), [], c⟩ (by rfl) (HX8.out 0) (HX8.out 1) (HX8.out 2) (HX8.out 3) (HX8.out 4) (by rw [List.length_take]; have := HMAL.out; have := HQ.out; omega) ?_; intro v' w' hr' hg' hv'; have G1 := Lib.hid hr'; have G2 := Lib.hid hg'; have G3 := Lib.hid hv'; clear hr' hg' hv'))
                              go_roundw
                              case rel => exact DGiveR.bad HX2.out.st.rd HLK2.out ⟨_, _, HRB.out, rfl, rfl, by decide⟩ HOWN.out HS8.out G1.out G2.out
                              case measure => have := HLK2.out; simp [RowKit.intOf]; omega
                            | some t =>
                              have hnm : nameOf tab2 (zn : Int) = t := by unfold nameOf; rw [ht]; rfl
                              have CT : Hid (∀ W, Calls Tryz.prog 82 #[str tab2, .int .i64 zn] W fun e w' => e = .returned (.tuple #[str t, .bool true]) ∧ Below W.heap.size W w') := Lib.hid (by rw [ht] at CT3; exact CT3.out)
                              have HNB0 : Hid (nameBad tab2 ps m = !addP ((ps.take m).map (nameOf tab2)) t) := Lib.hid (by unfold nameBad; rw [HZ.out.2, ht, hnm]; rfl)
                              have HXA : Hid (all[m]? = some ⟨(kd : Int), t, c⟩) := Lib.hid (HXA0.out t (by rw [List.getElem?_map, HZ.out.1]; exact congrArg some hnm))
                              have CN0 := Lib.hid (fun W hr hW => CN.out W B0 m bc0 t hr hW (Nat.le_of_lt HMAL.out))
                              clear h0 ht CT3 hnm
                              cases ha : addP ((ps.take m).map (nameOf tab2)) t with
                              | false =>
                                have HRB := Lib.hid (HE6b.out m (firstBad_some HMAL.out (by rw [HNB0.out, ha]; rfl) HG.out))
                                rw [ha] at CN0
                                clear CN ha
                                have CN := CN0
                                clear CN0
                                go_wp2_with (first
                                  | (go_at_call 81; refine (CP.out).mono ?_; rintro e w4 ⟨rfl, N, rfl⟩
                                     have hb4 := drewN_below wr N
                                     have HS4 := Lib.hid (HS.out.next hb4)
                                     have HR4 := Lib.hid (own_same HR.out fun j hj => hb4.block j (own_lt HR.out j hj).2)
                                     clear c0 c2 hlc g0 g1 g2 hb4
                                     generalize wr.drewN N = w4 at *
                                     obtain ⟨c0, -, c2, -, -, -, -, -, -, -⟩ := HS4.out.rd.cells
                                     obtain ⟨hlc, g0, g1, g2⟩ := CELLS.out _ HS4.out.ht)
                                  | (go_at_call 82; refine (CT.out _).mono ?_; rintro e w5 ⟨rfl, hb5⟩
                                     have HS5 := Lib.hid (HS4.out.next hb5)
                                     have HR5 := Lib.hid (own_same HR4.out fun j hj => hb5.block j (own_lt HR4.out j hj).2)
                                     clear c0 c2 hlc g0 g1 g2 hb5
                                     obtain ⟨c0, -, c2, -, -, -, -, -, -, -⟩ := HS5.out.rd.cells
                                     obtain ⟨hlc, g0, g1, g2⟩ := CELLS.out _ HS5.out.ht)
                                  | (go_at_call 83; refine (CN.out _ HR5.out HS5.out.ht).mono ?_; rintro e w6 ⟨rfl, hb6⟩
                                     have HS6 := Lib.hid (HS5.out.next hb6)
                                     have HR6 := Lib.hid (own_same HR5.out fun j hj => hb6.block j (own_lt HR5.out j hj).2)
                                     clear c0 c2 hlc g0 g1 g2 hb6
                                     obtain ⟨c0, -, c2, -, -, -, -, -, -, -⟩ := HS6.out.rd.cells
                                     obtain ⟨hlc, g0, g1, g2⟩ := CELLS.out _ HS6.out.ht)
                                  | (go_at_call 28; refine (CF.out _ HS6.out.rd).mono ?_; rintro e w7 ⟨rfl, hs7⟩
                                     have HS7 := Lib.hid (HS6.out.trans hs7)
                                     have HR7 := Lib.hid (own_same HR6.out fun j hj => hs7.ht.block j (own_lt HR6.out j hj).2 (by have := HOWN.out j hj; have := HX2.out.st.rd.lt; omega))
                                     clear c0 c2 hlc g0 g1 g2 hs7
                                     obtain ⟨c0, -, c2, -, -, -, -, -, -, -⟩ := HS7.out.rd.cells
                                     obtain ⟨hlc, g0, g1, g2⟩ := CELLS.out _ HS7.out.ht)
                                  | (at_builtin
                                     have hx8 := World.alloc_heap_new w7 (.cells #[.int .i64 kd, str t, .int .i64 c.st, .int .i64 c.num, str c.text] 48)
                                     have hb8 : Below w7.heap.size w7 (w7.alloc (.cells #[.int .i64 kd, str t, .int .i64 c.st, .int .i64 c.num, str c.text] 48)) := (Below.refl _ _).alloc (Nat.le_refl _) _
                                     have HX8 := Lib.hid (fun j => cell_of_row _ _ j _ _ _ hx8)
                                     have HR8 := Lib.hid (own_same HR7.out fun j hj => hb8.block j (own_lt HR7.out j hj).2)
                                     have HS8 := Lib.hid (HS7.out.next hb8)
                                     clear hx8 hb8
                                     refine wpList_append_ext (by rfl) (.tmp 216) (.tmp 227) (by rfl) (.slice B0 m bc0) (all.take m) (by rfl) HR8.out ⟨(kd : Int), t, c⟩ (by rfl) (HX8.out 0) (HX8.out 1) (HX8.out 2) (HX8.out 3) (HX8.out 4) (by rw [List.length_take]; have := HMAL.out; have := HQ.out; omega) ?_; intro v' w' hr' hg' hv'; have G1 := Lib.hid hr'; have G2 := Lib.hid hg'; have G3 := Lib.hid hv'; clear hr' hg' hv'))
                                go_roundw
                                case rel => exact DGiveR.bad HX2.out.st.rd HLK2.out ⟨_, _, HRB.out, rfl, rfl, by decide⟩ HOWN.out HS8.out G1.out G2.out
                                case measure => have := HLK2.out; simp [RowKit.intOf]; omega
                              | true =>
                                have HNB : Hid (nameBad tab2 ps m = false) := Lib.hid (by rw [HNB0.out, ha]; rfl)
                                rw [ha] at CN0
                                clear CN ha
                                have CN := CN0
                                clear CN0
                                go_wp2_with (first
                                  | (go_at_call 81; refine (CP.out).mono ?_; rintro e w4 ⟨rfl, N, rfl⟩
                                     have hb4 := drewN_below wr N
                                     have HS4 := Lib.hid (HS.out.next hb4)
                                     have HR4 := Lib.hid (own_same HR.out fun j hj => hb4.block j (own_lt HR.out j hj).2)
                                     clear c0 c2 hlc g0 g1 g2 hb4
                                     generalize wr.drewN N = w4 at *
                                     obtain ⟨c0, -, c2, -, -, -, -, -, -, -⟩ := HS4.out.rd.cells
                                     obtain ⟨hlc, g0, g1, g2⟩ := CELLS.out _ HS4.out.ht)
                                  | (go_at_call 82; refine (CT.out _).mono ?_; rintro e w5 ⟨rfl, hb5⟩
                                     have HS5 := Lib.hid (HS4.out.next hb5)
                                     have HR5 := Lib.hid (own_same HR4.out fun j hj => hb5.block j (own_lt HR4.out j hj).2)
                                     clear c0 c2 hlc g0 g1 g2 hb5
                                     obtain ⟨c0, -, c2, -, -, -, -, -, -, -⟩ := HS5.out.rd.cells
                                     obtain ⟨hlc, g0, g1, g2⟩ := CELLS.out _ HS5.out.ht)
                                  | (go_at_call 83; refine (CN.out _ HR5.out HS5.out.ht).mono ?_; rintro e w6 ⟨rfl, hb6⟩
                                     have HS6 := Lib.hid (HS5.out.next hb6)
                                     have HR6 := Lib.hid (own_same HR5.out fun j hj => hb6.block j (own_lt HR5.out j hj).2)
                                     clear c0 c2 hlc g0 g1 g2 hb6
                                     obtain ⟨c0, -, c2, -, -, -, -, -, -, -⟩ := HS6.out.rd.cells
                                     obtain ⟨hlc, g0, g1, g2⟩ := CELLS.out _ HS6.out.ht)
                                  | (at_builtin
                                     have hx8 := World.alloc_heap_new w6 (.cells #[.int .i64 kd, str t, .int .i64 c.st, .int .i64 c.num, str c.text] 48)
                                     have hb8 : Below w6.heap.size w6 (w6.alloc (.cells #[.int .i64 kd, str t, .int .i64 c.st, .int .i64 c.num, str c.text] 48)) := (Below.refl _ _).alloc (Nat.le_refl _) _
                                     have HX8 := Lib.hid (fun j => cell_of_row _ _ j _ _ _ hx8)
                                     have HR8 := Lib.hid (own_same HR6.out fun j hj => hb8.block j (own_lt HR6.out j hj).2)
                                     have HS8 := Lib.hid (HS6.out.next hb8)
                                     clear hx8 hb8
                                     refine wpList_append_ext (by rfl) (.tmp 216) (.tmp 227) (by rfl) (.slice B0 m bc0) (all.take m) (by rfl) HR8.out ⟨(kd : Int), t, c⟩ (by rfl) (HX8.out 0) (HX8.out 1) (HX8.out 2) (HX8.out 3) (HX8.out 4) (by rw [List.length_take]; have := HMAL.out; have := HQ.out; omega) ?_; intro v' w' hr' hg' hv'; have G1 := Lib.hid hr'; have G2 := Lib.hid hg'; have G3 := Lib.hid hv'; clear hr' hg' hv'))
                                go_roundw
                                case rel => exact DGiveR.good HX2.out.st.rd HLK2.out (by rw [HMM.out]; exact HXA.out) (by rw [HMM.out]; exact HG.out) (by rw [HMM.out]; exact HNB.out) HOWN.out HS8.out (by rw [HMM.out]; exact G1.out) G2.out G3.out
                                case measure => have := HLK2.out; simp [RowKit.intOf]; omega
                          · have h0' : (0 ≤ z) = False := by simp; omega
                            have HRB := Lib.hid (HE6b.out m (firstBad_some HMAL.out (by unfold nameBad; rw [HZ.out.2]; unfold textP; rw [if_pos (.inl (by omega))]; rfl) HG.out))
                            clear h0
                            go_wp2_with (first
                              | (go_at_call 81; refine (CP.out).mono ?_; rintro e w4 ⟨rfl, N, rfl⟩
                                 have hb4 := drewN_below wr N
                                 have HS4 := Lib.hid (HS.out.next hb4)
                                 have HR4 := Lib.hid (own_same HR.out fun j hj => hb4.block j (own_lt HR.out j hj).2)
                                 clear c0 c2 hlc g0 g1 g2 hb4
                                 generalize wr.drewN N = w4 at *
                                 obtain ⟨c0, -, c2, -, -, -, -, -, -, -⟩ := HS4.out.rd.cells
                                 obtain ⟨hlc, g0, g1, g2⟩ := CELLS.out _ HS4.out.ht)
                              | (go_at_call 28; refine (CF.out _ HS4.out.rd).mono ?_; rintro e w7 ⟨rfl, hs7⟩
                                 have HS7 := Lib.hid (HS4.out.trans hs7)
                                 have HR7 := Lib.hid (own_same HR4.out fun j hj => hs7.ht.block j (own_lt HR4.out j hj).2 (by have := HOWN.out j hj; have := HX2.out.st.rd.lt; omega))
                                 clear c0 c2 hlc g0 g1 g2 hs7
                                 obtain ⟨c0, -, c2, -, -, -, -, -, -, -⟩ := HS7.out.rd.cells
                                 obtain ⟨hlc, g0, g1, g2⟩ := CELLS.out _ HS7.out.ht)
                              | (at_builtin
                                 have hx8 := World.alloc_heap_new w7 (.cells #[.int .i64 kd, str [], .int .i64 c.st, .int .i64 c.num, str c.text] 48)
                                 have hb8 : Below w7.heap.size w7 (w7.alloc (.cells #[.int .i64 kd, str [], .int .i64 c.st, .int .i64 c.num, str c.text] 48)) := (Below.refl _ _).alloc (Nat.le_refl _) _
                                 have HX8 := Lib.hid (fun j => cell_of_row _ _ j _ _ _ hx8)
                                 have HR8 := Lib.hid (own_same HR7.out fun j hj => hb8.block j (own_lt HR7.out j hj).2)
                                 have HS8 := Lib.hid (HS7.out.next hb8)
                                 clear hx8 hb8
                                 refine wpList_append_ext (by rfl) (.tmp 216) (.tmp 227) (by rfl) (.slice B0 m bc0) (all.take m) (by rfl) HR8.out ⟨(kd : Int), [], c⟩ (by rfl) (HX8.out 0) (HX8.out 1) (HX8.out 2) (HX8.out 3) (HX8.out 4) (by rw [List.length_take]; have := HMAL.out; have := HQ.out; omega) ?_; intro v' w' hr' hg' hv'; have G1 := Lib.hid hr'; have G2 := Lib.hid hg'; have G3 := Lib.hid hv'; clear hr' hg' hv'))
                            go_roundw
                            case rel => exact DGiveR.bad HX2.out.st.rd HLK2.out ⟨_, _, HRB.out, rfl, rfl, by decide⟩ HOWN.out HS8.out G1.out G2.out
                            case measure => have := HLK2.out; simp [RowKit.intOf]; omega
                        · have hke : k = len := by omega
                          have i18 : ((k : Int) < (len : Int)) = False := by simp; omega
                          have HR := Lib.hid (And.intro hg (And.intro hrow (And.intro hown hst)))
                          have HKE := Lib.hid hke
                          clear hg hrow hown hst hlt hk hke hcv
                          go_wp2_with fail
                          go_roundw
                          case rel => exact ⟨kd + 1, by go_num, HK3.out, .inl (by rw [HO.out.1, ← HKE.out]; exact HR.out)⟩
                          case measure => have := HK3.out; simp [RowKit.intOf]; omega
                      · have hlc := (HCELL.out _ hst.ht).1
                        obtain ⟨-, -, c2, -, -, -, -, -, -, -⟩ := hst.rd.cells
                        have he0 : (s'.e == 0) = false := by obtain ⟨_, _, _, h1, _, h2⟩ := hstop; rw [h1]; simpa using h2
                        have HST := Lib.hid (And.intro hstop hst)
                        clear hstop hst hk
                        obtain ⟨e', he'⟩ : ∃ e', s'.e = e' := ⟨_, rfl⟩
                        rw [he'] at c2 he0
                        clear he'
                        by_cases hm0 : k < len
                        · have i18 : (k : Int) < (len : Int) := by omega
                          clear hm0
                          go_wp2_with fail
                          go_roundw
                          case rel => exact ⟨kd + 1, by go_num, HK3.out, .inr ⟨⟨A6, m6, c6, rfl⟩, s', HST.out.1, HST.out.2⟩⟩
                          case measure => have := HK3.out; simp [RowKit.intOf]; omega
                        · have i18 : (k < len) = False := by simp; omega
                          clear hm0
                          go_wp2_with fail
                          go_roundw
                          case rel => exact ⟨kd + 1, by go_num, HK3.out, .inr ⟨⟨A6, m6, c6, rfl⟩, s', HST.out.1, HST.out.2⟩⟩
                          case measure => have := HK3.out; simp [RowKit.intOf]; omega
                  · have i13 : ¬ (kd : Int) < 3 := by omega
                    have hke : kd = 3 := by omega
                    rcases hor with ⟨hg, hrow, hown, hst⟩ | ⟨⟨A6, m6, c6, rfl⟩, s', hstop, hst⟩
                    · rw [hke, HAL.out.2] at hg hrow
                      rw [List.take_of_length_le (by rw [HAL.out.1]; exact Nat.le_refl _)] at hrow
                      obtain ⟨B0, bc0, hf0⟩ := hrow.form
                      subst hf0
                      have HR := Lib.hid (And.intro hg (And.intro hrow (And.intro hown hst)))
                      clear hg hrow hown hst hk3 hkd hke HOR
                      go_wp2_with fail
                      go_ret
                      exact DSecondPost.ok (HE7b.out (firstBad_none.2 HR.out.1)) HR.out.2.1 (fun j hj => Nat.le_trans HX2.out.st.ht.size (HR.out.2.2.1 j hj)) (HX2.out.st.trans HR.out.2.2.2)
                    · have HR := Lib.hid (And.intro hstop hst)
                      clear hstop hst hk3 hkd hke HOR
                      go_wp2_with fail
                      go_ret
                      obtain ⟨⟨q, er, h1, h2, h3, h4⟩, hst⟩ := HR.out
                      exact DSecondPost.bad h1 h2 h3 h4 (HX2.out.st.trans hst)
            · have hcb : (((cnt b p 3 : Nat) : Int) != (pc : Int) + (((cnt b p 0 : Nat) : Int) + ((cnt b p 1 : Nat) : Int) + ((cnt b p 2 : Nat) : Int))) = true := by have := HSUM.out; simp; omega
              have HRE := Lib.hid (HE4.out (by rw [HPI.out]; omega))
              have CF : Hid (∀ W, DrAt W kb (.slice A b.length cap) b ⟨q5 + cnt b p 4, 0, 0, wide⟩ → Calls Tryz.prog 28 #[.pointer (some ⟨kb, 0, none⟩), .int .i64 32, .int .i64 ((p : Int) + 6)] W fun e w' => e = .returned (.tuple #[]) ∧ DStep W kb (.slice A b.length cap) b ⟨q5 + cnt b p 4, 32, p + 6, wide⟩ w') := Lib.hid (fun W hW => by have := dfail_any W kb _ b _ 32 (p + 6) hW; rw [failS_ok rfl] at this; rwa [show ((p + 6 : Nat) : Int) = (p : Int) + 6 by push_cast; rfl] at this)
              clear hcn hdt
              go_wp2_with (go_at_call 28; refine (CF.out _ HT.out.st.rd).mono ?_; rintro e w4 ⟨rfl, hs⟩; have HS := Lib.hid (HT.out.st.trans hs); clear hs)
              go_ret
              exact DSecondPost.bad HRE.out rfl rfl (by decide) HS.out
      · have hb : (s11.e != 0) = true := by simpa using he
        obtain ⟨q, er, hr1, hr2, hr3, hr4⟩ := HFE.out _ _ _ _ _ _ H6.out H7.out H8.out H9.out H10.out H11.out he
        have HR := Lib.hid (And.intro hr1 (And.intro hr2 (And.intro hr3 hr4)))
        clear he hr1 hr2 hr3 hr4 hT HFE
        have HRX : Hid (∀ (A' : Option Addr) (m' c' : Nat), DSecondPost w kb (.slice A b.length cap) b p wide (.returned (.slice A' m' c')) w10) := Lib.hid (fun A' m' c' => DSecondPost.bad HR.out.1 HR.out.2.1 HR.out.2.2.1 HR.out.2.2.2 HT.out.st)
        clear HR
        generalize s11.e = e11 at *
        go_wp2
        go_ret
        exact HRX.out _ _ _

theorem dsecond_any (w : World) (kb : Nat) (A : Option Addr) (cap : Nat) (b : List UInt8) (p : Nat) (wide : Bool) (h : DrAt w kb (.slice A b.length cap) b ⟨p, 0, 0, wide⟩) (hT : RobP (fun k => k = kb) w Tabs) :
    Calls Tryz.prog 27 #[.pointer (some ⟨kb, 0, none⟩)] w (DSecondPost w kb (.slice A b.length cap) b p wide) := by
  by_cases hl : b.length < p + 10
  · exact dsecond_short w kb A cap b p wide h hl
  · exact dsecond_long w kb A cap b p wide h hT hl
end Go.Proofs.YtcfgppjhgobboaaGreatDoor
