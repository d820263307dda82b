/-
  The document's reader of package tinfo: the first part of a file that is long enough.
-/
import Derived.Test.YtcfgppjhgobboaaGreatDoorTiDk
import Derived.Deep.Cut
import Derived.Deep.RegionHeld3
namespace Go.Proofs.YtcfgppjhgobboaaGreatDoor
open Go.RowKit Go.Shelf Go.Lib
attribute [local go_sem] Oper.semAt_some

/-- while the counts are judged -/
def DCountR (T : Nat → Prop) (w : World) (kb : Nat) (v : Value) (b : List UInt8) (wide : Bool) (ka oa cap t2 t4 mb : Nat) (i : Value) (W : World) : Prop :=
  ∃ k : Nat, i = .int .i64 k ∧ k ≤ 5 ∧ DT T w W kb v b (countS (countBad b) 2 ⟨12, 0, 0, wide⟩ k) ka oa cap (shortsAt b 2 5) (fun W => W.heap[mb]? = some (.cells #[.int .i64 512, .int .i64 64, .int .i64 64, .int .i64 512, .int .i64 32767] 3 (0, 0))) t2 t4 [] wide (.slice none 0 0) (.slice none 0 0) (.slice none 0 0) (.slice none 0 0)
theorem DCountR.next {T : Nat → Prop} {w W : World} {kb : Nat} {v : Value} {b : List UInt8} {wide : Bool} {ka oa cap t2 t4 mb k : Nat} (hk : k < 5)
    (h : DT T w W kb v b (countS (countBad b) 2 ⟨12, 0, 0, wide⟩ (k + 1)) ka oa cap (shortsAt b 2 5) (fun W => W.heap[mb]? = some (.cells #[.int .i64 512, .int .i64 64, .int .i64 64, .int .i64 512, .int .i64 32767] 3 (0, 0))) t2 t4 [] wide (.slice none 0 0) (.slice none 0 0) (.slice none 0 0) (.slice none 0 0)) : DCountR T w kb v b wide ka oa cap t2 t4 mb (.int .i64 ((k : Int) + 1)) W :=
  ⟨k + 1, by go_num, hk, h⟩
theorem sect1_e0 {len : Nat} {s5 s6 s7 s8 s9 s10 s11 : RS} {z0 z1 z2 z3 z4 sz : Int} (h6 : skipS len s5 z0 = s6) (h7 : skipS len s6 z1 = s7) (h8 : evenS len s7 = s8) (h9 : skipS len s8 (z2 * sz) = s9) (h10 : skipS len s9 (2 * z3) = s10) (h11 : skipS len s10 z4 = s11) (he : s11.e = 0) :
    s5.e = 0 ∧ s6 = { s5 with pos := s5.pos + z0.toNat } ∧ needB len s6 z1 = true ∧ s7 = { s6 with pos := s6.pos + z1.toNat } ∧ s8 = { s7 with pos := evenUp s7.pos } ∧ needB len s8 (z2 * sz) = true ∧ s9 = { s8 with pos := s8.pos + (z2 * sz).toNat } ∧ s10 = { s9 with pos := s9.pos + (2 * z3).toNat } ∧ s11 = { s10 with pos := s10.pos + z4.toNat } := by
  obtain ⟨a10, _, r11⟩ := skipS_e0 (h11 ▸ he)
  obtain ⟨a9, _, r10⟩ := skipS_e0 (h10 ▸ a10)
  obtain ⟨a8, b8, r9⟩ := skipS_e0 (h9 ▸ a9)
  obtain ⟨a7, r8⟩ := evenS_e0 (h8 ▸ a8)
  obtain ⟨a6, b6, r7⟩ := skipS_e0 (h7 ▸ a7)
  obtain ⟨a5, _, r6⟩ := skipS_e0 (h6 ▸ a6)
  exact ⟨a5, h6 ▸ r6, b6, h7 ▸ r7, h8 ▸ r8, b8, h9 ▸ r9, h10 ▸ r10, h11 ▸ r11⟩
theorem first_error {b : List UInt8} {wide : Bool} {s5 s6 s7 s8 s9 s10 s11 : RS} (hl : ¬ b.length < 12) (hm : ¬ (shortAt b 0 ≠ 282 ∧ shortAt b 0 ≠ 542)) (hw : decide (shortAt b 0 = 542) = wide) (h5 : countS (countBad b) 2 ⟨12, 0, 0, wide⟩ 5 = s5)
    (h6 : skipS b.length s5 (shortAt b 2) = s6) (h7 : skipS b.length s6 (shortAt b 4) = s7) (h8 : evenS b.length s7 = s8) (h9 : skipS b.length s8 (shortAt b 6 * (sizeOf wide : Nat)) = s9) (h10 : skipS b.length s9 (2 * shortAt b 8) = s10) (h11 : skipS b.length s10 (shortAt b 10) = s11) (he : s11.e ≠ 0) :
    ∃ q er, readFirst b = .error (q, er) ∧ s11.e = er ∧ s11.bad = q ∧ er ≠ 0 := by
  have hs : s11 = sections1 b.length s5 wide (fun i => shortAt b (2 + 2 * i)) := by subst h6 h7 h8 h9 h10 h11; rfl
  cases hf : firstBad 5 (countBad b) with
  | some i =>
    have h51 := count_e1 (s := ⟨12, 0, 0, wide⟩) (p := 2) rfl hf
    rw [h5] at h51
    have : s11 = s5 := by rw [hs]; exact sections1_stop (by rw [h51]; simp)
    exact ⟨2 + 2 * i, 32, readFirst_e3 hl hm hf, by rw [this, h51], by rw [this, h51], by decide⟩
  | none =>
    have h52 : s5 = ⟨12, 0, 0, wide⟩ := by rw [← h5]; exact countS_none fun i hi => firstBad_none.1 hf i hi
    have hb := cnt_bd hf
    rcases sections1_or (len := b.length) (s := s5) (wide := wide) (c := fun i => shortAt b (2 + 2 * i)) (n := cnt b 2) (fun i hi => cnt_at (hb.1 i hi)) (by rw [h52]) (by rw [h52]) (by omega) with ⟨a, _⟩ | ⟨a, c⟩
    · rw [hs] at he; exact absurd a he
    · rw [← hs] at a
      exact ⟨b.length, 31, readFirst_e4 hl hm hf hw c, a.1, a.2, by decide⟩
theorem DFirstPost.ok {T : Nat → Prop} {w W : World} {kb : Nat} {v : Value} {b : List UInt8} {ka oa cap t2 t4 fin : Nat} {l : List Int} {P : World → Prop} {nm : List UInt8} {wd : Bool} {x0 x1 x2 : Value} {F N X : List CapD} (h : DT T w W kb v b ⟨fin, 0, 0, wd⟩ ka oa cap l P t2 t4 nm wd x0 x1 x2 (.slice none 0 0)) (h0 : DrAt w kb v b ⟨0, 0, 0, false⟩) (hn : w.heap.size ≤ t2) (hne : t2 ≠ kb)
    (hT : ∀ k, k < w.heap.size → T k) (hT2 : T t2) (hr : readFirst b = .ok (⟨nm, wd, F, N, X, []⟩, fin)) (hrob : RobT T W (tri x0 x1 x2) (.slice none 0 0) ⟨nm, wd, F, N, X, []⟩) :
    DFirstPost w kb v b (.returned (termVal ⟨nm, wd, F, N, X, []⟩ (tri x0 x1 x2) (.slice none 0 0))) (storeTerm W t2 ⟨nm, wd, F, N, X, []⟩ (tri x0 x1 x2) (.slice none 0 0)) := by
  have ht := storeTerm_touch W t2 ⟨nm, wd, F, N, X, []⟩ (tri x0 x1 x2) (.slice none 0 0)
  unfold DFirstPost
  rw [hr]
  exact ⟨x0, x1, x2, rfl, (hrob.next (ht.mono fun k _ hk => hk ▸ hT2)).less hT, h.ds.st.over2 h0 ht hn hne⟩
theorem caps_if_len (c : Bool) (l : List CapD) (n : Nat) (h : l.length ≤ n) : (if c then l else []).length ≤ n := by cases c; exact Nat.zero_le _; exact h
set_option maxRecDepth 100000 in
set_option maxHeartbeats 16000000 in
theorem dfirst_long (w : World) (kb : Nat) (A : Option Addr) (cap : Nat) (b : List UInt8) (h : DrAt w kb (.slice A b.length cap) b ⟨0, 0, 0, false⟩) (hl : ¬ b.length < 12) (hm : ¬ (shortAt b 0 ≠ 282 ∧ shortAt b 0 ≠ 542)) :
    Calls Tryz.prog 25 #[.pointer (some ⟨kb, 0, none⟩)] w (DFirstPost w kb (.slice A b.length cap) b) := by
  have HD := Lib.hid (D2.made h)
  have H0 := Lib.hid h
  have HL := Lib.hid (And.intro hl hm)
  have HLT := Lib.hid h.lt
  obtain ⟨c0, c1, c2, c3, c4, f0, f1, f2, f3, f4⟩ := HD.out.st.rd.cells
  have i1 : ¬ ((b.length : Nat) : Int) < 12 := by omega
  obtain ⟨wide, hwide, hmg⟩ : ∃ wide : Bool, decide (shortAt b 0 = 542) = wide ∧ shortAt b 0 = if wide then 542 else 282 := by
    by_cases h5 : shortAt b 0 = 542
    · exact ⟨true, by simp [h5], by simp [h5]⟩
    · exact ⟨false, by simp [h5], by simp; omega⟩
  have HW := Lib.hid hwide
  have CS : Hid (∀ W, DrAt W kb (.slice A b.length cap) b ⟨0, 0, 0, false⟩ → Calls Tryz.prog 73 #[.pointer (some ⟨kb, 0, none⟩)] W fun e w' => e = .returned (.int .i64 (shortAt b 0)) ∧ DStep W kb (.slice A b.length cap) b ⟨2, 0, 0, false⟩ w') := Lib.hid fun W hW => dshort_ok W kb _ b _ hW rfl (by show 0 + 2 ≤ _; omega)
  have CH : Hid (∀ W, DrAt W kb (.slice A b.length cap) b ⟨2, 0, 0, wide⟩ → Calls Tryz.prog 74 #[.pointer (some ⟨kb, 0, none⟩)] W fun e w' => ∃ u, e = .returned (.tuple #[u, .int .i64 2]) ∧ IntRow w' u (shortsAt b 2 5) ∧ (∀ k, u.ownBlock = some k → W.heap.size ≤ k) ∧ DStep W kb (.slice A b.length cap) b ⟨12, 0, 0, wide⟩ w') := Lib.hid fun W hW => dhead_ok W kb _ b _ hW rfl (by show 2 + 10 ≤ _; omega)
  clear h hl hm hwide
  cases wide
  · have hmg : shortAt b 0 = if false = true then 542 else 282 := hmg; rw [show (if false = true then (542 : Int) else 282) = _ from rfl] at hmg
    rw [hmg] at CS
    have HMG := Lib.hid hmg
    clear hmg
    go_enter Tryz.func25, Tryz.ntmps25
    go_wp2_with (first
      | (go_at_call 73; refine (CS.out _ HD.out.st.rd).mono ?_; rintro e w1 ⟨rfl, hs⟩
         have hd := HD.out.next (by have := HLT.out; omega) (by have := HLT.out; omega) hs
         clear HD hs c0 c1 c2 c3 c4 f0 f1 f2 f3 f4
         have HD := Lib.hid hd
         obtain ⟨c0, c1, c2, c3, c4, f0, f1, f2, f3, f4⟩ := hd.st.rd.cells
         obtain ⟨-, b1, -, -, -, -, -, g1, -, -, -, -⟩ := hd.cells
         clear hd)
      | (go_at_call 74
         have hd := (HD.out.next (by have := HLT.out; omega) (by have := HLT.out; omega) (HD.out.st.rd.step.setWide false)).set (j := 1) (x := .bool false) H0.out (by omega) (by have := HLT.out; omega) (by omega) rfl
         refine (CH.out _ hd.st.rd).mono ?_
         rintro e w2 ⟨u, rfl, hr, ho, hs⟩
         have hsz := hs.ht.size
         have hres := (Array.getElem?_eq_some_iff.1 hd.box).1
         obtain ⟨B1, bc1, hB1, hIN⟩ := hr.reads_n (shorts_length _ _ _) (by omega)
         subst hB1
         obtain ⟨ka, oa, rfl, hka, _⟩ := hIN.cell (shorts_at b 2 5 0 (by omega))
         have hrob : RobI (fun k => k < w.heap.size ∨ k = w.heap.size ∨ k = w.heap.size + 1) w2 (.slice (some ⟨ka, oa, none⟩) 5 bc1) (shortsAt b 2 5) := RobI.of_row hr (fun k hk hx => by have := ho k hk; omega) (by rw [shorts_length]; omega)
         have hd2 := hd.next (by have := HLT.out; omega) (by have := HLT.out; omega) hs
         have hx0 : DT (fun k => k < w.heap.size ∨ k = w.heap.size ∨ k = w.heap.size + 1) w w2 kb (.slice A b.length cap) b _ ka oa bc1 (shortsAt b 2 5) (fun _ => True) w.heap.size (w.heap.size + 1) [] _ _ _ _ _ := ⟨⟨hd2.st, hrob, fun _ _ => trivial⟩, hd2.box, hd2.res⟩
         have hnew := World.alloc_heap_new w2 (.cells #[.int .i64 512, .int .i64 64, .int .i64 64, .int .i64 512, .int .i64 32767] 3)
         have hlt2 : w.heap.size + 1 < w2.heap.size := by have := (Array.getElem?_eq_some_iff.1 hd2.box).1; omega
         have HX := Lib.hid ((hx0.below ((Below.refl _ _).alloc (Nat.le_refl _) (.cells #[.int .i64 512, .int .i64 64, .int .i64 64, .int .i64 512, .int .i64 32767] 3))).add (Q := fun W => W.heap[w2.heap.size]? = some (.cells #[.int .i64 512, .int .i64 64, .int .i64 64, .int .i64 512, .int .i64 32767] 3 (0, 0))) (fun W' hW => (hW.block _ (by simp) (by omega)).trans hnew))
         have hka2 : w.heap.size + 1 < ka := by have := ho ka rfl; omega
         have HRD0 := Lib.hid hka2
         clear hd hr ho hs hsz hres hIN hrob hd2 hx0 hnew hlt2 hka hka2 HD c0 c1 c2 c3 c4 f0 f1 f2 f3 f4 b1 g1))
    generalize w2.alloc (.cells #[.int .i64 512, .int .i64 64, .int .i64 64, .int .i64 512, .int .i64 32767] 3) = w3 at *
    go_loopw [8] (fun i wr => DCountR (fun k => k < w.heap.size ∨ k = w.heap.size ∨ k = w.heap.size + 1) w kb (.slice A b.length cap) b false ka oa bc1 w.heap.size (w.heap.size + 1) w2.heap.size i wr) (fun i _ => 5 - (RowKit.intOf i).toNat)
    case atStart => exact ⟨0, rfl, Nat.zero_le _, ⟨HX.out.ds.weak fun W h => h.2, HX.out.box, HX.out.res⟩⟩
    case round =>
      obtain ⟨k, rfl, hk, hdt⟩ := hrel
      have HT := Lib.hid hdt
      by_cases hk5 : k < 5
      · have HLK := Lib.hid hk5
        have hc := hdt.ds.cell (shorts_at b 2 5 k hk5)
        have hmc := (cell_of_row wr w2.heap.size k _ _ _ hdt.ds.bag.val).trans (most_at k hk5)
        have HBD : Hid (countBad b k = (decide (shortAt b (2 + 2 * k) < 0) || decide (mostOf k < shortAt b (2 + 2 * k)) || (k == 0 && shortAt b (2 + 2 * k) == 0))) := Lib.hid rfl
        have HNX := Lib.hid (countS_next (countBad b) 2 ⟨12, 0, 0, false⟩ k)
        have CF : Hid (∀ W s, DrAt W kb (.slice A b.length cap) b s → Calls Tryz.prog 28 #[.pointer (some ⟨kb, 0, none⟩), .int .i64 32, .int .i64 (2 + 2 * (k : Int))] W fun e w' => e = .returned (.tuple #[]) ∧ DStep W kb (.slice A b.length cap) b (failS s 32 (2 + 2 * k)) w') := Lib.hid (fun W s hW => by have := dfail_any W kb _ b s 32 (2 + 2 * k) hW; rwa [show ((2 + 2 * k : Nat) : Int) = 2 + 2 * (k : Int) by push_cast; rfl] at this)
        have HNE : Hid (w.heap.size ≠ kb ∧ w.heap.size + 1 ≠ kb) := Lib.hid (by have := HLT.out; omega)
        have i1 : (0 : Int) ≤ (k : Int) := by omega
        have i2 : (k : Int) < 5 := by omega
        clear hk hdt hk5
        generalize shortAt b (2 + 2 * k) = z at *
        generalize mostOf k = m at *
        by_cases h1 : z < 0
        · have HB : Hid (countBad b k = true) := Lib.hid (by rw [HBD.out]; simp [h1])
          go_wp2
          go_quiet (fail)
          go_wp2_with (first
          | (go_at_call 28; refine (CF.out _ _ (HT.out.below (drewN_below wr nq)).ds.st.rd).mono ?_; rintro e w4 ⟨rfl, hs⟩; have HS := Lib.hid (((HT.out.below (drewN_below wr nq)).next (.inl HLT.out) HNE.out.1 HNE.out.2 hs)); clear hs))
          go_roundw
          case rel => exact DCountR.next HLK.out (by rw [HNX.out, HB.out, if_pos rfl]; exact HS.out)
          case measure => have := HLK.out; simp [RowKit.intOf]; omega
        · have h1' : (z < 0) = False := by simp; omega
          by_cases h2 : m < z
          · have HB : Hid (countBad b k = true) := Lib.hid (by rw [HBD.out]; simp [h2])
            have h2' : (m < z) = True := by simp [h2]
            clear h1 h2
            go_wp2
            go_quiet (fail)
            go_wp2_with (first
            | (go_at_call 28; refine (CF.out _ _ (HT.out.below (drewN_below wr nq)).ds.st.rd).mono ?_; rintro e w4 ⟨rfl, hs⟩; have HS := Lib.hid (((HT.out.below (drewN_below wr nq)).next (.inl HLT.out) HNE.out.1 HNE.out.2 hs)); clear hs))
            go_roundw
            case rel => exact DCountR.next HLK.out (by rw [HNX.out, HB.out, if_pos rfl]; exact HS.out)
            case measure => have := HLK.out; simp [RowKit.intOf]; omega
          · have h2' : (m < z) = False := by simp; omega
            by_cases hk0 : k = 0
            · by_cases hz0 : z = 0
              · have HB : Hid (countBad b k = true) := Lib.hid (by rw [HBD.out]; simp [hk0, hz0])
                have hkb : ((k : Int) == 0) = true := by simpa using hk0
                have hzb : (z == 0) = true := by simpa using hz0
                clear h1 h2 hk0 hz0
                go_wp2
                go_quiet (fail)
                go_wp2_with (first
                | (go_at_call 28; refine (CF.out _ _ (HT.out.below (drewN_below wr nq)).ds.st.rd).mono ?_; rintro e w4 ⟨rfl, hs⟩; have HS := Lib.hid (((HT.out.below (drewN_below wr nq)).next (.inl HLT.out) HNE.out.1 HNE.out.2 hs)); clear hs))
                go_roundw
                case rel => exact DCountR.next HLK.out (by rw [HNX.out, HB.out, if_pos rfl]; exact HS.out)
                case measure => have := HLK.out; simp [RowKit.intOf]; omega
              · have HB : Hid (countBad b k = false) := Lib.hid (by rw [HBD.out]; simp [h1, h2, hz0])
                have hkb : ((k : Int) == 0) = true := by simpa using hk0
                have hzb : (z == 0) = false := by simpa using hz0
                clear h1 h2 hk0 hz0
                go_wp2
                go_quiet (fail)
                go_wp2
                go_roundw
                case rel => exact DCountR.next HLK.out (by rw [HNX.out, HB.out, if_neg (by decide)]; exact (HT.out.below (drewN_below wr nq)))
                case measure => have := HLK.out; simp [RowKit.intOf]; omega
            · have HB : Hid (countBad b k = false) := Lib.hid (by rw [HBD.out]; simp [h1, h2, hk0])
              have hkb : ((k : Int) == 0) = false := by simpa using hk0
              clear h1 h2 hk0
              go_wp2
              go_quiet (fail)
              go_wp2
              go_roundw
              case rel => exact DCountR.next HLK.out (by rw [HNX.out, HB.out, if_neg (by decide)]; exact (HT.out.below (drewN_below wr nq)))
              case measure => have := HLK.out; simp [RowKit.intOf]; omega
      · have hk5e : k = 5 := by omega
        have i2 : ¬ (k : Int) < 5 := by omega
        obtain ⟨s5, h5⟩ : ∃ s, countS (countBad b) 2 ⟨12, 0, 0, false⟩ 5 = s := ⟨_, rfl⟩
        rw [hk5e, h5] at hdt
        have H5 := Lib.hid h5
        have hp5 : s5.pos = 12 := by rw [← h5, countS_pos]
        have hw5 : s5.wide = false := by rw [← h5, countS_wide]
        have HZC : Hid (s5.e = 0 → firstBad 5 (countBad b) = none ∧ s5 = ⟨12, 0, 0, false⟩) := Lib.hid (fun he => by rw [← h5] at he; have := count_e0 (s := ⟨12, 0, 0, false⟩) rfl he; exact ⟨this.1, h5 ▸ this.2⟩)
        obtain ⟨q0, hq0⟩ : ∃ q, s5.pos = q := ⟨_, rfl⟩
        have HQ0 := Lib.hid (hq0.symm.trans hp5)
        have P5 := Lib.hid hq0
        have W5 := Lib.hid hw5
        obtain ⟨v0, v1⟩ := short_bd b 2
        obtain ⟨v2, v3⟩ := short_bd b (2 + 2)
        obtain ⟨v4, v5⟩ := short_bd b (2 + 4)
        obtain ⟨v6, v7⟩ := short_bd b (2 + 6)
        obtain ⟨v8, v9⟩ := short_bd b (2 + 8)
        have HZ : Hid (firstBad 5 (countBad b) = none → shortAt b 2 = (cnt b 2 0 : Nat) ∧ shortAt b (2 + 2) = (cnt b 2 1 : Nat) ∧ shortAt b (2 + 4) = (cnt b 2 2 : Nat) ∧ shortAt b (2 + 6) = (cnt b 2 3 : Nat) ∧ shortAt b (2 + 8) = (cnt b 2 4 : Nat) ∧ (1 ≤ cnt b 2 0 ∧ cnt b 2 0 ≤ 512) ∧ cnt b 2 1 ≤ 64 ∧ cnt b 2 2 ≤ 64 ∧ cnt b 2 3 ≤ 512 ∧ cnt b 2 4 ≤ 32767) := Lib.hid (fun hf => by
          obtain ⟨hn, hr⟩ := cnt_bd hf
          exact ⟨cnt_at (hn 0 (by omega)), cnt_at (hn 1 (by omega)), cnt_at (hn 2 (by omega)), cnt_at (hn 3 (by omega)), cnt_at (hn 4 (by omega)), hr⟩)
        have HFE := Lib.hid (fun s6 s7 s8 s9 s10 s11 => @first_error b false s5 s6 s7 s8 s9 s10 s11 HL.out.1 HL.out.2 HW.out h5)
        rw [show shortAt b 4 = shortAt b (2 + 2) from rfl, show shortAt b 6 = shortAt b (2 + 4) from rfl, show shortAt b 8 = shortAt b (2 + 6) from rfl, show shortAt b 10 = shortAt b (2 + 8) from rfl] at HFE
        have CL : Hid (∀ W s P, DS (fun k => k < w.heap.size ∨ k = w.heap.size ∨ k = w.heap.size + 1) w W kb (.slice A b.length cap) b s ka oa bc1 (shortsAt b 2 5) P →
          W.cell? ⟨ka, oa, none⟩ = some (.int .i64 (shortAt b 2)) ∧ W.cell? ⟨ka, oa + 1, none⟩ = some (.int .i64 (shortAt b (2 + 2))) ∧ W.cell? ⟨ka, oa + 2, none⟩ = some (.int .i64 (shortAt b (2 + 4))) ∧ W.cell? ⟨ka, oa + 3, none⟩ = some (.int .i64 (shortAt b (2 + 6))) ∧ W.cell? ⟨ka, oa + 4, none⟩ = some (.int .i64 (shortAt b (2 + 8)))) := Lib.hid (fun W s P h => h.cells)
        generalize shortAt b 2 = z0 at *
        generalize shortAt b (2 + 2) = z1 at *
        generalize shortAt b (2 + 4) = z2 at *
        generalize shortAt b (2 + 6) = z3 at *
        generalize shortAt b (2 + 8) = z4 at *
        obtain ⟨k0, k1, k2, k3, k4⟩ := CL.out _ _ _ hdt.ds
        have HT := Lib.hid hdt
        have HNE : Hid (w.heap.size ≠ kb ∧ w.heap.size + 1 ≠ kb) := Lib.hid (by have := HLT.out; omega)
        clear hk hdt hk5 hk5e h5 hp5 hw5 hq0
        have A1 := trivial
        go_upto_region 24 with (first
          | (go_at_call 75; have _t := A1; (with_reducible refine (dskip_any _ kb _ b s5 z0 HT.out.ds.st.rd (by omega) (by omega) (fun he => by have := (HZ.out (HZC.out he).1); omega)).mono ?_); rw [P5.out]; rintro e w4 ⟨rfl, hs⟩
             obtain ⟨s6, h6⟩ : ∃ s, skipS b.length s5 z0 = s := ⟨_, rfl⟩
             rw [h6] at hs
             have E6 : Hid (s6.e = 0 → s5.e = 0) := Lib.hid (fun he => (skipS_e0 (h6 ▸ he)).1)
             have H6 := Lib.hid h6
             clear A1 h6
             have hx := HT.out.next (.inl HLT.out) HNE.out.1 HNE.out.2 hs
             clear HT k0 k1 k2 k3 k4 hs
             have HT := Lib.hid hx
             obtain ⟨k0, k1, k2, k3, k4⟩ := CL.out _ _ _ hx.ds
             clear hx)
          | (go_at_call 76; (with_reducible refine (dflags_any _ kb _ b s6 z1 HT.out.ds.st.rd (by omega) (by omega) (fun he => by have := (HZ.out (HZC.out (E6.out he)).1); omega)).mono ?_); rintro e w5 ⟨u1, rfl, hr, ho, hs⟩
             obtain ⟨s7, h7⟩ : ∃ s, skipS b.length s6 z1 = s := ⟨_, rfl⟩
             rw [h7] at hs
             have E7 : Hid (s7.e = 0 → s5.e = 0) := Lib.hid (fun he => E6.out (skipS_e0 (h7 ▸ he)).1)
             obtain ⟨L1, hL1⟩ : ∃ l, (if needB b.length s6 z1 = true then flagsAt b s6.pos z1.toNat else []) = l := ⟨_, rfl⟩
             rw [hL1] at hr
             have hln1 : L1.length ≤ 40000 := by rw [← hL1]; exact caps_if_len _ _ _ (by rw [flagsAt_length]; omega)
             obtain ⟨B1, m1, rfl⟩ := hr.form
             have H7 := Lib.hid h7
             have HL1 := Lib.hid hL1
             clear h7 hL1
             have hlt := (Array.getElem?_eq_some_iff.1 HT.out.box).1
             have hx := (HT.out.next (.inl HLT.out) HNE.out.1 HNE.out.2 hs).addCaps (Rob.of_row (T := (fun k => k < w.heap.size ∨ k = w.heap.size ∨ k = w.heap.size + 1)) hr (fun k hk hx => by have := ho k hk; omega) (by omega))
             clear HT k0 k1 k2 k3 k4 hs hr ho hlt
             have HT := Lib.hid hx
             obtain ⟨k0, k1, k2, k3, k4⟩ := CL.out _ _ _ hx.ds
             clear hx)
          | (go_at_call 26; (with_reducible refine (deven_any _ kb _ b s7 HT.out.ds.st.rd).mono ?_); rintro e w6 ⟨rfl, hs⟩
             obtain ⟨s8, h8⟩ : ∃ s, evenS b.length s7 = s := ⟨_, rfl⟩
             rw [h8] at hs
             have E8 : Hid (s8.e = 0 → s5.e = 0) := Lib.hid (fun he => E7.out (evenS_e0 (h8 ▸ he)).1)
             have W8 : Hid (s8.wide = false) := Lib.hid (by rw [← h8, evenS_wide, ← H7.out, skipS_wide, ← H6.out, skipS_wide]; exact W5.out)
             have H8 := Lib.hid h8
             clear h8
             have hx := HT.out.next (.inl HLT.out) HNE.out.1 HNE.out.2 hs
             clear HT k0 k1 k2 k3 k4 hs
             have HT := Lib.hid hx
             obtain ⟨k0, k1, k2, k3, k4⟩ := CL.out _ _ _ hx.ds
             clear hx)
          | (go_at_call 77; (with_reducible refine (dnums_any _ kb _ b s8 z2 HT.out.ds.st.rd (by omega) (by omega) (fun he => by have := (HZ.out (HZC.out (E8.out he)).1); omega)).mono ?_); unfold DNumsPost; rw [W8.out]; rintro e w7 ⟨u2, rfl, hr, ho, hs⟩
             obtain ⟨s9, h9⟩ : ∃ s, skipS b.length s8 (z2 * (sizeOf false : Nat)) = s := ⟨_, rfl⟩
             rw [h9] at hs
             have E9 : Hid (s9.e = 0 → s5.e = 0) := Lib.hid (fun he => E8.out (skipS_e0 (h9 ▸ he)).1)
             obtain ⟨L2, hL2⟩ : ∃ l, (if needB b.length s8 (z2 * (sizeOf false : Nat)) = true then (numsAt false b s8.pos z2.toNat).map capOfNum else []) = l := ⟨_, rfl⟩
             rw [hL2] at hr
             have hln2 : L2.length ≤ 40000 := by rw [← hL2]; exact caps_if_len _ _ _ (by rw [List.length_map, numsAt_length]; omega)
             obtain ⟨B2, m2, rfl⟩ := hr.form
             obtain ⟨q9, hq9⟩ : ∃ q, s9.pos = q := ⟨_, rfl⟩
             have H9 := Lib.hid h9
             have HL2 := Lib.hid hL2
             have P9 := Lib.hid hq9
             have A2 := trivial
             clear h9 hL2 hq9
             have hlt := (Array.getElem?_eq_some_iff.1 HT.out.box).1
             have hx := (HT.out.next (.inl HLT.out) HNE.out.1 HNE.out.2 hs).addCaps (Rob.of_row (T := (fun k => k < w.heap.size ∨ k = w.heap.size ∨ k = w.heap.size + 1)) hr (fun k hk hx => by have := ho k hk; omega) (by omega))
             clear HT k0 k1 k2 k3 k4 hs hr ho hlt
             have HT := Lib.hid hx
             obtain ⟨k0, k1, k2, k3, k4⟩ := CL.out _ _ _ hx.ds
             clear hx)
          | (go_at_call 75; have _t := A2; (with_reducible refine (dskip_any _ kb _ b s9 (2 * z3) HT.out.ds.st.rd (by omega) (by omega) (fun he => by have := (HZ.out (HZC.out (E9.out he)).1); omega)).mono ?_); rw [P9.out]; rintro e w8 ⟨rfl, hs⟩
             obtain ⟨s10, h10⟩ : ∃ s, skipS b.length s9 (2 * z3) = s := ⟨_, rfl⟩
             rw [h10] at hs
             have E10 : Hid (s10.e = 0 → s5.e = 0) := Lib.hid (fun he => E9.out (skipS_e0 (h10 ▸ he)).1)
             obtain ⟨q10, hq10⟩ : ∃ q, s10.pos = q := ⟨_, rfl⟩
             have H10 := Lib.hid h10
             have P10 := Lib.hid hq10
             have A3 := trivial
             clear A2 h10 hq10
             have hx := HT.out.next (.inl HLT.out) HNE.out.1 HNE.out.2 hs
             clear HT k0 k1 k2 k3 k4 hs
             have HT := Lib.hid hx
             obtain ⟨k0, k1, k2, k3, k4⟩ := CL.out _ _ _ hx.ds
             clear hx)
          | (go_at_call 75; have _t := A3; (with_reducible refine (dskip_any _ kb _ b s10 z4 HT.out.ds.st.rd (by omega) (by omega) (fun he => by have := (HZ.out (HZC.out (E10.out he)).1); omega)).mono ?_); rw [P10.out]; rintro e w9 ⟨rfl, hs⟩
             obtain ⟨s11, h11⟩ : ∃ s, skipS b.length s10 z4 = s := ⟨_, rfl⟩
             rw [h11] at hs
             have H11 := Lib.hid h11
             clear A3 h11
             have hx := HT.out.next (.inl HLT.out) HNE.out.1 HNE.out.2 hs
             clear HT k0 k1 k2 k3 k4 hs
             have HT := Lib.hid hx
             obtain ⟨k0, k1, k2, k3, k4⟩ := CL.out _ _ _ hx.ds
             clear hx))
        have hT := HT.out
        obtain ⟨c0, -, c2, -, -, -, -, -, -, -⟩ := hT.ds.st.rd.cells
        clear HX
        by_cases he : s11.e = 0
        · obtain ⟨a5, r6, b6, r7, r8, b8, r9, r10, r11⟩ := sect1_e0 H6.out H7.out H8.out H9.out H10.out H11.out he
          obtain ⟨hf, h5'⟩ := HZC.out a5
          obtain ⟨y0, y1, y2, y3, y4, ⟨u0, u0'⟩, u1, u2, u3, u4⟩ := HZ.out hf
          have hq0 := HQ0.out
          have p6 : s6.pos = 12 + cnt b 2 0 := by rw [r6, h5', y0]; simp
          have p7 : s7.pos = 12 + cnt b 2 0 + cnt b 2 1 := by rw [r7, y1]; simp [p6]
          have p8 : s8.pos = evenUp (12 + cnt b 2 0 + cnt b 2 1) := by rw [r8]; simp [p7]
          have p9 : q9 = evenUp (12 + cnt b 2 0 + cnt b 2 1) + cnt b 2 2 * sizeOf false := by rw [← P9.out, r9, y2]; simp only [p8]; rw [← Int.natCast_mul, Int.toNat_natCast]
          have p10 : q10 = q9 + cnt b 2 3 * 2 := by rw [← P10.out, r10, y3, ← P9.out]; simp; omega
          have hlay : lay1 false (cnt b 2) = ⟨12 + cnt b 2 0, evenUp (12 + cnt b 2 0 + cnt b 2 1), q9, q10, q10 + cnt b 2 4⟩ := by rw [lay1_eq, p10, p9]
          have hep : 12 + cnt b 2 0 ≤ q9 := by rw [p9]; exact Nat.le_trans (Nat.le_trans (by omega) (evenUp_le (12 + cnt b 2 0 + cnt b 2 1))) (Nat.le_add_right _ _)
          have hs11 : s11 = ⟨q10 + cnt b 2 4, 0, 0, false⟩ := by
            rw [r11, y4, ← P10.out, r10, r9, r8, r7, r6, h5']; simp
          have hfin : q10 + cnt b 2 4 ≤ b.length := by have := hT.ds.st.rd.pos; rw [hs11] at this; exact this
          have hl1 : L1 = flagsAt b (12 + cnt b 2 0) (cnt b 2 1) := by rw [← HL1.out, if_pos b6, p6, y1, Int.toNat_natCast]
          have hl2 : L2 = (numsAt false b (evenUp (12 + cnt b 2 0 + cnt b 2 1)) (cnt b 2 2)).map capOfNum := by rw [← HL2.out, if_pos b8, p8, y2, Int.toNat_natCast]
          clear r6 r7 r8 r9 r10 r11 b6 b8 a5 h5' p6 p7 p8 p9 HFE HZ HZC H5 H6 H7 H8 H9 H10 H11 HL1 HL2 E6 E7 E8 E9 E10 W8 P5 P9 P10 W5
          subst y0 y1 y2 y3 y4
          obtain ⟨is, his⟩ : ∃ l, shortsAt b q9 (cnt b 2 3) = l := ⟨_, rfl⟩
          obtain ⟨tab, htab⟩ : ∃ l, part b q10 (cnt b 2 4) = l := ⟨_, rfl⟩
          obtain ⟨nms, hnms⟩ : ∃ l, part b 12 (cnt b 2 0) = l := ⟨_, rfl⟩
          have hE5 := @readFirst_e5 b false HL.out.1 HL.out.2 hf HW.out
          have hE6 := fun i => @readFirst_e6 b false i HL.out.1 HL.out.2 hf HW.out
          have hE7 := @readFirst_ok b false HL.out.1 HL.out.2 hf HW.out
          rw [hlay] at hE5 hE6 hE7
          simp only [his, htab, hnms] at hE5 hE6 hE7
          rw [← hl1, ← hl2] at hE7
          have hnl : ¬ b.length < q10 + cnt b 2 4 := by omega
          have HE5 := Lib.hid (hE5 hnl)
          have HE6 := Lib.hid (fun i => hE6 i hnl)
          have HE7 := Lib.hid (hE7 hnl)
          have hnlen : nms.length = cnt b 2 0 := by rw [← hnms]; exact part_length b (by omega)
          have hbb := hT.ds.st.rd.big
          obtain ⟨hbc, _⟩ := hT.ds.st.rd.val.size
          have hsl : ∀ W, (Instr.slice 22 (.slice A b.length cap) (some (.int .i64 q0)) (some (.int .i64 ((q0 : Int) + ((cnt b 2 0 : Nat) : Int)))) none).run Tryz.prog W = .ok (.slice (tailA A cap q0 1) (cnt b 2 0) (cap - q0)) W := fun W => by
            have := slice_both (P := Tryz.prog) 22 5 Tryz.underlying22 1 size_u8 A b.length cap q0 (q0 + cnt b 2 0) (by omega) (by omega) W
            rw [show q0 + cnt b 2 0 - q0 = cnt b 2 0 by omega] at this
            exact_mod_cast this
          have hcv : ∀ N, (convert 22 9 (.slice (tailA A cap q0 1) (cnt b 2 0) (cap - q0))).run Tryz.prog (w9.drewN N) = .ok (str nms) (w9.drewN N) := fun N => by
            have := ((hT.ds.st.rd.val.below (drewN_below w9 N)).part (p := q0) (m := cnt b 2 0) (by omega)).text
            rw [hq0, hnms] at this
            rw [hq0]; exact this
          have CI := Lib.hid (fun W => indexByte_any nms W)
          have HNB : Hid (namesBad nms = !(decide (1 < nms.length) && indexByte nms 0 == (nms.length : Int) - 1)) := Lib.hid rfl
          have CT : Hid (∀ W, DrAt W kb (.slice A b.length cap) b ⟨q10 + cnt b 2 4, 0, 0, false⟩ → Calls Tryz.prog 79 #[.pointer (some ⟨kb, 0, none⟩), str tab, .int .i64 q9, .int .i64 (cnt b 2 3 : Nat)] W (DTakenPost W kb (.slice A b.length cap) b ⟨q10 + cnt b 2 4, 0, 0, false⟩ q9 tab is)) := Lib.hid (fun W hW => by have := dtaken_any W kb _ b _ tab q9 (cnt b 2 3) hW rfl (by rw [← htab, part_length b (by omega)]; omega) (by omega) (by omega); rwa [his] at this)
          have HIS : Hid (shortsAt b q9 (cnt b 2 3) = is ∧ part b q10 (cnt b 2 4) = tab ∧ is.length = cnt b 2 3) := Lib.hid ⟨his, htab, by rw [← his, shorts_length]⟩
          have HQ := Lib.hid (And.intro hq0 (And.intro hfin (And.intro p10 (And.intro u0 (And.intro hnlen hep)))))
          have HU3 := Lib.hid u3
          rw [hs11] at hT c2
          have HT := Lib.hid hT
          have HBB := Lib.hid (And.intro hbb hbc)
          have i3 : ((cnt b 2 0 : Nat) : Int) ≤ 512 := by omega
          have i4 : (q0 : Int) + ((cnt b 2 0 : Nat) : Int) ≤ (b.length : Int) := by omega
          have i5 : (b.length : Int) ≤ 140737488351232 := by omega
          have i6 : (0 : Int) ≤ ((cnt b 2 0 : Nat) : Int) := by omega
          have i7 : ((cnt b 2 4 : Nat) : Int) ≤ 32767 := by omega
          have i8 : (q10 : Int) + ((cnt b 2 4 : Nat) : Int) ≤ (b.length : Int) := by omega
          clear hnlen he hq0 hf hlay hs11 hfin hl1 hl2 his htab hnms hE5 hE6 hE7 hnl hep hbb hbc p10 u0 u0' u1 u2 u3 u4 hT
          go_wp2
          go_quiet (fail)
          have hT2 := HT.out.below (drewN_below w9 nq)
          clear HT k0 k1 k2 k3 k4 c0 c2 hcv
          generalize w9.drewN nq = w10 at *
          have HT := Lib.hid hT2
          clear hT2
          obtain ⟨ix, hix⟩ : ∃ z, indexByte nms 0 = z := ⟨_, rfl⟩
          rw [hix] at CI HNB
          have hn1 : 1 ≤ nms.length := by have := HQ.out; omega
          have i9 : 1 ≤ (nms.length : Int) := by omega
          have i10 : (nms.length : Int) ≤ 512 := by have := HQ.out.2.2.2.2.1; omega
          clear hix
          rcases Bool.eq_false_or_eq_true (namesBad nms) with hnb | hnb
          · have HBN := Lib.hid (HE5.out hnb)
            by_cases hxe : ix = (nms.length : Int) - 1
            · have hA : (ix != (nms.length : Int) - 1) = false := by simp [hxe]
              have hB : ((nms.length : Int) == 1) = true := by
                rw [HNB.out] at hnb
                simp [hxe] at hnb
                simp; omega
              clear hxe hn1 hnb
              clear HNB HE5
              go_wp2_with (first
                | (go_at_call 78; refine (CI.out _).mono ?_; rintro e w' ⟨rfl, rfl⟩)
                | (go_at_call 28; refine (dfail_any _ kb _ b _ 33 q0 HT.out.ds.st.rd).mono ?_; rw [failS_ok rfl]; rintro e w11 ⟨rfl, hs⟩
                   have hx := HT.out.next (.inl HLT.out) HNE.out.1 HNE.out.2 hs
                   clear HT hs
                   have HT := Lib.hid hx
                   obtain ⟨b0, b1, b2, b3, b4, b5, f0, f1, f2, f3, f4, f5⟩ := hx.cells
                   obtain ⟨z0', z1', z2', z3', z4', z5', y0, y1, y2, y3, y4, y5⟩ := termZero_facts hx.res
                   clear hx))
              have HX := DFirstPost.bad ⟨HT.out.ds.st, HT.out.box, HT.out.res⟩ H0.out (Nat.le_refl _) HNE.out.1 HBN.out rfl HQ.out.1 (by decide)
              have hres := stored_at HT.out.res [] false [] [] [] [] (.slice none 0 0) (.slice none 0 0) (.slice none 0 0) (.slice none 0 0)
              change bodyPost _ _ _ _ _ (storeTerm w11 w.heap.size ⟨[], false, [], [], [], []⟩ (tri (.slice none 0 0) (.slice none 0 0) (.slice none 0 0)) (.slice none 0 0))
              generalize storeTerm w11 w.heap.size ⟨[], false, [], [], [], []⟩ (tri (.slice none 0 0) (.slice none 0 0) (.slice none 0 0)) (.slice none 0 0) = W' at *
              exact bodyPost_ret (by simp [results, Tryz.results25, go_sem, hres]) rfl HX
            · have hA : (ix != (nms.length : Int) - 1) = true := by simpa using hxe
              clear hxe hn1 hnb
              clear HNB HE5
              go_wp2_with (first
                | (go_at_call 78; refine (CI.out _).mono ?_; rintro e w' ⟨rfl, rfl⟩)
                | (go_at_call 28; refine (dfail_any _ kb _ b _ 33 q0 HT.out.ds.st.rd).mono ?_; rw [failS_ok rfl]; rintro e w11 ⟨rfl, hs⟩
                   have hx := HT.out.next (.inl HLT.out) HNE.out.1 HNE.out.2 hs
                   clear HT hs
                   have HT := Lib.hid hx
                   obtain ⟨b0, b1, b2, b3, b4, b5, f0, f1, f2, f3, f4, f5⟩ := hx.cells
                   obtain ⟨z0', z1', z2', z3', z4', z5', y0, y1, y2, y3, y4, y5⟩ := termZero_facts hx.res
                   clear hx))
              have HX := DFirstPost.bad ⟨HT.out.ds.st, HT.out.box, HT.out.res⟩ H0.out (Nat.le_refl _) HNE.out.1 HBN.out rfl HQ.out.1 (by decide)
              have hres := stored_at HT.out.res [] false [] [] [] [] (.slice none 0 0) (.slice none 0 0) (.slice none 0 0) (.slice none 0 0)
              change bodyPost _ _ _ _ _ (storeTerm w11 w.heap.size ⟨[], false, [], [], [], []⟩ (tri (.slice none 0 0) (.slice none 0 0) (.slice none 0 0)) (.slice none 0 0))
              generalize storeTerm w11 w.heap.size ⟨[], false, [], [], [], []⟩ (tri (.slice none 0 0) (.slice none 0 0) (.slice none 0 0)) (.slice none 0 0) = W' at *
              exact bodyPost_ret (by simp [results, Tryz.results25, go_sem, hres]) rfl HX
          · have hxe : ix = (nms.length : Int) - 1 ∧ 1 < nms.length := by
              rw [HNB.out] at hnb
              simp at hnb
              exact ⟨hnb.2, hnb.1⟩
            have hA : (ix != (nms.length : Int) - 1) = false := by simp [hxe.1]
            have hB : ((nms.length : Int) == 1) = false := by simp; omega
            have HNBF := Lib.hid hnb
            have i11 : ((nms.length : Int) - 1).toNat = nms.length - 1 := by omega
            have hts := take_str nms (nms.length - 1)
            clear hxe hn1 hnb HE5 HNB
            obtain ⟨b0, b1, b2, b3, b4, b5, f0, f1, f2, f3, f4, f5⟩ := HT.out.cells
            go_upto_region 31 with (first
              | (go_at_call 78; refine (CI.out _).mono ?_; rintro e w' ⟨rfl, rfl⟩))
            have hx := ((HT.out.set (j := 0) (x := str (nms.take (nms.length - 1))) H0.out (.inr (.inr rfl)) (by omega) HNE.out.2 (by omega) rfl).set (j := 2) (x := .slice B1 L1.length m1) H0.out (.inr (.inr rfl)) (by omega) HNE.out.2 (by omega) rfl).set (j := 3) (x := .slice B2 L2.length m2) H0.out (.inr (.inr rfl)) (by omega) HNE.out.2 (by omega) rfl
            clear HT b0 b1 b2 b3 b4 b5 f0 f1 f2 f3 f4 f5 hA hB hts i11 i9
            generalize ((w10.setCell ⟨w.heap.size + 1, 0, none⟩ (str (nms.take (nms.length - 1)))).setCell ⟨w.heap.size + 1, 2, none⟩ (.slice B1 L1.length m1)).setCell ⟨w.heap.size + 1, 3, none⟩ (.slice B2 L2.length m2) = w11 at *
            obtain ⟨nm, hnm⟩ : ∃ l, nms.take (nms.length - 1) = l := ⟨_, rfl⟩
            rw [hnm] at hx
            have HNM := Lib.hid hnm
            have HT := Lib.hid hx
            obtain ⟨k0, k1, k2, k3, k4⟩ := CL.out _ _ _ hx.ds
            obtain ⟨c0, -, c2, -, -, -, -, -, -, -⟩ := hx.ds.st.rd.cells
            have hsl2 : ∀ W, (Instr.slice 22 (.slice A b.length cap) (some (.int .i64 q10)) (some (.int .i64 ((q10 : Int) + ((cnt b 2 4 : Nat) : Int)))) none).run Tryz.prog W = .ok (.slice (tailA A cap q10 1) (cnt b 2 4) (cap - q10)) W := fun W => by
              have := slice_both (P := Tryz.prog) 22 5 Tryz.underlying22 1 size_u8 A b.length cap q10 (q10 + cnt b 2 4) (by omega) (by have := HBB.out; have := HQ.out; omega) W
              rw [show q10 + cnt b 2 4 - q10 = cnt b 2 4 by omega] at this
              exact_mod_cast this
            have HCV : Hid (∀ W, BytesV W (.slice A b.length cap) b → (convert 22 9 (.slice (tailA A cap q10 1) (cnt b 2 4) (cap - q10))).run Tryz.prog W = .ok (str tab) W) := Lib.hid fun W hW => by
              have := (hW.part (p := q10) (m := cnt b 2 4) (by have := HQ.out; omega)).text
              rw [HIS.out.2.1] at this
              exact this
            clear hx hnm hsl
            have HHX := Lib.hid (HT.out.below ((Below.refl _ w11).drew))
            have hwr : IntKind.i64.wrap ((q10 : Int) + ((cnt b 2 4 : Nat) : Int)) = (q10 : Int) + ((cnt b 2 4 : Nat) : Int) := IntWalk.i64_in _ (by omega)
            have n1 : ka ≠ w.heap.size + 1 := by have := HRD0.out; omega
            have n2 : kb ≠ w.heap.size + 1 := fun e => HNE.out.2 e.symm
            have hcv3 : (convert 22 9 (.slice (tailA A cap q10 1) (cnt b 2 4) (cap - q10))).run Tryz.prog w11.drew = .ok (str tab) w11.drew := HCV.out _ HHX.out.ds.st.rd.val
            have hcv0 := HCV.out _ HT.out.ds.st.rd.val
            cases hfb : firstBad (cnt b 2 3) (textBad tab is) with
            | some i =>
              have CT2 : Hid (Calls Tryz.prog 79 #[.pointer (some ⟨kb, 0, none⟩), str tab, .int .i64 q9, .int .i64 (cnt b 2 3 : Nat)] w11.drew fun e w' => (∃ A m c z, e = .returned (.tuple #[.slice A m c, .int .i64 z])) ∧ DStep w11.drew kb (.slice A b.length cap) b ⟨q10 + cnt b 2 4, 33, q9 + 2 * i, false⟩ w') := Lib.hid ((CT.out _ HHX.out.ds.st.rd).mono fun e w' h => by unfold DTakenPost at h; rw [HIS.out.2.2, hfb] at h; exact h)
              have HRE := Lib.hid (HE6.out i HNBF.out hfb)
              clear hfb
              go_region_held3 (fun w' => w'.cell? ⟨kb, 0, none⟩ = some (.slice A b.length cap) ∧ w'.cell? ⟨ka, oa + 4, none⟩ = some (.int .i64 ((cnt b 2 4 : Nat) : Int)) ∧ w'.cell? ⟨ka, oa + 3, none⟩ = some (.int .i64 ((cnt b 2 3 : Nat) : Int)) ∧ (convert 22 9 (.slice (tailA A cap q10 1) (cnt b 2 4) (cap - q10))).run Tryz.prog w' = .ok (str tab) w') (first | go_keep | (refine ⟨?_, ?_, ?_, ?_⟩ <;> assumption)) (first
                | (go_at_call 79; refine (CT2.out).mono ?_; rintro e w12 ⟨⟨A5, m5, c5, z5, rfl⟩, hs⟩; have hx := HHX.out.next (.inl HLT.out) HNE.out.1 HNE.out.2 hs; obtain ⟨-, -, -, -, g4, -, -, -, -, -, e4, -⟩ := hx.cells; have hx5 := (hx.set (j := 4) (x := .slice A5 m5 c5) H0.out (.inr (.inr rfl)) (by omega) HNE.out.2 (by omega) rfl); have c0' := hx.ds.st.rd.cells.1; obtain ⟨-, -, -, k3', k4'⟩ := CL.out _ _ _ hx.ds; have c0'' := hx5.ds.st.rd.cells.1; obtain ⟨-, -, -, k3'', k4''⟩ := CL.out _ _ _ hx5.ds; have hcv4 := HCV.out _ hx.ds.st.rd.val; have hcv5 := HCV.out _ hx5.ds.st.rd.val; have HX5 := Lib.hid hx5; clear hx hs hx5))
              clear c0 c2 k0 k1 k2 k3 k4 c0' k3' k4' g4 e4 c0'' k3'' k4'' hcv0 hcv3 hcv4 hcv5
              have HX5 := HX5.out
              generalize w12.setCell ⟨w.heap.size + 1, 4, none⟩ (.slice A5 m5 c5) = w13 at *
              obtain ⟨b0, b1, b2, b3, b4, b5, f0, f1, f2, f3, f4, f5⟩ := HX5.cells
              obtain ⟨z0', z1', z2', z3', z4', z5', y0, y1, y2, y3, y4, y5⟩ := termZero_facts HX5.res
              have HXB := DFirstPost.bad ⟨HX5.ds.st, HX5.box, HX5.res⟩ H0.out (Nat.le_refl _) HNE.out.1 HRE.out rfl rfl (by decide)
              have HXB := Lib.hid HXB
              have HX6 := Lib.hid HX5
              clear HX5
              go_wp2
              have HXB := HXB.out
              have HX5 := HX6.out
              have hres := stored_at HX5.res nm false [] [] [] [] (.slice B1 L1.length m1) (.slice B2 L2.length m2) (.slice A5 m5 c5) (.slice none 0 0)
              change bodyPost _ _ _ _ _ (storeTerm w13 w.heap.size ⟨nm, false, [], [], [], []⟩ (tri (.slice B1 L1.length m1) (.slice B2 L2.length m2) (.slice A5 m5 c5)) (.slice none 0 0))
              generalize storeTerm w13 w.heap.size ⟨nm, false, [], [], [], []⟩ (tri (.slice B1 L1.length m1) (.slice B2 L2.length m2) (.slice A5 m5 c5)) (.slice none 0 0) = W' at *
              exact bodyPost_ret (by simp [results, Tryz.results25, go_sem, hres]) rfl HXB
            | none =>
              obtain ⟨TX, hTX⟩ : ∃ l, textsOf tab is = l := ⟨_, rfl⟩
              have htl : TX.length ≤ 512 := by rw [← hTX]; unfold textsOf; rw [List.length_map, HIS.out.2.2]; exact HU3.out
              have CT2 : Hid (Calls Tryz.prog 79 #[.pointer (some ⟨kb, 0, none⟩), str tab, .int .i64 q9, .int .i64 (cnt b 2 3 : Nat)] w11.drew fun e w' => (∃ A c z, e = .returned (.tuple #[.slice A TX.length c, .int .i64 z]) ∧ CapRow w' (.slice A TX.length c) TX ∧ ∀ k, (Value.slice A TX.length c).ownBlock = some k → w11.drew.heap.size ≤ k) ∧ DStep w11.drew kb (.slice A b.length cap) b ⟨q10 + cnt b 2 4, 0, 0, false⟩ w') := Lib.hid ((CT.out _ HHX.out.ds.st.rd).mono fun e w' h => by
                unfold DTakenPost at h
                rw [HIS.out.2.2, hfb, hTX] at h
                obtain ⟨u, rfl, hr, ho, hs⟩ := h
                obtain ⟨A5, c5, rfl⟩ := hr.form
                exact ⟨⟨A5, c5, _, rfl, hr, ho⟩, hs⟩)
              have HRE := Lib.hid (HE7.out HNBF.out hfb)
              rw [hTX, show nms.take (cnt b 2 0 - 1) = nm by rw [← HNM.out, HQ.out.2.2.2.2.1]] at HRE
              clear hfb hTX
              go_region_held3 (fun w' => w'.cell? ⟨kb, 0, none⟩ = some (.slice A b.length cap) ∧ w'.cell? ⟨ka, oa + 4, none⟩ = some (.int .i64 ((cnt b 2 4 : Nat) : Int)) ∧ w'.cell? ⟨ka, oa + 3, none⟩ = some (.int .i64 ((cnt b 2 3 : Nat) : Int)) ∧ (convert 22 9 (.slice (tailA A cap q10 1) (cnt b 2 4) (cap - q10))).run Tryz.prog w' = .ok (str tab) w') (first | go_keep | (refine ⟨?_, ?_, ?_, ?_⟩ <;> assumption)) (first
                | (go_at_call 79; refine (CT2.out).mono ?_; rintro e w12 ⟨⟨A5, c5, z5, rfl, hr, ho⟩, hs⟩; have hlt5 := (Array.getElem?_eq_some_iff.1 HHX.out.box).1; have hx := (HHX.out.next (.inl HLT.out) HNE.out.1 HNE.out.2 hs).addCaps (Rob.of_row (T := (fun k => k < w.heap.size ∨ k = w.heap.size ∨ k = w.heap.size + 1)) hr (fun k hk hx => by have := ho k hk; omega) (by omega)); obtain ⟨-, -, -, -, g4, -, -, -, -, -, e4, -⟩ := hx.cells; have hx5 := (hx.set (j := 4) (x := .slice A5 TX.length c5) H0.out (.inr (.inr rfl)) (by omega) HNE.out.2 (by omega) rfl); have c0' := hx.ds.st.rd.cells.1; obtain ⟨-, -, -, k3', k4'⟩ := CL.out _ _ _ hx.ds; have c0'' := hx5.ds.st.rd.cells.1; obtain ⟨-, -, -, k3'', k4''⟩ := CL.out _ _ _ hx5.ds; have hcv4 := HCV.out _ hx.ds.st.rd.val; have hcv5 := HCV.out _ hx5.ds.st.rd.val; have HX5 := Lib.hid hx5; clear hx hs hx5 hr ho hlt5))
              clear c0 c2 k0 k1 k2 k3 k4 c0' k3' k4' g4 e4 c0'' k3'' k4'' hcv0 hcv3 hcv4 hcv5
              have HX5 := HX5.out
              generalize w12.setCell ⟨w.heap.size + 1, 4, none⟩ (.slice A5 TX.length c5) = w13 at *
              obtain ⟨b0, b1, b2, b3, b4, b5, f0, f1, f2, f3, f4, f5⟩ := HX5.cells
              obtain ⟨z0', z1', z2', z3', z4', z5', y0, y1, y2, y3, y4, y5⟩ := termZero_facts HX5.res
              have HXB := DFirstPost.ok HX5 H0.out (Nat.le_refl _) HNE.out.1 (fun k hk => .inl hk) (.inr (.inl rfl)) HRE.out (RobT.mk4 (fun W' h => (HX5.ds.bag W' h).1.1.2) (fun W' h => (HX5.ds.bag W' h).1.2) (fun W' h => (HX5.ds.bag W' h).2) (fun W' _ => extsV_nil W'))
              have HXB := Lib.hid HXB
              have HX6 := Lib.hid HX5
              clear HX5
              go_wp2
              have HXB := HXB.out
              have HX5 := HX6.out
              have hres := stored_at HX5.res nm false [] [] [] [] (.slice B1 L1.length m1) (.slice B2 L2.length m2) (.slice A5 TX.length c5) (.slice none 0 0)
              change bodyPost _ _ _ _ _ (storeTerm w13 w.heap.size ⟨nm, false, [], [], [], []⟩ (tri (.slice B1 L1.length m1) (.slice B2 L2.length m2) (.slice A5 TX.length c5)) (.slice none 0 0))
              generalize storeTerm w13 w.heap.size ⟨nm, false, [], [], [], []⟩ (tri (.slice B1 L1.length m1) (.slice B2 L2.length m2) (.slice A5 TX.length c5)) (.slice none 0 0) = W' at *
              exact bodyPost_ret (by simp [results, Tryz.results25, go_sem, hres]; exact ⟨rfl, rfl, rfl⟩) rfl HXB
        · have hb : (s11.e != 0) = true := by simpa using he
          obtain ⟨q, er, hr1, hr2, hr3, hr4⟩ := HFE.out _ _ _ _ _ _ H6.out H7.out H8.out H9.out H10.out H11.out he
          have HR := Lib.hid (And.intro hr1 (And.intro hr2 (And.intro hr3 hr4)))
          obtain ⟨b0, b1, b2, b3, b4, b5, f0, f1, f2, f3, f4, f5⟩ := hT.cells
          obtain ⟨z0', z1', z2', z3', z4', z5', y0, y1, y2, y3, y4, y5⟩ := termZero_facts hT.res
          have HX := DFirstPost.bad ⟨hT.ds.st, hT.box, hT.res⟩ H0.out (Nat.le_refl _) HNE.out.1 HR.out.1 HR.out.2.1 HR.out.2.2.1 HR.out.2.2.2
          have HX := Lib.hid HX
          clear he hr1 hr2 hr3 hr4 hT HFE
          generalize s11.e = e11 at *
          go_wp2
          have HX := HX.out
          have hres := stored_at HT.out.res [] false [] [] [] [] (.slice none 0 0) (.slice none 0 0) (.slice none 0 0) (.slice none 0 0)
          change bodyPost _ _ _ _ _ (storeTerm w9 w.heap.size ⟨[], false, [], [], [], []⟩ (tri (.slice none 0 0) (.slice none 0 0) (.slice none 0 0)) (.slice none 0 0))
          generalize storeTerm w9 w.heap.size ⟨[], false, [], [], [], []⟩ (tri (.slice none 0 0) (.slice none 0 0) (.slice none 0 0)) (.slice none 0 0) = W' at *
          exact bodyPost_ret (by simp [results, Tryz.results25, go_sem, hres]) rfl HX
  · have hmg : shortAt b 0 = if true = true then 542 else 282 := hmg; rw [show (if true = true then (542 : Int) else 282) = _ from rfl] at hmg
    rw [hmg] at CS
    have HMG := Lib.hid hmg
    clear hmg
    go_enter Tryz.func25, Tryz.ntmps25
    go_wp2_with (first
      | (go_at_call 73; refine (CS.out _ HD.out.st.rd).mono ?_; rintro e w1 ⟨rfl, hs⟩
         have hd := HD.out.next (by have := HLT.out; omega) (by have := HLT.out; omega) hs
         clear HD hs c0 c1 c2 c3 c4 f0 f1 f2 f3 f4
         have HD := Lib.hid hd
         obtain ⟨c0, c1, c2, c3, c4, f0, f1, f2, f3, f4⟩ := hd.st.rd.cells
         obtain ⟨-, b1, -, -, -, -, -, g1, -, -, -, -⟩ := hd.cells
         clear hd)
      | (go_at_call 74
         have hd := (HD.out.next (by have := HLT.out; omega) (by have := HLT.out; omega) (HD.out.st.rd.step.setWide true)).set (j := 1) (x := .bool true) H0.out (by omega) (by have := HLT.out; omega) (by omega) rfl
         refine (CH.out _ hd.st.rd).mono ?_
         rintro e w2 ⟨u, rfl, hr, ho, hs⟩
         have hsz := hs.ht.size
         have hres := (Array.getElem?_eq_some_iff.1 hd.box).1
         obtain ⟨B1, bc1, hB1, hIN⟩ := hr.reads_n (shorts_length _ _ _) (by omega)
         subst hB1
         obtain ⟨ka, oa, rfl, hka, _⟩ := hIN.cell (shorts_at b 2 5 0 (by omega))
         have hrob : RobI (fun k => k < w.heap.size ∨ k = w.heap.size ∨ k = w.heap.size + 1) w2 (.slice (some ⟨ka, oa, none⟩) 5 bc1) (shortsAt b 2 5) := RobI.of_row hr (fun k hk hx => by have := ho k hk; omega) (by rw [shorts_length]; omega)
         have hd2 := hd.next (by have := HLT.out; omega) (by have := HLT.out; omega) hs
         have hx0 : DT (fun k => k < w.heap.size ∨ k = w.heap.size ∨ k = w.heap.size + 1) w w2 kb (.slice A b.length cap) b _ ka oa bc1 (shortsAt b 2 5) (fun _ => True) w.heap.size (w.heap.size + 1) [] _ _ _ _ _ := ⟨⟨hd2.st, hrob, fun _ _ => trivial⟩, hd2.box, hd2.res⟩
         have hnew := World.alloc_heap_new w2 (.cells #[.int .i64 512, .int .i64 64, .int .i64 64, .int .i64 512, .int .i64 32767] 3)
         have hlt2 : w.heap.size + 1 < w2.heap.size := by have := (Array.getElem?_eq_some_iff.1 hd2.box).1; omega
         have HX := Lib.hid ((hx0.below ((Below.refl _ _).alloc (Nat.le_refl _) (.cells #[.int .i64 512, .int .i64 64, .int .i64 64, .int .i64 512, .int .i64 32767] 3))).add (Q := fun W => W.heap[w2.heap.size]? = some (.cells #[.int .i64 512, .int .i64 64, .int .i64 64, .int .i64 512, .int .i64 32767] 3 (0, 0))) (fun W' hW => (hW.block _ (by simp) (by omega)).trans hnew))
         have hka2 : w.heap.size + 1 < ka := by have := ho ka rfl; omega
         have HRD0 := Lib.hid hka2
         clear hd hr ho hs hsz hres hIN hrob hd2 hx0 hnew hlt2 hka hka2 HD c0 c1 c2 c3 c4 f0 f1 f2 f3 f4 b1 g1))
    generalize w2.alloc (.cells #[.int .i64 512, .int .i64 64, .int .i64 64, .int .i64 512, .int .i64 32767] 3) = w3 at *
    go_loopw [8] (fun i wr => DCountR (fun k => k < w.heap.size ∨ k = w.heap.size ∨ k = w.heap.size + 1) w kb (.slice A b.length cap) b true ka oa bc1 w.heap.size (w.heap.size + 1) w2.heap.size i wr) (fun i _ => 5 - (RowKit.intOf i).toNat)
    case atStart => exact ⟨0, rfl, Nat.zero_le _, ⟨HX.out.ds.weak fun W h => h.2, HX.out.box, HX.out.res⟩⟩
    case round =>
      obtain ⟨k, rfl, hk, hdt⟩ := hrel
      have HT := Lib.hid hdt
      by_cases hk5 : k < 5
      · have HLK := Lib.hid hk5
        have hc := hdt.ds.cell (shorts_at b 2 5 k hk5)
        have hmc := (cell_of_row wr w2.heap.size k _ _ _ hdt.ds.bag.val).trans (most_at k hk5)
        have HBD : Hid (countBad b k = (decide (shortAt b (2 + 2 * k) < 0) || decide (mostOf k < shortAt b (2 + 2 * k)) || (k == 0 && shortAt b (2 + 2 * k) == 0))) := Lib.hid rfl
        have HNX := Lib.hid (countS_next (countBad b) 2 ⟨12, 0, 0, true⟩ k)
        have CF : Hid (∀ W s, DrAt W kb (.slice A b.length cap) b s → Calls Tryz.prog 28 #[.pointer (some ⟨kb, 0, none⟩), .int .i64 32, .int .i64 (2 + 2 * (k : Int))] W fun e w' => e = .returned (.tuple #[]) ∧ DStep W kb (.slice A b.length cap) b (failS s 32 (2 + 2 * k)) w') := Lib.hid (fun W s hW => by have := dfail_any W kb _ b s 32 (2 + 2 * k) hW; rwa [show ((2 + 2 * k : Nat) : Int) = 2 + 2 * (k : Int) by push_cast; rfl] at this)
        have HNE : Hid (w.heap.size ≠ kb ∧ w.heap.size + 1 ≠ kb) := Lib.hid (by have := HLT.out; omega)
        have i1 : (0 : Int) ≤ (k : Int) := by omega
        have i2 : (k : Int) < 5 := by omega
        clear hk hdt hk5
        generalize shortAt b (2 + 2 * k) = z at *
        generalize mostOf k = m at *
        by_cases h1 : z < 0
        · have HB : Hid (countBad b k = true) := Lib.hid (by rw [HBD.out]; simp [h1])
          go_wp2
          go_quiet (fail)
          go_wp2_with (first
          | (go_at_call 28; refine (CF.out _ _ (HT.out.below (drewN_below wr nq)).ds.st.rd).mono ?_; rintro e w4 ⟨rfl, hs⟩; have HS := Lib.hid (((HT.out.below (drewN_below wr nq)).next (.inl HLT.out) HNE.out.1 HNE.out.2 hs)); clear hs))
          go_roundw
          case rel => exact DCountR.next HLK.out (by rw [HNX.out, HB.out, if_pos rfl]; exact HS.out)
          case measure => have := HLK.out; simp [RowKit.intOf]; omega
        · have h1' : (z < 0) = False := by simp; omega
          by_cases h2 : m < z
          · have HB : Hid (countBad b k = true) := Lib.hid (by rw [HBD.out]; simp [h2])
            have h2' : (m < z) = True := by simp [h2]
            clear h1 h2
            go_wp2
            go_quiet (fail)
            go_wp2_with (first
            | (go_at_call 28; refine (CF.out _ _ (HT.out.below (drewN_below wr nq)).ds.st.rd).mono ?_; rintro e w4 ⟨rfl, hs⟩; have HS := Lib.hid (((HT.out.below (drewN_below wr nq)).next (.inl HLT.out) HNE.out.1 HNE.out.2 hs)); clear hs))
            go_roundw
            case rel => exact DCountR.next HLK.out (by rw [HNX.out, HB.out, if_pos rfl]; exact HS.out)
            case measure => have := HLK.out; simp [RowKit.intOf]; omega
          · have h2' : (m < z) = False := by simp; omega
            by_cases hk0 : k = 0
            · by_cases hz0 : z = 0
              · have HB : Hid (countBad b k = true) := Lib.hid (by rw [HBD.out]; simp [hk0, hz0])
                have hkb : ((k : Int) == 0) = true := by simpa using hk0
                have hzb : (z == 0) = true := by simpa using hz0
                clear h1 h2 hk0 hz0
                go_wp2
                go_quiet (fail)
                go_wp2_with (first
                | (go_at_call 28; refine (CF.out _ _ (HT.out.below (drewN_below wr nq)).ds.st.rd).mono ?_; rintro e w4 ⟨rfl, hs⟩; have HS := Lib.hid (((HT.out.below (drewN_below wr nq)).next (.inl HLT.out) HNE.out.1 HNE.out.2 hs)); clear hs))
                go_roundw
                case rel => exact DCountR.next HLK.out (by rw [HNX.out, HB.out, if_pos rfl]; exact HS.out)
                case measure => have := HLK.out; simp [RowKit.intOf]; omega
              · have HB : Hid (countBad b k = false) := Lib.hid (by rw [HBD.out]; simp [h1, h2, hz0])
                have hkb : ((k : Int) == 0) = true := by simpa using hk0
                have hzb : (z == 0) = false := by simpa using hz0
                clear h1 h2 hk0 hz0
                go_wp2
                go_quiet (fail)
                go_wp2
                go_roundw
                case rel => exact DCountR.next HLK.out (by rw [HNX.out, HB.out, if_neg (by decide)]; exact (HT.out.below (drewN_below wr nq)))
                case measure => have := HLK.out; simp [RowKit.intOf]; omega
            · have HB : Hid (countBad b k = false) := Lib.hid (by rw [HBD.out]; simp [h1, h2, hk0])
              have hkb : ((k : Int) == 0) = false := by simpa using hk0
              clear h1 h2 hk0
              go_wp2
              go_quiet (fail)
              go_wp2
              go_roundw
              case rel => exact DCountR.next HLK.out (by rw [HNX.out, HB.out, if_neg (by decide)]; exact (HT.out.below (drewN_below wr nq)))
              case measure => have := HLK.out; simp [RowKit.intOf]; omega
      · have hk5e : k = 5 := by omega
        have i2 : ¬ (k : Int) < 5 := by omega
        obtain ⟨s5, h5⟩ : ∃ s, countS (countBad b) 2 ⟨12, 0, 0, true⟩ 5 = s := ⟨_, rfl⟩
        rw [hk5e, h5] at hdt
        have H5 := Lib.hid h5
        have hp5 : s5.pos = 12 := by rw [← h5, countS_pos]
        have hw5 : s5.wide = true := by rw [← h5, countS_wide]
        have HZC : Hid (s5.e = 0 → firstBad 5 (countBad b) = none ∧ s5 = ⟨12, 0, 0, true⟩) := Lib.hid (fun he => by rw [← h5] at he; have := count_e0 (s := ⟨12, 0, 0, true⟩) rfl he; exact ⟨this.1, h5 ▸ this.2⟩)
        obtain ⟨q0, hq0⟩ : ∃ q, s5.pos = q := ⟨_, rfl⟩
        have HQ0 := Lib.hid (hq0.symm.trans hp5)
        have P5 := Lib.hid hq0
        have W5 := Lib.hid hw5
        obtain ⟨v0, v1⟩ := short_bd b 2
        obtain ⟨v2, v3⟩ := short_bd b (2 + 2)
        obtain ⟨v4, v5⟩ := short_bd b (2 + 4)
        obtain ⟨v6, v7⟩ := short_bd b (2 + 6)
        obtain ⟨v8, v9⟩ := short_bd b (2 + 8)
        have HZ : Hid (firstBad 5 (countBad b) = none → shortAt b 2 = (cnt b 2 0 : Nat) ∧ shortAt b (2 + 2) = (cnt b 2 1 : Nat) ∧ shortAt b (2 + 4) = (cnt b 2 2 : Nat) ∧ shortAt b (2 + 6) = (cnt b 2 3 : Nat) ∧ shortAt b (2 + 8) = (cnt b 2 4 : Nat) ∧ (1 ≤ cnt b 2 0 ∧ cnt b 2 0 ≤ 512) ∧ cnt b 2 1 ≤ 64 ∧ cnt b 2 2 ≤ 64 ∧ cnt b 2 3 ≤ 512 ∧ cnt b 2 4 ≤ 32767) := Lib.hid (fun hf => by
          obtain ⟨hn, hr⟩ := cnt_bd hf
          exact ⟨cnt_at (hn 0 (by omega)), cnt_at (hn 1 (by omega)), cnt_at (hn 2 (by omega)), cnt_at (hn 3 (by omega)), cnt_at (hn 4 (by omega)), hr⟩)
        have HFE := Lib.hid (fun s6 s7 s8 s9 s10 s11 => @first_error b true s5 s6 s7 s8 s9 s10 s11 HL.out.1 HL.out.2 HW.out h5)
        rw [show shortAt b 4 = shortAt b (2 + 2) from rfl, show shortAt b 6 = shortAt b (2 + 4) from rfl, show shortAt b 8 = shortAt b (2 + 6) from rfl, show shortAt b 10 = shortAt b (2 + 8) from rfl] at HFE
        have CL : Hid (∀ W s P, DS (fun k => k < w.heap.size ∨ k = w.heap.size ∨ k = w.heap.size + 1) w W kb (.slice A b.length cap) b s ka oa bc1 (shortsAt b 2 5) P →
          W.cell? ⟨ka, oa, none⟩ = some (.int .i64 (shortAt b 2)) ∧ W.cell? ⟨ka, oa + 1, none⟩ = some (.int .i64 (shortAt b (2 + 2))) ∧ W.cell? ⟨ka, oa + 2, none⟩ = some (.int .i64 (shortAt b (2 + 4))) ∧ W.cell? ⟨ka, oa + 3, none⟩ = some (.int .i64 (shortAt b (2 + 6))) ∧ W.cell? ⟨ka, oa + 4, none⟩ = some (.int .i64 (shortAt b (2 + 8)))) := Lib.hid (fun W s P h => h.cells)
        generalize shortAt b 2 = z0 at *
        generalize shortAt b (2 + 2) = z1 at *
        generalize shortAt b (2 + 4) = z2 at *
        generalize shortAt b (2 + 6) = z3 at *
        generalize shortAt b (2 + 8) = z4 at *
        obtain ⟨k0, k1, k2, k3, k4⟩ := CL.out _ _ _ hdt.ds
        have HT := Lib.hid hdt
        have HNE : Hid (w.heap.size ≠ kb ∧ w.heap.size + 1 ≠ kb) := Lib.hid (by have := HLT.out; omega)
        clear hk hdt hk5 hk5e h5 hp5 hw5 hq0
        have A1 := trivial
        go_upto_region 24 with (first
          | (go_at_call 75; have _t := A1; (with_reducible refine (dskip_any _ kb _ b s5 z0 HT.out.ds.st.rd (by omega) (by omega) (fun he => by have := (HZ.out (HZC.out he).1); omega)).mono ?_); rw [P5.out]; rintro e w4 ⟨rfl, hs⟩
             obtain ⟨s6, h6⟩ : ∃ s, skipS b.length s5 z0 = s := ⟨_, rfl⟩
             rw [h6] at hs
             have E6 : Hid (s6.e = 0 → s5.e = 0) := Lib.hid (fun he => (skipS_e0 (h6 ▸ he)).1)
             have H6 := Lib.hid h6
             clear A1 h6
             have hx := HT.out.next (.inl HLT.out) HNE.out.1 HNE.out.2 hs
             clear HT k0 k1 k2 k3 k4 hs
             have HT := Lib.hid hx
             obtain ⟨k0, k1, k2, k3, k4⟩ := CL.out _ _ _ hx.ds
             clear hx)
          | (go_at_call 76; (with_reducible refine (dflags_any _ kb _ b s6 z1 HT.out.ds.st.rd (by omega) (by omega) (fun he => by have := (HZ.out (HZC.out (E6.out he)).1); omega)).mono ?_); rintro e w5 ⟨u1, rfl, hr, ho, hs⟩
             obtain ⟨s7, h7⟩ : ∃ s, skipS b.length s6 z1 = s := ⟨_, rfl⟩
             rw [h7] at hs
             have E7 : Hid (s7.e = 0 → s5.e = 0) := Lib.hid (fun he => E6.out (skipS_e0 (h7 ▸ he)).1)
             obtain ⟨L1, hL1⟩ : ∃ l, (if needB b.length s6 z1 = true then flagsAt b s6.pos z1.toNat else []) = l := ⟨_, rfl⟩
             rw [hL1] at hr
             have hln1 : L1.length ≤ 40000 := by rw [← hL1]; exact caps_if_len _ _ _ (by rw [flagsAt_length]; omega)
             obtain ⟨B1, m1, rfl⟩ := hr.form
             have H7 := Lib.hid h7
             have HL1 := Lib.hid hL1
             clear h7 hL1
             have hlt := (Array.getElem?_eq_some_iff.1 HT.out.box).1
             have hx := (HT.out.next (.inl HLT.out) HNE.out.1 HNE.out.2 hs).addCaps (Rob.of_row (T := (fun k => k < w.heap.size ∨ k = w.heap.size ∨ k = w.heap.size + 1)) hr (fun k hk hx => by have := ho k hk; omega) (by omega))
             clear HT k0 k1 k2 k3 k4 hs hr ho hlt
             have HT := Lib.hid hx
             obtain ⟨k0, k1, k2, k3, k4⟩ := CL.out _ _ _ hx.ds
             clear hx)
          | (go_at_call 26; (with_reducible refine (deven_any _ kb _ b s7 HT.out.ds.st.rd).mono ?_); rintro e w6 ⟨rfl, hs⟩
             obtain ⟨s8, h8⟩ : ∃ s, evenS b.length s7 = s := ⟨_, rfl⟩
             rw [h8] at hs
             have E8 : Hid (s8.e = 0 → s5.e = 0) := Lib.hid (fun he => E7.out (evenS_e0 (h8 ▸ he)).1)
             have W8 : Hid (s8.wide = true) := Lib.hid (by rw [← h8, evenS_wide, ← H7.out, skipS_wide, ← H6.out, skipS_wide]; exact W5.out)
             have H8 := Lib.hid h8
             clear h8
             have hx := HT.out.next (.inl HLT.out) HNE.out.1 HNE.out.2 hs
             clear HT k0 k1 k2 k3 k4 hs
             have HT := Lib.hid hx
             obtain ⟨k0, k1, k2, k3, k4⟩ := CL.out _ _ _ hx.ds
             clear hx)
          | (go_at_call 77; (with_reducible refine (dnums_any _ kb _ b s8 z2 HT.out.ds.st.rd (by omega) (by omega) (fun he => by have := (HZ.out (HZC.out (E8.out he)).1); omega)).mono ?_); unfold DNumsPost; rw [W8.out]; rintro e w7 ⟨u2, rfl, hr, ho, hs⟩
             obtain ⟨s9, h9⟩ : ∃ s, skipS b.length s8 (z2 * (sizeOf true : Nat)) = s := ⟨_, rfl⟩
             rw [h9] at hs
             have E9 : Hid (s9.e = 0 → s5.e = 0) := Lib.hid (fun he => E8.out (skipS_e0 (h9 ▸ he)).1)
             obtain ⟨L2, hL2⟩ : ∃ l, (if needB b.length s8 (z2 * (sizeOf true : Nat)) = true then (numsAt true b s8.pos z2.toNat).map capOfNum else []) = l := ⟨_, rfl⟩
             rw [hL2] at hr
             have hln2 : L2.length ≤ 40000 := by rw [← hL2]; exact caps_if_len _ _ _ (by rw [List.length_map, numsAt_length]; omega)
             obtain ⟨B2, m2, rfl⟩ := hr.form
             obtain ⟨q9, hq9⟩ : ∃ q, s9.pos = q := ⟨_, rfl⟩
             have H9 := Lib.hid h9
             have HL2 := Lib.hid hL2
             have P9 := Lib.hid hq9
             have A2 := trivial
             clear h9 hL2 hq9
             have hlt := (Array.getElem?_eq_some_iff.1 HT.out.box).1
             have hx := (HT.out.next (.inl HLT.out) HNE.out.1 HNE.out.2 hs).addCaps (Rob.of_row (T := (fun k => k < w.heap.size ∨ k = w.heap.size ∨ k = w.heap.size + 1)) hr (fun k hk hx => by have := ho k hk; omega) (by omega))
             clear HT k0 k1 k2 k3 k4 hs hr ho hlt
             have HT := Lib.hid hx
             obtain ⟨k0, k1, k2, k3, k4⟩ := CL.out _ _ _ hx.ds
             clear hx)
          | (go_at_call 75; have _t := A2; (with_reducible refine (dskip_any _ kb _ b s9 (2 * z3) HT.out.ds.st.rd (by omega) (by omega) (fun he => by have := (HZ.out (HZC.out (E9.out he)).1); omega)).mono ?_); rw [P9.out]; rintro e w8 ⟨rfl, hs⟩
             obtain ⟨s10, h10⟩ : ∃ s, skipS b.length s9 (2 * z3) = s := ⟨_, rfl⟩
             rw [h10] at hs
             have E10 : Hid (s10.e = 0 → s5.e = 0) := Lib.hid (fun he => E9.out (skipS_e0 (h10 ▸ he)).1)
             obtain ⟨q10, hq10⟩ : ∃ q, s10.pos = q := ⟨_, rfl⟩
             have H10 := Lib.hid h10
             have P10 := Lib.hid hq10
             have A3 := trivial
             clear A2 h10 hq10
             have hx := HT.out.next (.inl HLT.out) HNE.out.1 HNE.out.2 hs
             clear HT k0 k1 k2 k3 k4 hs
             have HT := Lib.hid hx
             obtain ⟨k0, k1, k2, k3, k4⟩ := CL.out _ _ _ hx.ds
             clear hx)
          | (go_at_call 75; have _t := A3; (with_reducible refine (dskip_any _ kb _ b s10 z4 HT.out.ds.st.rd (by omega) (by omega) (fun he => by have := (HZ.out (HZC.out (E10.out he)).1); omega)).mono ?_); rw [P10.out]; rintro e w9 ⟨rfl, hs⟩
             obtain ⟨s11, h11⟩ : ∃ s, skipS b.length s10 z4 = s := ⟨_, rfl⟩
             rw [h11] at hs
             have H11 := Lib.hid h11
             clear A3 h11
             have hx := HT.out.next (.inl HLT.out) HNE.out.1 HNE.out.2 hs
             clear HT k0 k1 k2 k3 k4 hs
             have HT := Lib.hid hx
             obtain ⟨k0, k1, k2, k3, k4⟩ := CL.out _ _ _ hx.ds
             clear hx))
        have hT := HT.out
        obtain ⟨c0, -, c2, -, -, -, -, -, -, -⟩ := hT.ds.st.rd.cells
        clear HX
        by_cases he : s11.e = 0
        · obtain ⟨a5, r6, b6, r7, r8, b8, r9, r10, r11⟩ := sect1_e0 H6.out H7.out H8.out H9.out H10.out H11.out he
          obtain ⟨hf, h5'⟩ := HZC.out a5
          obtain ⟨y0, y1, y2, y3, y4, ⟨u0, u0'⟩, u1, u2, u3, u4⟩ := HZ.out hf
          have hq0 := HQ0.out
          have p6 : s6.pos = 12 + cnt b 2 0 := by rw [r6, h5', y0]; simp
          have p7 : s7.pos = 12 + cnt b 2 0 + cnt b 2 1 := by rw [r7, y1]; simp [p6]
          have p8 : s8.pos = evenUp (12 + cnt b 2 0 + cnt b 2 1) := by rw [r8]; simp [p7]
          have p9 : q9 = evenUp (12 + cnt b 2 0 + cnt b 2 1) + cnt b 2 2 * sizeOf true := by rw [← P9.out, r9, y2]; simp only [p8]; rw [← Int.natCast_mul, Int.toNat_natCast]
          have p10 : q10 = q9 + cnt b 2 3 * 2 := by rw [← P10.out, r10, y3, ← P9.out]; simp; omega
          have hlay : lay1 true (cnt b 2) = ⟨12 + cnt b 2 0, evenUp (12 + cnt b 2 0 + cnt b 2 1), q9, q10, q10 + cnt b 2 4⟩ := by rw [lay1_eq, p10, p9]
          have hep : 12 + cnt b 2 0 ≤ q9 := by rw [p9]; exact Nat.le_trans (Nat.le_trans (by omega) (evenUp_le (12 + cnt b 2 0 + cnt b 2 1))) (Nat.le_add_right _ _)
          have hs11 : s11 = ⟨q10 + cnt b 2 4, 0, 0, true⟩ := by
            rw [r11, y4, ← P10.out, r10, r9, r8, r7, r6, h5']; simp
          have hfin : q10 + cnt b 2 4 ≤ b.length := by have := hT.ds.st.rd.pos; rw [hs11] at this; exact this
          have hl1 : L1 = flagsAt b (12 + cnt b 2 0) (cnt b 2 1) := by rw [← HL1.out, if_pos b6, p6, y1, Int.toNat_natCast]
          have hl2 : L2 = (numsAt true b (evenUp (12 + cnt b 2 0 + cnt b 2 1)) (cnt b 2 2)).map capOfNum := by rw [← HL2.out, if_pos b8, p8, y2, Int.toNat_natCast]
          clear r6 r7 r8 r9 r10 r11 b6 b8 a5 h5' p6 p7 p8 p9 HFE HZ HZC H5 H6 H7 H8 H9 H10 H11 HL1 HL2 E6 E7 E8 E9 E10 W8 P5 P9 P10 W5
          subst y0 y1 y2 y3 y4
          obtain ⟨is, his⟩ : ∃ l, shortsAt b q9 (cnt b 2 3) = l := ⟨_, rfl⟩
          obtain ⟨tab, htab⟩ : ∃ l, part b q10 (cnt b 2 4) = l := ⟨_, rfl⟩
          obtain ⟨nms, hnms⟩ : ∃ l, part b 12 (cnt b 2 0) = l := ⟨_, rfl⟩
          have hE5 := @readFirst_e5 b true HL.out.1 HL.out.2 hf HW.out
          have hE6 := fun i => @readFirst_e6 b true i HL.out.1 HL.out.2 hf HW.out
          have hE7 := @readFirst_ok b true HL.out.1 HL.out.2 hf HW.out
          rw [hlay] at hE5 hE6 hE7
          simp only [his, htab, hnms] at hE5 hE6 hE7
          rw [← hl1, ← hl2] at hE7
          have hnl : ¬ b.length < q10 + cnt b 2 4 := by omega
          have HE5 := Lib.hid (hE5 hnl)
          have HE6 := Lib.hid (fun i => hE6 i hnl)
          have HE7 := Lib.hid (hE7 hnl)
          have hnlen : nms.length = cnt b 2 0 := by rw [← hnms]; exact part_length b (by omega)
          have hbb := hT.ds.st.rd.big
          obtain ⟨hbc, _⟩ := hT.ds.st.rd.val.size
          have hsl : ∀ W, (Instr.slice 22 (.slice A b.length cap) (some (.int .i64 q0)) (some (.int .i64 ((q0 : Int) + ((cnt b 2 0 : Nat) : Int)))) none).run Tryz.prog W = .ok (.slice (tailA A cap q0 1) (cnt b 2 0) (cap - q0)) W := fun W => by
            have := slice_both (P := Tryz.prog) 22 5 Tryz.underlying22 1 size_u8 A b.length cap q0 (q0 + cnt b 2 0) (by omega) (by omega) W
            rw [show q0 + cnt b 2 0 - q0 = cnt b 2 0 by omega] at this
            exact_mod_cast this
          have hcv : ∀ N, (convert 22 9 (.slice (tailA A cap q0 1) (cnt b 2 0) (cap - q0))).run Tryz.prog (w9.drewN N) = .ok (str nms) (w9.drewN N) := fun N => by
            have := ((hT.ds.st.rd.val.below (drewN_below w9 N)).part (p := q0) (m := cnt b 2 0) (by omega)).text
            rw [hq0, hnms] at this
            rw [hq0]; exact this
          have CI := Lib.hid (fun W => indexByte_any nms W)
          have HNB : Hid (namesBad nms = !(decide (1 < nms.length) && indexByte nms 0 == (nms.length : Int) - 1)) := Lib.hid rfl
          have CT : Hid (∀ W, DrAt W kb (.slice A b.length cap) b ⟨q10 + cnt b 2 4, 0, 0, true⟩ → Calls Tryz.prog 79 #[.pointer (some ⟨kb, 0, none⟩), str tab, .int .i64 q9, .int .i64 (cnt b 2 3 : Nat)] W (DTakenPost W kb (.slice A b.length cap) b ⟨q10 + cnt b 2 4, 0, 0, true⟩ q9 tab is)) := Lib.hid (fun W hW => by have := dtaken_any W kb _ b _ tab q9 (cnt b 2 3) hW rfl (by rw [← htab, part_length b (by omega)]; omega) (by omega) (by omega); rwa [his] at this)
          have HIS : Hid (shortsAt b q9 (cnt b 2 3) = is ∧ part b q10 (cnt b 2 4) = tab ∧ is.length = cnt b 2 3) := Lib.hid ⟨his, htab, by rw [← his, shorts_length]⟩
          have HQ := Lib.hid (And.intro hq0 (And.intro hfin (And.intro p10 (And.intro u0 (And.intro hnlen hep)))))
          have HU3 := Lib.hid u3
          rw [hs11] at hT c2
          have HT := Lib.hid hT
          have HBB := Lib.hid (And.intro hbb hbc)
          have i3 : ((cnt b 2 0 : Nat) : Int) ≤ 512 := by omega
          have i4 : (q0 : Int) + ((cnt b 2 0 : Nat) : Int) ≤ (b.length : Int) := by omega
          have i5 : (b.length : Int) ≤ 140737488351232 := by omega
          have i6 : (0 : Int) ≤ ((cnt b 2 0 : Nat) : Int) := by omega
          have i7 : ((cnt b 2 4 : Nat) : Int) ≤ 32767 := by omega
          have i8 : (q10 : Int) + ((cnt b 2 4 : Nat) : Int) ≤ (b.length : Int) := by omega
          clear hnlen he hq0 hf hlay hs11 hfin hl1 hl2 his htab hnms hE5 hE6 hE7 hnl hep hbb hbc p10 u0 u0' u1 u2 u3 u4 hT
          go_wp2
          go_quiet (fail)
          have hT2 := HT.out.below (drewN_below w9 nq)
          clear HT k0 k1 k2 k3 k4 c0 c2 hcv
          generalize w9.drewN nq = w10 at *
          have HT := Lib.hid hT2
          clear hT2
          obtain ⟨ix, hix⟩ : ∃ z, indexByte nms 0 = z := ⟨_, rfl⟩
          rw [hix] at CI HNB
          have hn1 : 1 ≤ nms.length := by have := HQ.out; omega
          have i9 : 1 ≤ (nms.length : Int) := by omega
          have i10 : (nms.length : Int) ≤ 512 := by have := HQ.out.2.2.2.2.1; omega
          clear hix
          rcases Bool.eq_false_or_eq_true (namesBad nms) with hnb | hnb
          · have HBN := Lib.hid (HE5.out hnb)
            by_cases hxe : ix = (nms.length : Int) - 1
            · have hA : (ix != (nms.length : Int) - 1) = false := by simp [hxe]
              have hB : ((nms.length : Int) == 1) = true := by
                rw [HNB.out] at hnb
                simp [hxe] at hnb
                simp; omega
              clear hxe hn1 hnb
              clear HNB HE5
              go_wp2_with (first
                | (go_at_call 78; refine (CI.out _).mono ?_; rintro e w' ⟨rfl, rfl⟩)
                | (go_at_call 28; refine (dfail_any _ kb _ b _ 33 q0 HT.out.ds.st.rd).mono ?_; rw [failS_ok rfl]; rintro e w11 ⟨rfl, hs⟩
                   have hx := HT.out.next (.inl HLT.out) HNE.out.1 HNE.out.2 hs
                   clear HT hs
                   have HT := Lib.hid hx
                   obtain ⟨b0, b1, b2, b3, b4, b5, f0, f1, f2, f3, f4, f5⟩ := hx.cells
                   obtain ⟨z0', z1', z2', z3', z4', z5', y0, y1, y2, y3, y4, y5⟩ := termZero_facts hx.res
                   clear hx))
              have HX := DFirstPost.bad ⟨HT.out.ds.st, HT.out.box, HT.out.res⟩ H0.out (Nat.le_refl _) HNE.out.1 HBN.out rfl HQ.out.1 (by decide)
              have hres := stored_at HT.out.res [] true [] [] [] [] (.slice none 0 0) (.slice none 0 0) (.slice none 0 0) (.slice none 0 0)
              change bodyPost _ _ _ _ _ (storeTerm w11 w.heap.size ⟨[], true, [], [], [], []⟩ (tri (.slice none 0 0) (.slice none 0 0) (.slice none 0 0)) (.slice none 0 0))
              generalize storeTerm w11 w.heap.size ⟨[], true, [], [], [], []⟩ (tri (.slice none 0 0) (.slice none 0 0) (.slice none 0 0)) (.slice none 0 0) = W' at *
              exact bodyPost_ret (by simp [results, Tryz.results25, go_sem, hres]) rfl HX
            · have hA : (ix != (nms.length : Int) - 1) = true := by simpa using hxe
              clear hxe hn1 hnb
              clear HNB HE5
              go_wp2_with (first
                | (go_at_call 78; refine (CI.out _).mono ?_; rintro e w' ⟨rfl, rfl⟩)
                | (go_at_call 28; refine (dfail_any _ kb _ b _ 33 q0 HT.out.ds.st.rd).mono ?_; rw [failS_ok rfl]; rintro e w11 ⟨rfl, hs⟩
                   have hx := HT.out.next (.inl HLT.out) HNE.out.1 HNE.out.2 hs
                   clear HT hs
                   have HT := Lib.hid hx
                   obtain ⟨b0, b1, b2, b3, b4, b5, f0, f1, f2, f3, f4, f5⟩ := hx.cells
                   obtain ⟨z0', z1', z2', z3', z4', z5', y0, y1, y2, y3, y4, y5⟩ := termZero_facts hx.res
                   clear hx))
              have HX := DFirstPost.bad ⟨HT.out.ds.st, HT.out.box, HT.out.res⟩ H0.out (Nat.le_refl _) HNE.out.1 HBN.out rfl HQ.out.1 (by decide)
              have hres := stored_at HT.out.res [] true [] [] [] [] (.slice none 0 0) (.slice none 0 0) (.slice none 0 0) (.slice none 0 0)
              change bodyPost _ _ _ _ _ (storeTerm w11 w.heap.size ⟨[], true, [], [], [], []⟩ (tri (.slice none 0 0) (.slice none 0 0) (.slice none 0 0)) (.slice none 0 0))
              generalize storeTerm w11 w.heap.size ⟨[], true, [], [], [], []⟩ (tri (.slice none 0 0) (.slice none 0 0) (.slice none 0 0)) (.slice none 0 0) = W' at *
              exact bodyPost_ret (by simp [results, Tryz.results25, go_sem, hres]) rfl HX
          · have hxe : ix = (nms.length : Int) - 1 ∧ 1 < nms.length := by
              rw [HNB.out] at hnb
              simp at hnb
              exact ⟨hnb.2, hnb.1⟩
            have hA : (ix != (nms.length : Int) - 1) = false := by simp [hxe.1]
            have hB : ((nms.length : Int) == 1) = false := by simp; omega
            have HNBF := Lib.hid hnb
            have i11 : ((nms.length : Int) - 1).toNat = nms.length - 1 := by omega
            have hts := take_str nms (nms.length - 1)
            clear hxe hn1 hnb HE5 HNB
            obtain ⟨b0, b1, b2, b3, b4, b5, f0, f1, f2, f3, f4, f5⟩ := HT.out.cells
            go_upto_region 31 with (first
              | (go_at_call 78; refine (CI.out _).mono ?_; rintro e w' ⟨rfl, rfl⟩))
            have hx := ((HT.out.set (j := 0) (x := str (nms.take (nms.length - 1))) H0.out (.inr (.inr rfl)) (by omega) HNE.out.2 (by omega) rfl).set (j := 2) (x := .slice B1 L1.length m1) H0.out (.inr (.inr rfl)) (by omega) HNE.out.2 (by omega) rfl).set (j := 3) (x := .slice B2 L2.length m2) H0.out (.inr (.inr rfl)) (by omega) HNE.out.2 (by omega) rfl
            clear HT b0 b1 b2 b3 b4 b5 f0 f1 f2 f3 f4 f5 hA hB hts i11 i9
            generalize ((w10.setCell ⟨w.heap.size + 1, 0, none⟩ (str (nms.take (nms.length - 1)))).setCell ⟨w.heap.size + 1, 2, none⟩ (.slice B1 L1.length m1)).setCell ⟨w.heap.size + 1, 3, none⟩ (.slice B2 L2.length m2) = w11 at *
            obtain ⟨nm, hnm⟩ : ∃ l, nms.take (nms.length - 1) = l := ⟨_, rfl⟩
            rw [hnm] at hx
            have HNM := Lib.hid hnm
            have HT := Lib.hid hx
            obtain ⟨k0, k1, k2, k3, k4⟩ := CL.out _ _ _ hx.ds
            obtain ⟨c0, -, c2, -, -, -, -, -, -, -⟩ := hx.ds.st.rd.cells
            have hsl2 : ∀ W, (Instr.slice 22 (.slice A b.length cap) (some (.int .i64 q10)) (some (.int .i64 ((q10 : Int) + ((cnt b 2 4 : Nat) : Int)))) none).run Tryz.prog W = .ok (.slice (tailA A cap q10 1) (cnt b 2 4) (cap - q10)) W := fun W => by
              have := slice_both (P := Tryz.prog) 22 5 Tryz.underlying22 1 size_u8 A b.length cap q10 (q10 + cnt b 2 4) (by omega) (by have := HBB.out; have := HQ.out; omega) W
              rw [show q10 + cnt b 2 4 - q10 = cnt b 2 4 by omega] at this
              exact_mod_cast this
            have HCV : Hid (∀ W, BytesV W (.slice A b.length cap) b → (convert 22 9 (.slice (tailA A cap q10 1) (cnt b 2 4) (cap - q10))).run Tryz.prog W = .ok (str tab) W) := Lib.hid fun W hW => by
              have := (hW.part (p := q10) (m := cnt b 2 4) (by have := HQ.out; omega)).text
              rw [HIS.out.2.1] at this
              exact this
            clear hx hnm hsl
            have HHX := Lib.hid (HT.out.below ((Below.refl _ w11).drew))
            have hwr : IntKind.i64.wrap ((q10 : Int) + ((cnt b 2 4 : Nat) : Int)) = (q10 : Int) + ((cnt b 2 4 : Nat) : Int) := IntWalk.i64_in _ (by omega)
            have n1 : ka ≠ w.heap.size + 1 := by have := HRD0.out; omega
            have n2 : kb ≠ w.heap.size + 1 := fun e => HNE.out.2 e.symm
            have hcv3 : (convert 22 9 (.slice (tailA A cap q10 1) (cnt b 2 4) (cap - q10))).run Tryz.prog w11.drew = .ok (str tab) w11.drew := HCV.out _ HHX.out.ds.st.rd.val
            have hcv0 := HCV.out _ HT.out.ds.st.rd.val
            cases hfb : firstBad (cnt b 2 3) (textBad tab is) with
            | some i =>
              have CT2 : Hid (Calls Tryz.prog 79 #[.pointer (some ⟨kb, 0, none⟩), str tab, .int .i64 q9, .int .i64 (cnt b 2 3 : Nat)] w11.drew fun e w' => (∃ A m c z, e = .returned (.tuple #[.slice A m c, .int .i64 z])) ∧ DStep w11.drew kb (.slice A b.length cap) b ⟨q10 + cnt b 2 4, 33, q9 + 2 * i, true⟩ w') := Lib.hid ((CT.out _ HHX.out.ds.st.rd).mono fun e w' h => by unfold DTakenPost at h; rw [HIS.out.2.2, hfb] at h; exact h)
              have HRE := Lib.hid (HE6.out i HNBF.out hfb)
              clear hfb
              go_region_held3 (fun w' => w'.cell? ⟨kb, 0, none⟩ = some (.slice A b.length cap) ∧ w'.cell? ⟨ka, oa + 4, none⟩ = some (.int .i64 ((cnt b 2 4 : Nat) : Int)) ∧ w'.cell? ⟨ka, oa + 3, none⟩ = some (.int .i64 ((cnt b 2 3 : Nat) : Int)) ∧ (convert 22 9 (.slice (tailA A cap q10 1) (cnt b 2 4) (cap - q10))).run Tryz.prog w' = .ok (str tab) w') (first | go_keep | (refine ⟨?_, ?_, ?_, ?_⟩ <;> assumption)) (first
                | (go_at_call 79; refine (CT2.out).mono ?_; rintro e w12 ⟨⟨A5, m5, c5, z5, rfl⟩, hs⟩; have hx := HHX.out.next (.inl HLT.out) HNE.out.1 HNE.out.2 hs; obtain ⟨-, -, -, -, g4, -, -, -, -, -, e4, -⟩ := hx.cells; have hx5 := (hx.set (j := 4) (x := .slice A5 m5 c5) H0.out (.inr (.inr rfl)) (by omega) HNE.out.2 (by omega) rfl); have c0' := hx.ds.st.rd.cells.1; obtain ⟨-, -, -, k3', k4'⟩ := CL.out _ _ _ hx.ds; have c0'' := hx5.ds.st.rd.cells.1; obtain ⟨-, -, -, k3'', k4''⟩ := CL.out _ _ _ hx5.ds; have hcv4 := HCV.out _ hx.ds.st.rd.val; have hcv5 := HCV.out _ hx5.ds.st.rd.val; have HX5 := Lib.hid hx5; clear hx hs hx5))
              clear c0 c2 k0 k1 k2 k3 k4 c0' k3' k4' g4 e4 c0'' k3'' k4'' hcv0 hcv3 hcv4 hcv5
              have HX5 := HX5.out
              generalize w12.setCell ⟨w.heap.size + 1, 4, none⟩ (.slice A5 m5 c5) = w13 at *
              obtain ⟨b0, b1, b2, b3, b4, b5, f0, f1, f2, f3, f4, f5⟩ := HX5.cells
              obtain ⟨z0', z1', z2', z3', z4', z5', y0, y1, y2, y3, y4, y5⟩ := termZero_facts HX5.res
              have HXB := DFirstPost.bad ⟨HX5.ds.st, HX5.box, HX5.res⟩ H0.out (Nat.le_refl _) HNE.out.1 HRE.out rfl rfl (by decide)
              have HXB := Lib.hid HXB
              have HX6 := Lib.hid HX5
              clear HX5
              go_wp2
              have HXB := HXB.out
              have HX5 := HX6.out
              have hres := stored_at HX5.res nm true [] [] [] [] (.slice B1 L1.length m1) (.slice B2 L2.length m2) (.slice A5 m5 c5) (.slice none 0 0)
              change bodyPost _ _ _ _ _ (storeTerm w13 w.heap.size ⟨nm, true, [], [], [], []⟩ (tri (.slice B1 L1.length m1) (.slice B2 L2.length m2) (.slice A5 m5 c5)) (.slice none 0 0))
              generalize storeTerm w13 w.heap.size ⟨nm, true, [], [], [], []⟩ (tri (.slice B1 L1.length m1) (.slice B2 L2.length m2) (.slice A5 m5 c5)) (.slice none 0 0) = W' at *
              exact bodyPost_ret (by simp [results, Tryz.results25, go_sem, hres]) rfl HXB
            | none =>
              obtain ⟨TX, hTX⟩ : ∃ l, textsOf tab is = l := ⟨_, rfl⟩
              have htl : TX.length ≤ 512 := by rw [← hTX]; unfold textsOf; rw [List.length_map, HIS.out.2.2]; exact HU3.out
              have CT2 : Hid (Calls Tryz.prog 79 #[.pointer (some ⟨kb, 0, none⟩), str tab, .int .i64 q9, .int .i64 (cnt b 2 3 : Nat)] w11.drew fun e w' => (∃ A c z, e = .returned (.tuple #[.slice A TX.length c, .int .i64 z]) ∧ CapRow w' (.slice A TX.length c) TX ∧ ∀ k, (Value.slice A TX.length c).ownBlock = some k → w11.drew.heap.size ≤ k) ∧ DStep w11.drew kb (.slice A b.length cap) b ⟨q10 + cnt b 2 4, 0, 0, true⟩ w') := Lib.hid ((CT.out _ HHX.out.ds.st.rd).mono fun e w' h => by
                unfold DTakenPost at h
                rw [HIS.out.2.2, hfb, hTX] at h
                obtain ⟨u, rfl, hr, ho, hs⟩ := h
                obtain ⟨A5, c5, rfl⟩ := hr.form
                exact ⟨⟨A5, c5, _, rfl, hr, ho⟩, hs⟩)
              have HRE := Lib.hid (HE7.out HNBF.out hfb)
              rw [hTX, show nms.take (cnt b 2 0 - 1) = nm by rw [← HNM.out, HQ.out.2.2.2.2.1]] at HRE
              clear hfb hTX
              go_region_held3 (fun w' => w'.cell? ⟨kb, 0, none⟩ = some (.slice A b.length cap) ∧ w'.cell? ⟨ka, oa + 4, none⟩ = some (.int .i64 ((cnt b 2 4 : Nat) : Int)) ∧ w'.cell? ⟨ka, oa + 3, none⟩ = some (.int .i64 ((cnt b 2 3 : Nat) : Int)) ∧ (convert 22 9 (.slice (tailA A cap q10 1) (cnt b 2 4) (cap - q10))).run Tryz.prog w' = .ok (str tab) w') (first | go_keep | (refine ⟨?_, ?_, ?_, ?_⟩ <;> assumption)) (first
                | (go_at_call 79; refine (CT2.out).mono ?_; rintro e w12 ⟨⟨A5, c5, z5, rfl, hr, ho⟩, hs⟩; have hlt5 := (Array.getElem?_eq_some_iff.1 HHX.out.box).1; have hx := (HHX.out.next (.inl HLT.out) HNE.out.1 HNE.out.2 hs).addCaps (Rob.of_row (T := (fun k => k < w.heap.size ∨ k = w.heap.size ∨ k = w.heap.size + 1)) hr (fun k hk hx => by have := ho k hk; omega) (by omega)); obtain ⟨-, -, -, -, g4, -, -, -, -, -, e4, -⟩ := hx.cells; have hx5 := (hx.set (j := 4) (x := .slice A5 TX.length c5) H0.out (.inr (.inr rfl)) (by omega) HNE.out.2 (by omega) rfl); have c0' := hx.ds.st.rd.cells.1; obtain ⟨-, -, -, k3', k4'⟩ := CL.out _ _ _ hx.ds; have c0'' := hx5.ds.st.rd.cells.1; obtain ⟨-, -, -, k3'', k4''⟩ := CL.out _ _ _ hx5.ds; have hcv4 := HCV.out _ hx.ds.st.rd.val; have hcv5 := HCV.out _ hx5.ds.st.rd.val; have HX5 := Lib.hid hx5; clear hx hs hx5 hr ho hlt5))
              clear c0 c2 k0 k1 k2 k3 k4 c0' k3' k4' g4 e4 c0'' k3'' k4'' hcv0 hcv3 hcv4 hcv5
              have HX5 := HX5.out
              generalize w12.setCell ⟨w.heap.size + 1, 4, none⟩ (.slice A5 TX.length c5) = w13 at *
              obtain ⟨b0, b1, b2, b3, b4, b5, f0, f1, f2, f3, f4, f5⟩ := HX5.cells
              obtain ⟨z0', z1', z2', z3', z4', z5', y0, y1, y2, y3, y4, y5⟩ := termZero_facts HX5.res
              have HXB := DFirstPost.ok HX5 H0.out (Nat.le_refl _) HNE.out.1 (fun k hk => .inl hk) (.inr (.inl rfl)) HRE.out (RobT.mk4 (fun W' h => (HX5.ds.bag W' h).1.1.2) (fun W' h => (HX5.ds.bag W' h).1.2) (fun W' h => (HX5.ds.bag W' h).2) (fun W' _ => extsV_nil W'))
              have HXB := Lib.hid HXB
              have HX6 := Lib.hid HX5
              clear HX5
              go_wp2
              have HXB := HXB.out
              have HX5 := HX6.out
              have hres := stored_at HX5.res nm true [] [] [] [] (.slice B1 L1.length m1) (.slice B2 L2.length m2) (.slice A5 TX.length c5) (.slice none 0 0)
              change bodyPost _ _ _ _ _ (storeTerm w13 w.heap.size ⟨nm, true, [], [], [], []⟩ (tri (.slice B1 L1.length m1) (.slice B2 L2.length m2) (.slice A5 TX.length c5)) (.slice none 0 0))
              generalize storeTerm w13 w.heap.size ⟨nm, true, [], [], [], []⟩ (tri (.slice B1 L1.length m1) (.slice B2 L2.length m2) (.slice A5 TX.length c5)) (.slice none 0 0) = W' at *
              exact bodyPost_ret (by simp [results, Tryz.results25, go_sem, hres]; exact ⟨rfl, rfl, rfl⟩) rfl HXB
        · have hb : (s11.e != 0) = true := by simpa using he
          obtain ⟨q, er, hr1, hr2, hr3, hr4⟩ := HFE.out _ _ _ _ _ _ H6.out H7.out H8.out H9.out H10.out H11.out he
          have HR := Lib.hid (And.intro hr1 (And.intro hr2 (And.intro hr3 hr4)))
          obtain ⟨b0, b1, b2, b3, b4, b5, f0, f1, f2, f3, f4, f5⟩ := hT.cells
          obtain ⟨z0', z1', z2', z3', z4', z5', y0, y1, y2, y3, y4, y5⟩ := termZero_facts hT.res
          have HX := DFirstPost.bad ⟨hT.ds.st, hT.box, hT.res⟩ H0.out (Nat.le_refl _) HNE.out.1 HR.out.1 HR.out.2.1 HR.out.2.2.1 HR.out.2.2.2
          have HX := Lib.hid HX
          clear he hr1 hr2 hr3 hr4 hT HFE
          generalize s11.e = e11 at *
          go_wp2
          have HX := HX.out
          have hres := stored_at HT.out.res [] true [] [] [] [] (.slice none 0 0) (.slice none 0 0) (.slice none 0 0) (.slice none 0 0)
          change bodyPost _ _ _ _ _ (storeTerm w9 w.heap.size ⟨[], true, [], [], [], []⟩ (tri (.slice none 0 0) (.slice none 0 0) (.slice none 0 0)) (.slice none 0 0))
          generalize storeTerm w9 w.heap.size ⟨[], true, [], [], [], []⟩ (tri (.slice none 0 0) (.slice none 0 0) (.slice none 0 0)) (.slice none 0 0) = W' at *
          exact bodyPost_ret (by simp [results, Tryz.results25, go_sem, hres]) rfl HX
theorem dfirst_any (w : World) (kb : Nat) (A : Option Addr) (cap : Nat) (b : List UInt8) (h : DrAt w kb (.slice A b.length cap) b ⟨0, 0, 0, false⟩) :
    Calls Tryz.prog 25 #[.pointer (some ⟨kb, 0, none⟩)] w (DFirstPost w kb (.slice A b.length cap) b) := by
  by_cases hl : b.length < 12
  · exact dfirst_short w kb A cap b h hl
  · by_cases hm : shortAt b 0 ≠ 282 ∧ shortAt b 0 ≠ 542
    · exact dfirst_magic w kb A cap b h hl hm
    · exact dfirst_long w kb A cap b h hl hm
end Go.Proofs.YtcfgppjhgobboaaGreatDoor
