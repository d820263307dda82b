/-
  What the document's own Cells returns, for every slice of runes and every column; slices.Equal at equal cells.
-/
import Derived.Test.YtalfodcjpnjmaaaDoorBytes
import Derived.Test.YtalfodcjpnjmaaaDoorCells
import Derived.Laws.BytesArg
import Derived.Deep.QuietTactic
import Derived.BigQuiet
namespace Go.Proofs.YtalfodcjpnjmaaaDoor
open Go.RowKit

theorem enc_bytes (r : Int) : Utf8.encode r = ⟨(Lib.encodeRune r).toArray⟩ := by
  have hval : Utf8.valid r = decide (0 ≤ r ∧ r < 55296 ∨ 57343 < r ∧ r ≤ 1114111) := by
    rw [Bool.eq_iff_iff]
    simp [Utf8.valid]
    omega
  unfold Utf8.encode
  rw [hval]
  by_cases hv : 0 ≤ r ∧ r < 55296 ∨ 57343 < r ∧ r ≤ 1114111
  · have hd : decide (0 ≤ r ∧ r < 55296 ∨ 57343 < r ∧ r ≤ 1114111) = true := by simpa using hv
    obtain ⟨m, rfl⟩ := Int.eq_ofNat_of_zero_le (show 0 ≤ r by omega)
    simp only [hd, if_true, Int.toNat_natCast]
    rcases (show m < 128 ∨ (128 ≤ m ∧ m < 2048) ∨ (2048 ≤ m ∧ m < 65536) ∨ (65536 ≤ m ∧ m ≤ 1114111) by omega) with g | ⟨g0, g⟩ | ⟨g0, g⟩ | ⟨g0, g⟩
    · rw [if_pos g, Lib.encodeRune, Lib.encodeRuneZ_one (by omega) (by omega)]
      simp
    · rw [if_neg (by omega), if_pos g, Lib.encodeRune, Lib.encodeRuneZ_two (by omega) (by omega)]
      have e1 : (192 + (m : Int) / 64).toNat = 192 + m / 64 := by omega
      have e2 : (128 + (m : Int) % 64).toNat = 128 + m % 64 := by omega
      simp [e1, e2]
    · rw [if_neg (by omega), if_neg (by omega), if_pos g, Lib.encodeRune, Lib.encodeRuneZ_three (by omega)]
      have e1 : (224 + (m : Int) / 4096).toNat = 224 + m / 4096 := by omega
      have e2 : (128 + (m : Int) / 64 % 64).toNat = 128 + m / 64 % 64 := by omega
      have e3 : (128 + (m : Int) % 64).toNat = 128 + m % 64 := by omega
      simp [e1, e2, e3]
    · rw [if_neg (by omega), if_neg (by omega), if_neg (by omega), Lib.encodeRune, Lib.encodeRuneZ_four (by omega) (by omega)]
      have e1 : (240 + (m : Int) / 262144).toNat = 240 + m / 262144 := by omega
      have e2 : (128 + (m : Int) / 4096 % 64).toNat = 128 + m / 4096 % 64 := by omega
      have e3 : (128 + (m : Int) / 64 % 64).toNat = 128 + m / 64 % 64 := by omega
      have e4 : (128 + (m : Int) % 64).toNat = 128 + m % 64 := by omega
      simp [e1, e2, e3, e4]
  · have hd : decide (0 ≤ r ∧ r < 55296 ∨ 57343 < r ∧ r ≤ 1114111) = false := by simpa using hv
    rw [hd, Lib.encodeRune, Lib.encodeRuneZ_bad (by omega)]
    simp only [Bool.false_eq_true, if_false, Utf8.runeError]
    rfl

theorem strOf_bytes (l : List UInt8) : strOfNums (l.map fun x => (x.toNat : Int)) = ⟨l.toArray⟩ := by
  have e : ((l.map fun x => (x.toNat : Int)).map fun n => UInt8.ofNat n.toNat) = l := by
    induction l with
    | nil => rfl
    | cons x l ih => simp only [List.map_cons, ih, Int.toNat_natCast, UInt8.ofNat_toNat]
  unfold strOfNums
  rw [e]
/-- the string of a form -/
theorem conv_form {w : World} {v : Value} {r : Int} (h : Holds1 w v (byteVals (Lib.encodeRune r))) : (convert 22 9 v).run Tryd.prog w = .ok (.string (Utf8.encode r)) w := by
  obtain ⟨A, c, rfl, _, hcells⟩ := h
  have hl : (byteVals (Lib.encodeRune r)).length = (Lib.encodeRune r).length := by simp [byteVals]
  rw [hl] at hcells ⊢
  obtain ⟨b, off, rfl, _, hcell⟩ := hcells (enc_len r).1
  have := run_convert_bytes_arg (P := Tryd.prog) w 22 5 Tryd.underlying22 Tryd.underlying5 b off (Lib.encodeRune r).length c ((Lib.encodeRune r).map fun x => (x.toNat : Int)) (by simp)
    (fun i hi => hcell i _ (by simp [byteVals, hi])) 9 Tryd.underlying9
  rw [this, enc_bytes, strOf_bytes]

theorem one_any (t : ByteArray) (w : World) :
    Calls Tryd.prog 44 #[.string t] w fun e w' => e = .returned (.agg #[.string t, .int .i64 1, .int .i64 0]) ∧ Below w.heap.size w w' := by
  go_enter Tryd.func44, Tryd.ntmps44
  go_wp2
  exact bodyPost_ret (v := .agg #[.string t, .int .i64 1, .int .i64 0]) (by simp [results, Tryd.results44, go_sem]) rfl ⟨rfl, (Below.refl _ _).alloc (Nat.le_refl _) _⟩

theorem vals_text (t : ByteArray) : #[.string t, .int .i64 1, .int .i64 0] = (cellsVals [(t, 1)]).toArray := rfl

set_option maxRecDepth 100000 in
set_option maxHeartbeats 1000000 in
theorem joins_any (base : Nat) (v : Value) (l : List Cel) (r : Int) (w : World) (hown : Row3 w base v l) (hbase : base ≤ w.heap.size) (hroom : l.length + 8 ≤ 4000000000) :
    Calls Tryd.prog 45 #[v, .int .i32 r] w fun e w' => ∃ v', e = .returned v' ∧ Row3 w' base v' (combP l r l.length) ∧ Below base w w' := by
  obtain ⟨A, c, rfl⟩ := hown.len
  have HO := Lib.hid hown
  clear hown
  have hen := encode_size_le r
  have CF := Lib.hid (form_any r w)
  go_enter Tryd.func45, Tryd.ntmps45
  go_wp2_with (go_at_call 41; refine (CF.out).mono ?_; rintro e w1 ⟨v1, rfl, hh1, hb1⟩; have hcv := conv_form hh1; clear hh1)
  clear hcv
  have HO1 := Lib.hid (HO.out.below hb1)
  have hs1 := hb1.size
  have HB1 := Lib.hid (hb1.mono hbase)
  clear hb1 HO CF
  go_loop [6] (fun i => ∃ z : Int, -1 ≤ z ∧ z < l.length ∧ i = .int .i64 z ∧ combP l r (z + 1).toNat = combP l r l.length) (fun i => (intOf i + 1).toNat)
  case atStart => exact ⟨(l.length : Int) - 1, by omega, by omega, rfl, by congr 1; omega⟩
  case round =>
    obtain ⟨z, hz0, hz1, rfl, hcomb⟩ := hrel
    have HC := Lib.hid hcomb
    clear hcomb
    by_cases hz : z < 0
    · obtain rfl : z = -1 := by omega
      go_wp2_with (first
        | (go_at_call 44; refine (one_any _ _).mono ?_; rintro e w2 ⟨rfl, hb2⟩)
        | (at_builtin; refine append_cells w2 rfl _ _ rfl base _ l rfl (by exact HO1.out.below hb2) 1 [(⟨#[32]⟩ ++ Utf8.encode r, 1)] _ (vals_text _) rfl rfl (by omega) (Nat.le_trans hbase (Nat.le_trans hs1 hb2.size)) ?_; intro v' w3 hown' hb3))
      go_ret
      exact ⟨_, rfl, by rw [← HC.out]; exact hown', HB1.out.trans ((hb2.mono (Nat.le_trans hbase hs1)).trans hb3)⟩
    · obtain ⟨j, rfl⟩ : ∃ j : Nat, z = j := ⟨z.toNat, by omega⟩
      have hj : j < l.length := by omega
      obtain ⟨g, rfl, hcell, hfr, hset⟩ := HO1.out.text hj
      have HS := Lib.hid (hset ((l.getD j (ByteArray.empty, 0)).1 ++ Utf8.encode r))
      clear hset
      have C0 := Lib.hid (combP_skip l r j)
      have C1 := Lib.hid (combP_join l r j)
      have C2 := Lib.hid (combP_full l r j)
      generalize ht : (l.getD j (ByteArray.empty, 0)).1 = t at *
      clear ht
      have hjj : ((j : Int) + 1).toNat = j + 1 := by omega
      rw [hjj] at HC
      clear hjj
      by_cases h0 : t.size = 0
      · have he := isEmpty_yes h0
        have H0 := Lib.hid (C0.out h0)
        clear h0
        go_wp2
        go_round
        case rel => exact ⟨(j : Int) - 1, by omega, by omega, rfl, by rw [show ((j : Int) - 1 + 1).toNat = j by omega, ← H0.out]; exact HC.out⟩
        case measure => simp [intOf]
      · have he := isEmpty_no h0
        by_cases h32 : t.size ≤ 32
        · have H1 := Lib.hid (C1.out h0 h32)
          clear h0
          go_wp2
          go_ret
          exact ⟨_, rfl, by rw [← HC.out, H1.out]; exact HS.out.1, HB1.out.trans HS.out.2⟩
        · have H2 := Lib.hid (C2.out h0 h32)
          clear h0
          go_wp2
          go_ret
          exact ⟨_, rfl, by rw [← HC.out, H2.out]; exact HO1.out, HB1.out⟩

theorem ctl_small (r : Int) : (ctl r = true ∧ r ≤ 127) ↔ (0 ≤ r ∧ r < 32 ∨ r = 127) := by
  simp only [ctl, decide_eq_true_eq]
  omega
theorem enc32 : Utf8.encode 32 = ⟨#[32]⟩ := by decide
theorem enc94 : Utf8.encode 94 = ⟨#[94]⟩ := by decide
theorem vals_blank' : #[.string ⟨#[32]⟩, .int .i64 1, .int .i64 0] = (cellsVals [nar 32]).toArray := by unfold nar; rw [enc32]; rfl
theorem vals_caret (a : Int) : #[.string ⟨#[94]⟩, .int .i64 1, .int .i64 0, .string (Utf8.encode a), .int .i64 1, .int .i64 0] = (cellsVals [nar 94, nar a]).toArray := by unfold nar; rw [enc94]; rfl

/-- the end of a round -/
theorem rel_next {rs : List Int} {start k : Nat} {x : Int} {w wr wn : World} {u : Value} (hlt : k < rs.length) (HX : rs.take (k + 1) = rs.take k ++ [x]) (ho : Row3 wn w.heap.size u (runeP (cellsP start (rs.take k)) x start)) (hb : Below w.heap.size w wr) (hn : Below w.heap.size wr wn) :
    CellsRel rs start w u (.int .i64 ((k : Int) + 1)) wn :=
  ⟨k + 1, by omega, by go_num, by rw [HX, cellsP_snoc]; exact ho, hb.trans hn⟩

set_option maxRecDepth 100000 in
set_option maxHeartbeats 8000000 in
theorem refCells_any (rs : List Int) (v : Value) (col : Int) (w : World) (hv : Holds1 w v (runeVals rs)) (hl : rs.length ≤ 400000000) :
    Calls Tryd.prog 26 #[v, .int .i64 col] w fun e w' => ∃ v', e = .returned v' ∧ Row3 w' w.heap.size v' (cellsP (startOf col) rs) ∧ Below w.heap.size w w' := by
  obtain ⟨A, c, hvv, hc, h⟩ := hv
  have e : (runeVals rs).length = rs.length := by simp [runeVals]
  rw [e] at hvv h hc
  subst hvv
  have H := Lib.hid h
  clear h e hc
  obtain ⟨start, hst⟩ : ∃ s, startOf col = s := ⟨_, rfl⟩
  have hs8 : start < 8 := by rw [← hst]; unfold startOf; omega
  have hmax : max col 0 % 8 = start := by rw [← hst]; unfold startOf; omega
  rw [hst]
  clear hst
  have hm0 : (0 : Int) ≤ max col 0 := by omega
  go_enter Tryd.func26, Tryd.ntmps26
  go_wp2
  rw [hmax]
  clear hmax hm0
  generalize max col 0 = m0
  go_loopw [5, 6] (fun u i wr => CellsRel rs start w u i wr) (fun _ i _ => rs.length - (intOf i).toNat)
  case atStart => exact ⟨0, by omega, rfl, Row3.nil _ _, Below.refl _ _⟩
  case round =>
    obtain ⟨k, hk, rfl, ho, hb⟩ := hrel
    have hsz := hb.size
    by_cases hlt : k < rs.length
    · obtain ⟨Au, cu, rfl⟩ := ho.len
      have HO := Lib.hid ho
      clear ho
      obtain ⟨b, off, rfl, hblk, hcell⟩ := H.out (by omega)
      have hx : (runeVals rs)[k]? = some (.int .i32 rs[k]) := by simp [runeVals, hlt]
      have h1' : wr.cell? ⟨b, off + k, none⟩ = some (.int .i32 rs[k]) := (hb.cell (p := ⟨b, off + k, none⟩) hblk).trans (hcell k _ hx)
      have HX := Lib.hid (show rs.take (k + 1) = rs.take k ++ [rs[k]] from List.take_succ_eq_append_getElem hlt)
      have hlen := cellsP_length start (rs.take k)
      rw [List.length_take] at hlen
      have hroom : (cellsP start (rs.take k)).length + 8 ≤ 4000000000 := by omega
      clear hcell hx hlen
      generalize rs[k] = x at *
      have HR := Lib.hid (fun (u : Value) (wn : World) => @rel_next rs start k x w wr wn u hlt HX.out)
      clear HX
      generalize cellsP start (rs.take k) = l at *
      have CC := Lib.hid (fun W => refControl_any x W)
      have CR := Lib.hid (fun W => refRune_any x W)
      have CW := Lib.hid (fun W => refWidth_any x W)
      by_cases h9 : x = 9
      · have er : runeP l x start = tabP l start := by simp [runeP, h9]
        rw [er] at HR
        subst h9
        clear er CC CR CW
        obtain ⟨wo, rfl⟩ : ∃ wo : World, wo = wr := ⟨_, rfl⟩
        go_wp2
        go_loopw [5, 8] (fun u i wq => ∃ j : Nat, j ≤ 8 - (start + l.length) % 8 ∧ i = .int .i64 ((8 - (start + l.length) % 8 - j : Nat) : Int) ∧ Row3 wq w.heap.size u (l ++ List.replicate j (nar 32)) ∧ Below w.heap.size wo wq) (fun _ i _ => (intOf i).toNat)
        case atStart => exact ⟨0, by omega, by congr 1; omega, by simpa using HO.out, Below.refl _ _⟩
        case round =>
          obtain ⟨j, hj, rfl, hoj, hbj⟩ := hrel
          have HJ := Lib.hid hoj
          have hszj := hbj.size
          clear hoj
          by_cases hjl : j < 8 - (start + l.length) % 8
          · have hpos : (0 : Int) < ((8 - (start + l.length) % 8 - j : Nat) : Int) := by omega
            have hroom' : (l ++ List.replicate j (nar 32)).length + 1 ≤ 4000000000 := by rw [List.length_append, List.length_replicate]; exact tab_room hroom hjl
            have HM := Lib.hid hroom'
            have hdec : (((8 - (start + l.length) % 8 - j : Nat) : Int) - 1) = ((8 - (start + l.length) % 8 - (j + 1) : Nat) : Int) := by omega
            have HD := Lib.hid hdec
            clear hroom' hdec
            generalize hq : 8 - (start + l.length) % 8 - j = q at *
            have hq8 : q ≤ 8 := by omega
            have HQ := Lib.hid hq
            clear hq
            go_wp2_with (first
              | (go_at_call 44; refine (one_any _ _).mono ?_; rintro e w2 ⟨rfl, hb2⟩)
              | (at_builtin; refine append_cells w2 rfl _ _ rfl w.heap.size _ (l ++ List.replicate j (nar 32)) rfl (by exact HJ.out.below hb2) 1 [nar 32] _ vals_blank' rfl rfl HM.out (Nat.le_trans hsz (Nat.le_trans hszj hb2.size)) ?_; intro v' w3 hown' hb3))
            go_roundw
            case rel =>
              refine ⟨j + 1, by omega, by rw [← HD.out], ?_, hbj.trans ((hb2.mono (Nat.le_trans hsz hszj)).trans hb3)⟩
              rw [List.replicate_succ', ← List.append_assoc]
              exact hown'
            case measure => simp [intOf]; omega
          · have hz : 8 - (start + l.length) % 8 - j = 0 := by omega
            have ej : 8 - (start + l.length) % 8 = j := by omega
            have HT2 := Lib.hid (show tabP l start = l ++ List.replicate j (nar 32) by unfold tabP; rw [ej])
            clear ej
            rw [hz]
            clear hz
            go_wp2
            go_roundw
            case rel => exact HR.out _ _ (by rw [HT2.out]; exact HJ.out) hb hbj
            case measure => simp [intOf]; omega
      · have b9 : (x == 9) = false := by simp [h9]
        have hsm := ctl_small x
        by_cases hc : ctl x = true ∧ x ≤ 127
        · have er : runeP l x start = l ++ [nar 94, nar (bits .xor .i32 x 64)] := by simp only [runeP]; rw [if_neg h9, if_pos hc]
          rw [er] at HR
          have hcase := hsm.1 hc
          clear er hc hsm h9 CC CR CW
          have CF := Lib.hid (fun W => form_any (bits .xor .i32 x 64) W)
          rcases hcase with ⟨g1, g2⟩ | g1
          · go_wp2_with (go_at_call 44; refine (one_any _ _).mono ?_; rintro e w1 ⟨rfl, hb1⟩)
            refine (CF.out _).mono ?_
            rintro e w2 ⟨v2, rfl, hh2, hb2⟩
            have hcv := conv_form hh2
            clear hh2
            go_wp2_with fail
            refine (one_any _ _).mono ?_
            rintro e w3 ⟨rfl, hb3⟩
            clear hcv
            have s1 := hb1.size
            have s2 := hb2.size
            have s3 := hb3.size
            go_wp2_with (at_builtin; refine append_cells w3 rfl _ _ rfl w.heap.size _ l rfl (by exact ((HO.out.below hb1).below hb2).below hb3) 2 [nar 94, nar (bits .xor .i32 x 64)] _ (vals_caret _) rfl rfl (by omega) (by omega) ?_; intro v' w4 hown' hb4)
            go_roundw
            case rel => exact HR.out _ _ hown' hb ((hb1.mono hsz).trans ((hb2.mono (by omega)).trans ((hb3.mono (by omega)).trans hb4)))
            case measure => simp [intOf]; omega
          · have q1 : (x == 127) = true := by simp [g1]
            have q2 : ¬ x < 32 := by omega
            have q3 : 0 ≤ x := by omega
            clear g1
            go_wp2_with (go_at_call 44; refine (one_any _ _).mono ?_; rintro e w1 ⟨rfl, hb1⟩)
            refine (CF.out _).mono ?_
            rintro e w2 ⟨v2, rfl, hh2, hb2⟩
            have hcv := conv_form hh2
            clear hh2
            go_wp2_with fail
            refine (one_any _ _).mono ?_
            rintro e w3 ⟨rfl, hb3⟩
            clear hcv
            have s1 := hb1.size
            have s2 := hb2.size
            have s3 := hb3.size
            go_wp2_with (at_builtin; refine append_cells w3 rfl _ _ rfl w.heap.size _ l rfl (by exact ((HO.out.below hb1).below hb2).below hb3) 2 [nar 94, nar (bits .xor .i32 x 64)] _ (vals_caret _) rfl rfl (by omega) (by omega) ?_; intro v' w4 hown' hb4)
            go_roundw
            case rel => exact HR.out _ _ hown' hb ((hb1.mono hsz).trans ((hb2.mono (by omega)).trans ((hb3.mono (by omega)).trans hb4)))
            case measure => simp [intOf]; omega
        · have hno : ¬ (0 ≤ x ∧ x < 32 ∨ x = 127) := fun h => hc (hsm.2 h)
          have q1 : (x == 127) = false := by rw [beq_eq_false_iff_ne]; omega
          have q2 : x < 0 ∨ 32 ≤ x := by omega
          by_cases hbad : ctl x = true ∨ vld x = false
          · have er : runeP l x start = l ++ [nar 65533] := by simp only [runeP]; rw [if_neg h9, if_neg hc, if_pos hbad]
            rw [er] at HR
            have CF := Lib.hid (fun W => form_any 65533 W)
            clear er hc hsm h9 CW hno
            rcases q2 with q2 | q2
            · have g0 : ¬ 0 ≤ x := by omega
              have k1 : ctl x = false := by simp [ctl]; omega
              have k2 : vld x = false := by simp [vld]; omega
              rw [k1] at CC
              rw [k2] at CR
              clear k1 k2 hbad
              go_wp2_with (first | (go_at_call 19; refine (CC.out _).mono ?_; rintro e w' ⟨rfl, rfl⟩) | (go_at_call 36; refine (CR.out _).mono ?_; rintro e w' ⟨rfl, rfl⟩))
              refine (CF.out _).mono ?_
              rintro e w2 ⟨v2, rfl, hh2, hb2⟩
              have hcv := conv_form hh2
              clear hh2
              go_wp2_with fail
              refine (one_any _ _).mono ?_
              rintro e w3 ⟨rfl, hb3⟩
              clear hcv
              have s2 := hb2.size
              have s3 := hb3.size
              go_wp2_with (at_builtin; refine append_cells w3 rfl _ _ rfl w.heap.size _ l rfl (by exact (HO.out.below hb2).below hb3) 1 [nar 65533] _ (vals_text _) rfl rfl (by omega) (by omega) ?_; intro v' w4 hown' hb4)
              go_roundw
              case rel => exact HR.out _ _ hown' hb ((hb2.mono hsz).trans ((hb3.mono (by omega)).trans hb4))
              case measure => simp [intOf]; omega
            · have g0 : 0 ≤ x := by omega
              have g1 : ¬ x < 32 := by omega
              by_cases k1 : ctl x = true
              · rw [k1] at CC
                clear k1 hbad CR
                go_wp2_with (first | (go_at_call 19; refine (CC.out _).mono ?_; rintro e w' ⟨rfl, rfl⟩))
                refine (CF.out _).mono ?_
                rintro e w2 ⟨v2, rfl, hh2, hb2⟩
                have hcv := conv_form hh2
                clear hh2
                go_wp2_with fail
                refine (one_any _ _).mono ?_
                rintro e w3 ⟨rfl, hb3⟩
                clear hcv
                have s2 := hb2.size
                have s3 := hb3.size
                go_wp2_with (at_builtin; refine append_cells w3 rfl _ _ rfl w.heap.size _ l rfl (by exact (HO.out.below hb2).below hb3) 1 [nar 65533] _ (vals_text _) rfl rfl (by omega) (by omega) ?_; intro v' w4 hown' hb4)
                go_roundw
                case rel => exact HR.out _ _ hown' hb ((hb2.mono hsz).trans ((hb3.mono (by omega)).trans hb4))
                case measure => simp [intOf]; omega
              · have k1' : ctl x = false := by simpa using k1
                have k2 : vld x = false := by rcases hbad with h | h; exact absurd h k1; exact h
                rw [k1'] at CC
                rw [k2] at CR
                clear k1 k1' k2 hbad
                go_wp2_with (first | (go_at_call 19; refine (CC.out _).mono ?_; rintro e w' ⟨rfl, rfl⟩) | (go_at_call 36; refine (CR.out _).mono ?_; rintro e w' ⟨rfl, rfl⟩))
                refine (CF.out _).mono ?_
                rintro e w2 ⟨v2, rfl, hh2, hb2⟩
                have hcv := conv_form hh2
                clear hh2
                go_wp2_with fail
                refine (one_any _ _).mono ?_
                rintro e w3 ⟨rfl, hb3⟩
                clear hcv
                have s2 := hb2.size
                have s3 := hb3.size
                go_wp2_with (at_builtin; refine append_cells w3 rfl _ _ rfl w.heap.size _ l rfl (by exact (HO.out.below hb2).below hb3) 1 [nar 65533] _ (vals_text _) rfl rfl (by omega) (by omega) ?_; intro v' w4 hown' hb4)
                go_roundw
                case rel => exact HR.out _ _ hown' hb ((hb2.mono hsz).trans ((hb3.mono (by omega)).trans hb4))
                case measure => simp [intOf]; omega
          · have k1 : ctl x = false := by
              cases h : ctl x
              · rfl
              · exact absurd (.inl h) hbad
            have k2 : vld x = true := by
              cases h : vld x
              · exact absurd (.inr h) hbad
              · rfl
            have hx32 : 32 ≤ x := by
              rcases q2 with q2 | q2
              · have : vld x = false := by simp [vld]; omega
                rw [k2] at this
                cases this
              · exact q2
            have g0 : 0 ≤ x := by omega
            have g1 : ¬ x < 32 := by omega
            rw [k1] at CC
            rw [k2] at CR
            by_cases hw0 : wid x = 0
            · have er : runeP l x start = combP l x l.length := by simp only [runeP]; rw [if_neg h9, if_neg hc, if_neg hbad, if_pos hw0]
              rw [er] at HR
              rw [hw0] at CW
              clear er hc hsm h9 hno hbad k1 k2 hw0 q2
              go_wp2_with (first | (go_at_call 19; refine (CC.out _).mono ?_; rintro e w' ⟨rfl, rfl⟩) | (go_at_call 36; refine (CR.out _).mono ?_; rintro e w' ⟨rfl, rfl⟩) | (go_at_call 17; refine (CW.out _).mono ?_; rintro e w1 ⟨rfl, hb1⟩))
              have s1 := hb1.size
              refine (joins_any w.heap.size _ l x w1 (HO.out.below hb1) (by omega) hroom).mono ?_
              rintro e w2 ⟨v2, rfl, ho2, hb2⟩
              go_wp2
              go_roundw
              case rel => exact HR.out _ _ ho2 hb ((hb1.mono hsz).trans hb2)
              case measure => simp [intOf]; omega
            · have hn0 : (wid x == 0) = false := by simp [hw0]
              have CF := Lib.hid (fun W => form_any x W)
              by_cases hw2 : wid x = 2
              · have er : runeP l x start = l ++ [(Utf8.encode x, 2), (ByteArray.empty, 0)] := by simp only [runeP]; rw [if_neg h9, if_neg hc, if_neg hbad, if_neg hw0, if_pos hw2]
                rw [er] at HR
                rw [hw2] at CW
                clear er hc hsm h9 hno hbad k1 k2 hw0 q2 hw2 hn0
                go_wp2_with (first | (go_at_call 19; refine (CC.out _).mono ?_; rintro e w' ⟨rfl, rfl⟩) | (go_at_call 36; refine (CR.out _).mono ?_; rintro e w' ⟨rfl, rfl⟩))
                refine (CW.out _).mono ?_
                rintro e w1 ⟨rfl, hb1⟩
                go_wp2_with fail
                refine (CW.out _).mono ?_
                rintro e w2 ⟨rfl, hb2⟩
                go_wp2_with fail
                refine (CF.out _).mono ?_
                rintro e w3 ⟨v3, rfl, hh3, hb3⟩
                have hcv := conv_form hh3
                have s1 := hb1.size
                have s2 := hb2.size
                have s3 := hb3.size
                clear hh3
                go_wp2_with (at_builtin; refine append_cells w3 rfl _ _ rfl w.heap.size _ l rfl (by exact ((HO.out.below hb1).below hb2).below hb3) 2 [(Utf8.encode x, 2), (ByteArray.empty, 0)] _ (vals_wide _) rfl rfl (by omega) (by omega) ?_; intro v' w4 hown' hb4)
                go_roundw
                case rel => exact HR.out _ _ hown' hb ((hb1.mono hsz).trans ((hb2.mono (by omega)).trans ((hb3.mono (by omega)).trans hb4)))
                case measure => simp [intOf]; omega
              · have hn2 : (wid x == 2) = false := by simp [hw2]
                have er : runeP l x start = l ++ [nar x] := by simp only [runeP]; rw [if_neg h9, if_neg hc, if_neg hbad, if_neg hw0, if_neg hw2]
                rw [er] at HR
                clear er hc hsm h9 hno hbad k1 k2 hw0 q2 hw2
                generalize wid x = wd at *
                go_wp2_with (first | (go_at_call 19; refine (CC.out _).mono ?_; rintro e w' ⟨rfl, rfl⟩) | (go_at_call 36; refine (CR.out _).mono ?_; rintro e w' ⟨rfl, rfl⟩))
                refine (CW.out _).mono ?_
                rintro e w1 ⟨rfl, hb1⟩
                go_wp2_with fail
                refine (CW.out _).mono ?_
                rintro e w2 ⟨rfl, hb2⟩
                go_wp2_with fail
                refine (CF.out _).mono ?_
                rintro e w3 ⟨v3, rfl, hh3, hb3⟩
                have hcv := conv_form hh3
                clear hh3
                go_wp2_with fail
                refine (one_any _ _).mono ?_
                rintro e w4 ⟨rfl, hb4⟩
                clear hcv
                have s1 := hb1.size
                have s2 := hb2.size
                have s3 := hb3.size
                have s4 := hb4.size
                go_wp2_with (at_builtin; refine append_cells w4 rfl _ _ rfl w.heap.size _ l rfl (by exact (((HO.out.below hb1).below hb2).below hb3).below hb4) 1 [nar x] _ (vals_text _) rfl rfl (by omega) (by omega) ?_; intro v' w5 hown' hb5)
                go_roundw
                case rel => exact HR.out _ _ hown' hb ((hb1.mono hsz).trans ((hb2.mono (by omega)).trans ((hb3.mono (by omega)).trans ((hb4.mono (by omega)).trans hb5))))
                case measure => simp [intOf]; omega
    · go_wp2
      go_ret
      have e : rs.take k = rs := List.take_of_length_le (by omega)
      exact ⟨_, rfl, by rw [← e]; exact ho, hb⟩

end Go.Proofs.YtalfodcjpnjmaaaDoor
