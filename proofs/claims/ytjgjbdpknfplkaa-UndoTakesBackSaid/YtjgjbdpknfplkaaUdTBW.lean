/-
  A script of steps is done to a line and taken back: the law holds.
-/
import Derived.Test.YtjgjbdpknfplkaaUdTBX
namespace Go.Proofs.Ytjgjbdpknfplkaa
open Go.RowKit Go.Shelf Go.Lib
attribute [local go_sem] Oper.semAt_some

set_option maxRecDepth 1000000 in
set_option maxHeartbeats 40000000 in
theorem tb_main (w : World) (line : List Int) (os : List StB) (Al As : Option Addr) (cl cs : Nat) (hl : Holds1 w (.slice Al line.length cl) (runeVals line)) (hs : Steps w (.slice As os.length cs) os) (hlen : line.length ≤ 1024) :
    Calls Try.prog 5 #[.slice Al line.length cl, .slice As os.length cs] w fun e w' => e = .returned (.bool true) ∧ Below w.heap.size w w' := by
  obtain ⟨hsl, hso, As', cs', hse, hsc⟩ := hs
  injection hse with hse1 _ hse3
  subst hse1 hse3
  have CN := Lib.hid (new_any w)
  have L := Lib.hid fun (W : World) (hb : Below w.heap.size w W) => hl.below hb
  have HSC := Lib.hid hsc
  have HSO := Lib.hid fun (W : World) (hb : Below w.heap.size w W) (o : StB) (ho : o ∈ os) => (hso o ho).below hb
  have HSL := Lib.hid hsl
  have HLEN := Lib.hid hlen
  have i1 : ((line.length : Int) > 1024) = False := eq_false (by omega)
  have i2 : ((1024 : Int) < (line.length : Int)) = False := eq_false (by omega)
  have i3 : (1024 < line.length) = False := eq_false (by omega)
  clear hl hsc hso hsl hlen
  generalize hn : os.length = n at *
  have HN := Lib.hid hn
  clear hn
  generalize hm : line.length = m at *
  have HM := Lib.hid hm
  clear hm
  go_enter Try.func5, Try.ntmps5
  go_wp2_with (first
    | (go_at_call 18; refine (CN.out).mono ?_; rintro e w1 ⟨rfl, hl1, hb⟩; have LL := Lib.hid hl1; have B := Lib.hid hb; clear hl1 hb)
    | (go_at_call 13; refine (begun_any _).mono ?_; rintro e w2 ⟨rfl, hb⟩; have LL := Lib.hid (LL.out.below hb); have B := Lib.hid (B.out.trans (hb.mono B.out.size)); clear hb)
    | (at_builtin; refine wpList_append_runes (by rfl) _ _ (by rfl) w2.heap.size _ [] (by rfl) (RRow.nil w2 _) Al m cl line (by rfl) (L.out _ B.out) (by have := HLEN.out; have := HM.out; rw [List.length_nil]; omega) (Nat.le_refl _) ?_; intro nv0 w3 hr hb _; obtain ⟨A3, n3, c3, rfl⟩ := RRow.form3 hr; have HT0 : Hid (TS w w3 w.heap.size (fun _ => False) ls0 (.slice A3 n3 c3) line (.slice none 0 0) []) := Lib.hid ⟨LL.out.below hb, RRow.less hr B.out.size, WRow.nil _ _, (fun k hk => by cases hk), (fun k hk => hk.elim), Nat.le_refl _, B.out.trans (hb.mono B.out.size)⟩; clear hr hb))
  go_loopw [6, 7, 8, 37] (fun nv wv ov iv wr => ∃ k K gs opn joins now ws, TBI w w.heap.size line n nv wv ov iv wr k K gs opn joins now ws) (fun _ _ _ iv _ => n - (RowKit.intOf iv).toNat)
  case atStart => exact ⟨0, _, [], 0, false, line, [], Nat.zero_le _, rfl, rfl, Nat.zero_le _, (fun h => by cases h), HT0.out, ⟨rfl, rfl⟩, by rw [HM.out]; exact HLEN.out⟩
  clear CN LL B HT0
  case round =>
    obtain ⟨k, K, gs, opn, joins, now, ws, hI⟩ := hrel
    obtain ⟨hk, rfl, rfl, hone, hj, hts, hrl, hnl⟩ := hI
    obtain ⟨⟨An, cn, rfl⟩, ⟨Aw, cw, rfl⟩⟩ := hts.form
    have HT := Lib.hid hts
    have HR := Lib.hid hrl
    have HNL := Lib.hid hnl
    have HJN : Hid (joins = true → gs ≠ []) := Lib.hid fun h => hts.lat.ok.joins h
    by_cases hlt : k < n
    · have hke : k < os.length := by rw [HN.out]; exact hlt
      obtain ⟨b, off, rfl, hbl, hat⟩ := HSC.out (by omega)
      obtain ⟨s, hs0⟩ : ∃ s, s = os[k]'hke := ⟨_, rfl⟩
      have hsk : os[k]? = some s := by rw [hs0]; exact List.getElem?_eq_getElem hke
      have hmem : s ∈ os := List.mem_of_getElem? hsk
      have hc := hat k s hsk
      have HIV := Lib.hid fun (W : World) (hb : Below w.heap.size w W) => (HSO.out W hb s hmem).i
      have hil := (HSO.out w (Below.refl _ _) s hmem).il
      have st0 : wr.cell? ⟨b, off + k * 5, none⟩ = some (.int .i64 s.at') := (hts.b.cell (p := ⟨b, off + k * 5 + 0, none⟩) hbl).trans (hc 0 _ rfl)
      have st1 : wr.cell? ⟨b, off + k * 5 + 1, none⟩ = some (.int .i64 s.many) := (hts.b.cell (p := ⟨b, off + k * 5 + 1, none⟩) hbl).trans (hc 1 _ rfl)
      have st2 : wr.cell? ⟨b, off + k * 5 + 2, none⟩ = some (s.iv) := (hts.b.cell (p := ⟨b, off + k * 5 + 2, none⟩) hbl).trans (hc 2 _ rfl)
      have st3 : wr.cell? ⟨b, off + k * 5 + 3, none⟩ = some (.bool s.beg) := (hts.b.cell (p := ⟨b, off + k * 5 + 3, none⟩) hbl).trans (hc 3 _ rfl)
      have st4 : wr.cell? ⟨b, off + k * 5 + 4, none⟩ = some (.bool s.en) := (hts.b.cell (p := ⟨b, off + k * 5 + 4, none⟩) hbl).trans (hc 4 _ rfl)
      obtain ⟨Ai, ni, ci, hiv⟩ : ∃ A n c, s.iv = .slice A n c := by
        obtain ⟨A, c, e, _⟩ := HIV.out w (Below.refl _ _)
        exact ⟨A, _, c, e⟩
      rw [hiv] at st2 HIV
      have hF := StepF.of (now := now) (s := s.st) hnl hil
      have HF := Lib.hid hF
      have i1 : (0 : Int) ≤ (k : Int) := by omega
      have i2 : ((k : Int) < (n : Int)) = True := by simp; exact hlt
      have hwk : wrap64 ((k : Int) + 1) = (k : Int) + 1 := by have := HSL.out; have := HN.out; unfold wrap64; omega
      have HKN := Lib.hid hlt
      have hcase : apErr now (stepEd now s.st) = 3 ∨ apErr now (stepEd now s.st) = 0 := by
        have := apErr_cases (stands_step now s.st)
        split at this
        · exact .inl this
        · exact .inr this
      obtain ⟨x, hx⟩ : ∃ x, x = stepEd now s.st := ⟨_, rfl⟩
      rw [← hx] at HF hF hcase
      have HXE := Lib.hid hx
      have hone' : opn = 0 ∨ opn = 1 := by omega
      have HSB : Hid (SBox (wr.alloc (.cells #[.int .i64 s.at', .int .i64 s.many, .slice Ai ni ci, .bool s.beg, .bool s.en] 59)) wr.heap.size #[.int .i64 s.at', .int .i64 s.many, .slice Ai ni ci, .bool s.beg, .bool s.en]) := Lib.hid (alloc_new _ _)
      have HT := Lib.hid (hts.below (bel_alloc (Below.refl wr.heap.size wr) (.cells #[.int .i64 s.at', .int .i64 s.many, .slice Ai ni ci, .bool s.beg, .bool s.en] 59)))
      have HGS : Hid (w.heap.size < wr.heap.size) := Lib.hid hts.lat.lt
      have CST : Hid (∀ W, Holds1 W (.slice An now.length cn) (runeVals now) → Holds1 W (.slice Ai ni ci) (runeVals s.ins) → Calls Try.prog 41 #[.agg #[.int .i64 s.at', .int .i64 s.many, .slice Ai ni ci, .bool s.beg, .bool s.en], .slice An now.length cn] W fun y w' => ∃ A c, y = .returned (editV x.p (.slice A x.d.length c) (.slice Ai ni ci)) ∧ Holds1 w' (.slice A x.d.length c) (runeVals x.d) ∧ Below W.heap.size W w') := Lib.hid fun W h1 h2 => by
        refine (step_is W now s.st (.slice An now.length cn) (.slice Ai ni ci) h1 h2 (by omega) hx).mono ?_
        rintro y w' ⟨A, n', c, rfl, h3, h4⟩
        obtain ⟨A', c', e, _⟩ := id h3
        rw [runeVals_length] at e
        injection e with _ e2 _
        subst e2
        exact ⟨A, c, rfl, h3, h4⟩
      have hni : ni = x.i.length := by
        obtain ⟨A', c', e, _⟩ := HIV.out w (Below.refl _ _)
        rw [runeVals_length] at e
        injection e with _ e2 _
        rw [e2, ← hF.i]
        rfl
      have HXI : Hid (s.ins = x.i) := Lib.hid hF.i
      have CAP := Lib.hid fun (W : World) (c : Int) (r : List Int) (dv : Value) (h1 : Holds1 W (.slice An now.length cn) (runeVals now)) (h2 : Holds1 W dv (runeVals x.d)) (h3 : Holds1 W (.slice Ai ni ci) (runeVals s.ins)) (hk : apErr now x = c) (hr : apRes now x = r) => apply_row W now x (.slice An now.length cn) dv (.slice Ai ni ci) h1 h2 (by rw [hx]; exact h3) (by omega) (by have := hF.f.d; omega) (by have := hF.f.i; omega) hk hr
      have HWL : Hid (ws.length ≤ 100000) := Lib.hid (by
        have h1 := hrl.len
        rw [List.length_reverse] at h1
        have h2 := full_length hts.lat.full
        rw [numbered_length] at h2
        have h3 := hts.lat.many
        dsimp only at h2 h3
        omega)
      have hmany := hts.lat.many
      have hxd : x.d.length ≤ 35184372087808 := hF.f.d
      have hxi2 : x.i.length ≤ 35184372087808 := hF.f.i
      have hxp := hF.p
      dsimp only at hmany
      clear hk hts hrl hnl hs0 hsk hmem hc hil hiv hF hx hlt hbl hat hone
      generalize hnn : now.length = nn at *
      have HNN := Lib.hid hnn
      clear hnn
      have HNL : Hid (now.length ≤ 1024) := Lib.hid (Nat.le_trans (Nat.le_of_eq HNN.out) HNL.out)
      generalize hws : ws.length = nws at *
      have HWL : Hid (ws.length ≤ 100000) := Lib.hid (Nat.le_trans (Nat.le_of_eq hws) HWL.out)
      clear hws
      subst hni
      generalize hbg : s.beg = beg at *
      clear hbg
      generalize hen : s.en = en at *
      clear hen
      generalize hdl : x.d.length = dl at *
      generalize hil : x.i.length = il at *
      have HDI := Lib.hid (And.intro hdl hil)
      have HDL : Hid (x.d.length ≤ 35184372088832 ∧ x.i.length ≤ 35184372088832 ∧ x.p ≤ 9223372036854775807) := Lib.hid ⟨by omega, by omega, HF.out.f.p.2⟩
      clear hdl hil
      generalize hgl : gs.length = gl at *
      have HGL := Lib.hid hgl
      clear hgl
      rcases hone' with rfl | rfl
      · obtain rfl : joins = false := by cases joins with | false => rfl | true => exact absurd (hj rfl) (by decide)
        clear hj
        cases beg with
        | true =>
          rcases hcase with he | he
          · cases en with
            | true =>
              as_aux_lemma =>
                have tok1 : True := trivial
                have HE : Hid (apErr now x = 3 ∧ apRes now x = []) := Lib.hid ⟨he, by unfold apRes; rw [if_neg (by rw [he]; decide)]⟩
                clear he hxp hxd hxi2 hmany
                go_wp2_with (first
                  | (go_at_call 21; refine (begin_any _ _ _ HT.out.lat (by show 0 < _; omega)).mono ?_; rintro e w4 ⟨rfl, hl, ht⟩; have HT := Lib.hid (HT.out.call hl ht); have HSB := Lib.hid (HSB.out.touch ht HGS.out); have sb0 := HSB.out.cell 0; have sb1 := HSB.out.cell 1; have sb2 := HSB.out.cell 2; have sb3 := HSB.out.cell 3; have sb4 := HSB.out.cell 4; clear hl ht)
                  | (go_at_call 41; refine (CST.out _ HT.out.now.holds (HIV.out _ HT.out.b)).mono ?_; rintro e w5 ⟨A5, c5, rfl, hr, hb⟩; have ba := bel_alloc (Below.refl w5.heap.size w5) (.cells #[.int .i64 x.p, .slice A5 dl c5, .slice Ai il ci] 24); have HT := Lib.hid ((HT.out.below hb).below ba); have HSB := Lib.hid ((HSB.out.below hb).below ba); have XD := Lib.hid (hr.below ba); have X : Hid (EBox (w5.alloc (.cells #[.int .i64 x.p, .slice A5 dl c5, .slice Ai il ci] 24)) w5.heap.size #[.int .i64 x.p, .slice A5 dl c5, .slice Ai il ci]) := Lib.hid (alloc_new _ _); have x0 := X.out.cell 0; have x1 := X.out.cell 1; have x2 := X.out.cell 2; clear hr hb ba)
                  | (go_at_call 9; refine (CAP.out _ _ _ _ HT.out.now.holds XD.out (HIV.out _ HT.out.b) HE.out.1 HE.out.2).mono ?_; rintro e w6 ⟨A6, n6, c6, rfl, hr, hb⟩; have NX := Lib.hid (hr.less HT.out.b.size); have HT := Lib.hid (HT.out.below hb); have HSB := Lib.hid (HSB.out.below hb); have XD := Lib.hid (XD.out.below hb); have X := Lib.hid (X.out.below hb); have sb0 := HSB.out.cell 0; have sb1 := HSB.out.cell 1; have sb2 := HSB.out.cell 2; have sb3 := HSB.out.cell 3; have sb4 := HSB.out.cell 4; have x0 := X.out.cell 0; have x1 := X.out.cell 1; have x2 := X.out.cell 2; clear hr hb)
                  | (go_at_call 23; refine (end_any _ _ _ HT.out.lat).mono ?_; rintro e w11 ⟨rfl, hl, ht⟩; rw [end_is rfl] at hl; have HT := Lib.hid (HT.out.call hl ht); clear hl ht))
                go_roundw
                case rel => exact ⟨k + 1, _, gs, 0, false, now, ws, HKN.out, next_val hwk, rfl, by decide, (fun h => by cases h), HT.out, HR.out, HNL.out⟩
                case measure => exact measure_lt HKN.out hwk
            | false =>
              as_aux_lemma =>
                have tok1 : True := trivial
                have HE : Hid (apErr now x = 3 ∧ apRes now x = []) := Lib.hid ⟨he, by unfold apRes; rw [if_neg (by rw [he]; decide)]⟩
                clear he hxp hxd hxi2 hmany
                go_wp2_with (first
                  | (go_at_call 21; refine (begin_any _ _ _ HT.out.lat (by show 0 < _; omega)).mono ?_; rintro e w4 ⟨rfl, hl, ht⟩; have HT := Lib.hid (HT.out.call hl ht); have HSB := Lib.hid (HSB.out.touch ht HGS.out); have sb0 := HSB.out.cell 0; have sb1 := HSB.out.cell 1; have sb2 := HSB.out.cell 2; have sb3 := HSB.out.cell 3; have sb4 := HSB.out.cell 4; clear hl ht)
                  | (go_at_call 41; refine (CST.out _ HT.out.now.holds (HIV.out _ HT.out.b)).mono ?_; rintro e w5 ⟨A5, c5, rfl, hr, hb⟩; have ba := bel_alloc (Below.refl w5.heap.size w5) (.cells #[.int .i64 x.p, .slice A5 dl c5, .slice Ai il ci] 24); have HT := Lib.hid ((HT.out.below hb).below ba); have HSB := Lib.hid ((HSB.out.below hb).below ba); have XD := Lib.hid (hr.below ba); have X : Hid (EBox (w5.alloc (.cells #[.int .i64 x.p, .slice A5 dl c5, .slice Ai il ci] 24)) w5.heap.size #[.int .i64 x.p, .slice A5 dl c5, .slice Ai il ci]) := Lib.hid (alloc_new _ _); have x0 := X.out.cell 0; have x1 := X.out.cell 1; have x2 := X.out.cell 2; clear hr hb ba)
                  | (go_at_call 9; refine (CAP.out _ _ _ _ HT.out.now.holds XD.out (HIV.out _ HT.out.b) HE.out.1 HE.out.2).mono ?_; rintro e w6 ⟨A6, n6, c6, rfl, hr, hb⟩; have NX := Lib.hid (hr.less HT.out.b.size); have HT := Lib.hid (HT.out.below hb); have HSB := Lib.hid (HSB.out.below hb); have XD := Lib.hid (XD.out.below hb); have X := Lib.hid (X.out.below hb); have sb0 := HSB.out.cell 0; have sb1 := HSB.out.cell 1; have sb2 := HSB.out.cell 2; have sb3 := HSB.out.cell 3; have sb4 := HSB.out.cell 4; have x0 := X.out.cell 0; have x1 := X.out.cell 1; have x2 := X.out.cell 2; clear hr hb))
                go_roundw
                case rel => exact ⟨k + 1, _, gs, 0 + 1, false, now, ws, HKN.out, next_val hwk, rfl, by decide, (fun _ => rfl), HT.out, HR.out, HNL.out⟩
                case measure => exact measure_lt HKN.out hwk
          · by_cases hne : 0 < dl + il
            · by_cases hmn : many gs = 16384
              · as_aux_lemma =>
                  have tok1 : True := trivial
                  have HE : Hid (apErr now x = 0 ∧ apRes now x = apLine now x) := Lib.hid ⟨he, (apErr_zero he).2.2.2⟩
                  have g0 : wrap64 ((dl : Int) + (il : Int)) = ((dl + il : Nat) : Int) := wr_add (by omega) (by omega)
                  have g0' : IntKind.i64.wrap ((dl : Int) + (il : Int)) = ((dl + il : Nat) : Int) := wi_add (by omega) (by omega)
                  have g1 : (((dl + il : Nat) : Int) > 0) = True := eq_true (by omega)
                  have g2 : ((0 : Int) < ((dl + il : Nat) : Int)) = True := eq_true (by omega)
                  have g3 : (0 < dl + il) = True := eq_true hne
                  have g3' : ((0 : Int) < (dl : Int) + (il : Int)) = True := eq_true (by omega)
                  have hxe : 0 < x.d.length + x.i.length := by rw [HDI.out.1, HDI.out.2]; exact hne
                  have HA : Hid (addErr ⟨gs, 0 + 1, false⟩ x = 3 ∧ addS ⟨gs, 0 + 1, false⟩ x = ⟨gs, 0 + 1, false⟩) := Lib.hid ⟨add_three hxp hxe hmn, by unfold addS; rw [if_neg (by rw [add_three hxp hxe hmn]; decide)]⟩
                  have HMN : Hid (many gs = 16384) := Lib.hid hmn
                  clear he hxp hxd hxi2 hmany hmn hne hxe
                  go_wp2_with (first
                    | (go_at_call 21; refine (begin_any _ _ _ HT.out.lat (by show 0 < _; omega)).mono ?_; rintro e w4 ⟨rfl, hl, ht⟩; have HT := Lib.hid (HT.out.call hl ht); have HSB := Lib.hid (HSB.out.touch ht HGS.out); have sb0 := HSB.out.cell 0; have sb1 := HSB.out.cell 1; have sb2 := HSB.out.cell 2; have sb3 := HSB.out.cell 3; have sb4 := HSB.out.cell 4; clear hl ht)
                    | (go_at_call 41; refine (CST.out _ HT.out.now.holds (HIV.out _ HT.out.b)).mono ?_; rintro e w5 ⟨A5, c5, rfl, hr, hb⟩; have ba := bel_alloc (Below.refl w5.heap.size w5) (.cells #[.int .i64 x.p, .slice A5 dl c5, .slice Ai il ci] 24); have HT := Lib.hid ((HT.out.below hb).below ba); have HSB := Lib.hid ((HSB.out.below hb).below ba); have XD := Lib.hid (hr.below ba); have X : Hid (EBox (w5.alloc (.cells #[.int .i64 x.p, .slice A5 dl c5, .slice Ai il ci] 24)) w5.heap.size #[.int .i64 x.p, .slice A5 dl c5, .slice Ai il ci]) := Lib.hid (alloc_new _ _); have x0 := X.out.cell 0; have x1 := X.out.cell 1; have x2 := X.out.cell 2; clear hr hb ba)
                    | (go_at_call 9; refine (CAP.out _ _ _ _ HT.out.now.holds XD.out (HIV.out _ HT.out.b) HE.out.1 HE.out.2).mono ?_; rintro e w6 ⟨A6, n6, c6, rfl, hr, hb⟩; have NX := Lib.hid (hr.less HT.out.b.size); have HT := Lib.hid (HT.out.below hb); have HSB := Lib.hid (HSB.out.below hb); have XD := Lib.hid (XD.out.below hb); have X := Lib.hid (X.out.below hb); have sb0 := HSB.out.cell 0; have sb1 := HSB.out.cell 1; have sb2 := HSB.out.cell 2; have sb3 := HSB.out.cell 3; have sb4 := HSB.out.cell 4; have x0 := X.out.cell 0; have x1 := X.out.cell 1; have x2 := X.out.cell 2; clear hr hb)
                    | (go_at_call 33; have tk := tok1; clear tok1 tk; have tok2 : True := trivial; refine (len_any _ _ _ HT.out.lat).mono ?_; rintro e w7 ⟨rfl, rfl⟩; dsimp only; rw [HGL.out])
                    | (go_at_call 19; refine (add_any _ _ _ HT.out.lat x _ _ XD.out (HXI.out ▸ HIV.out _ HT.out.b) HDL.out.1 HDL.out.2.1 HDL.out.2.2).mono ?_; rintro e w8 ⟨rfl, hl, ht⟩; rw [HA.out.1]; rw [HA.out.2] at hl; have HT := Lib.hid (HT.out.add hl ht); clear hl ht)
                    | (go_at_call 35; refine (editsL_any _ _ _ HT.out.lat).mono ?_; rintro e w9 ⟨rfl, rfl⟩; dsimp only; rw [HMN.out]))
                  go_ret
                  exact ⟨rfl, HT.out.b⟩
              · have hmn : many gs < 16384 := by omega
                cases en with
                | true =>
                  as_aux_lemma =>
                    have tok1 : True := trivial
                    have HE : Hid (apErr now x = 0 ∧ apRes now x = apLine now x) := Lib.hid ⟨he, (apErr_zero he).2.2.2⟩
                    have g0 : wrap64 ((dl : Int) + (il : Int)) = ((dl + il : Nat) : Int) := wr_add (by omega) (by omega)
                    have g0' : IntKind.i64.wrap ((dl : Int) + (il : Int)) = ((dl + il : Nat) : Int) := wi_add (by omega) (by omega)
                    have g1 : (((dl + il : Nat) : Int) > 0) = True := eq_true (by omega)
                    have g2 : ((0 : Int) < ((dl + il : Nat) : Int)) = True := eq_true (by omega)
                    have g3 : (0 < dl + il) = True := eq_true hne
                    have g3' : ((0 : Int) < (dl : Int) + (il : Int)) = True := eq_true (by omega)
                    have hxe : 0 < x.d.length + x.i.length := by rw [HDI.out.1, HDI.out.2]; exact hne
                    have HA : Hid (addErr ⟨gs, 0 + 1, false⟩ x = 0 ∧ addS ⟨gs, 0 + 1, false⟩ x = ⟨pushG gs x false, 0 + 1, decide (0 < 0 + 1)⟩) := Lib.hid (add_zero hxp hxe hmn)
                    have HPL : Hid ((pushG gs x false).length = gl + 1) := Lib.hid (by rw [push_len HJN.out, HGL.out]; rfl)
                    have HR2 := Lib.hid (HR.out.push he HNL.out (j := false) HJN.out)
                    have HNL2 : Hid ((apLine now x).length ≤ 1024) := Lib.hid (apErr_zero he).2.2.1
                    have g4 : (((gl + 1 : Nat) : Int) > (gl : Int)) = True := eq_true (by omega)
                    have g5 : ((gl : Int) < ((gl + 1 : Nat) : Int)) = True := eq_true (by omega)
                    have g6 : ((gl : Int) < (gl : Int) + 1) = True := eq_true (by omega)
                    clear he hxp hxd hxi2 hmany hmn hne hxe
                    go_wp2_with (first
                      | (go_at_call 21; refine (begin_any _ _ _ HT.out.lat (by show 0 < _; omega)).mono ?_; rintro e w4 ⟨rfl, hl, ht⟩; have HT := Lib.hid (HT.out.call hl ht); have HSB := Lib.hid (HSB.out.touch ht HGS.out); have sb0 := HSB.out.cell 0; have sb1 := HSB.out.cell 1; have sb2 := HSB.out.cell 2; have sb3 := HSB.out.cell 3; have sb4 := HSB.out.cell 4; clear hl ht)
                      | (go_at_call 41; refine (CST.out _ HT.out.now.holds (HIV.out _ HT.out.b)).mono ?_; rintro e w5 ⟨A5, c5, rfl, hr, hb⟩; have ba := bel_alloc (Below.refl w5.heap.size w5) (.cells #[.int .i64 x.p, .slice A5 dl c5, .slice Ai il ci] 24); have HT := Lib.hid ((HT.out.below hb).below ba); have HSB := Lib.hid ((HSB.out.below hb).below ba); have XD := Lib.hid (hr.below ba); have X : Hid (EBox (w5.alloc (.cells #[.int .i64 x.p, .slice A5 dl c5, .slice Ai il ci] 24)) w5.heap.size #[.int .i64 x.p, .slice A5 dl c5, .slice Ai il ci]) := Lib.hid (alloc_new _ _); have x0 := X.out.cell 0; have x1 := X.out.cell 1; have x2 := X.out.cell 2; clear hr hb ba)
                      | (go_at_call 9; refine (CAP.out _ _ _ _ HT.out.now.holds XD.out (HIV.out _ HT.out.b) HE.out.1 HE.out.2).mono ?_; rintro e w6 ⟨A6, n6, c6, rfl, hr, hb⟩; have NX := Lib.hid (hr.less HT.out.b.size); have HT := Lib.hid (HT.out.below hb); have HSB := Lib.hid (HSB.out.below hb); have XD := Lib.hid (XD.out.below hb); have X := Lib.hid (X.out.below hb); have sb0 := HSB.out.cell 0; have sb1 := HSB.out.cell 1; have sb2 := HSB.out.cell 2; have sb3 := HSB.out.cell 3; have sb4 := HSB.out.cell 4; have x0 := X.out.cell 0; have x1 := X.out.cell 1; have x2 := X.out.cell 2; clear hr hb)
                      | (go_at_call 33; have tk := tok1; clear tok1 tk; have tok2 : True := trivial; refine (len_any _ _ _ HT.out.lat).mono ?_; rintro e w7 ⟨rfl, rfl⟩; dsimp only; rw [HGL.out])
                      | (go_at_call 19; refine (add_any _ _ _ HT.out.lat x _ _ XD.out (HXI.out ▸ HIV.out _ HT.out.b) HDL.out.1 HDL.out.2.1 HDL.out.2.2).mono ?_; rintro e w8 ⟨rfl, hl, ht⟩; rw [HA.out.1]; rw [HA.out.2] at hl; have NX : Hid (RRow w8 w.heap.size (.slice A6 n6 c6) (apLine now x)) := Lib.hid (own_notlist NX.out HT.out.lat.listed.choose_spec (by decide) ht); have HSB := Lib.hid (HSB.out.touch ht HGS.out); have HT := Lib.hid (HT.out.add hl ht); have sb0 := HSB.out.cell 0; have sb1 := HSB.out.cell 1; have sb2 := HSB.out.cell 2; have sb3 := HSB.out.cell 3; have sb4 := HSB.out.cell 4; clear hl ht)
                      | (go_at_call 33; have tk := tok2; clear tok2 tk; refine (len_any _ _ _ HT.out.lat).mono ?_; rintro e w9 ⟨rfl, rfl⟩; dsimp only; rw [HPL.out])
                      | (at_builtin; obtain ⟨v10, w10, hrun, ht10, hap, hkn, hB10⟩ := (HT.out.below (bel_alloc (Below.refl w8.heap.size w8) (.cells #[.slice An nn cn] 22))).note 57 (cp := 1) (alloc_new w8 _) HWL.out; refine wpList_append_is hrun (by rfl) _ _ (by rfl) (by rfl) (by rfl) (by rfl) ?_; have NX := Lib.hid (hap _ _ (NX.out.below (bel_alloc (Below.refl w8.heap.size w8) (.cells #[.slice An nn cn] 22)))); have HSB := Lib.hid ((HSB.out.below (bel_alloc (Below.refl w8.heap.size w8) (.cells #[.slice An nn cn] 22))).keep (hkn _ _ _ _ (HSB.out.below (bel_alloc (Below.refl w8.heap.size w8) (.cells #[.slice An nn cn] 22))) (by decide))); obtain ⟨_, ⟨A10, c10, e10⟩⟩ := ht10.form; generalize (ws ++ [now]).length = nq at e10; subst e10; have HT := Lib.hid (ht10.next NX.out); have sb0 := HSB.out.cell 0; have sb1 := HSB.out.cell 1; have sb2 := HSB.out.cell 2; have sb3 := HSB.out.cell 3; have sb4 := HSB.out.cell 4; clear ht10 hap hkn hB10 hrun)
                      | (go_at_call 23; refine (end_any _ _ _ HT.out.lat).mono ?_; rintro e w11 ⟨rfl, hl, ht⟩; rw [end_is rfl] at hl; have HT := Lib.hid (HT.out.call hl ht); clear hl ht))
                    go_roundw
                    case rel => exact ⟨k + 1, _, pushG gs x false, 0, false, apLine now x, ws ++ [now], HKN.out, next_val hwk, rfl, by decide, (fun h => by cases h), HT.out, by rw [List.reverse_append]; exact HR2.out, HNL2.out⟩
                    case measure => exact measure_lt HKN.out hwk
                | false =>
                  as_aux_lemma =>
                    have tok1 : True := trivial
                    have HE : Hid (apErr now x = 0 ∧ apRes now x = apLine now x) := Lib.hid ⟨he, (apErr_zero he).2.2.2⟩
                    have g0 : wrap64 ((dl : Int) + (il : Int)) = ((dl + il : Nat) : Int) := wr_add (by omega) (by omega)
                    have g0' : IntKind.i64.wrap ((dl : Int) + (il : Int)) = ((dl + il : Nat) : Int) := wi_add (by omega) (by omega)
                    have g1 : (((dl + il : Nat) : Int) > 0) = True := eq_true (by omega)
                    have g2 : ((0 : Int) < ((dl + il : Nat) : Int)) = True := eq_true (by omega)
                    have g3 : (0 < dl + il) = True := eq_true hne
                    have g3' : ((0 : Int) < (dl : Int) + (il : Int)) = True := eq_true (by omega)
                    have hxe : 0 < x.d.length + x.i.length := by rw [HDI.out.1, HDI.out.2]; exact hne
                    have HA : Hid (addErr ⟨gs, 0 + 1, false⟩ x = 0 ∧ addS ⟨gs, 0 + 1, false⟩ x = ⟨pushG gs x false, 0 + 1, decide (0 < 0 + 1)⟩) := Lib.hid (add_zero hxp hxe hmn)
                    have HPL : Hid ((pushG gs x false).length = gl + 1) := Lib.hid (by rw [push_len HJN.out, HGL.out]; rfl)
                    have HR2 := Lib.hid (HR.out.push he HNL.out (j := false) HJN.out)
                    have HNL2 : Hid ((apLine now x).length ≤ 1024) := Lib.hid (apErr_zero he).2.2.1
                    have g4 : (((gl + 1 : Nat) : Int) > (gl : Int)) = True := eq_true (by omega)
                    have g5 : ((gl : Int) < ((gl + 1 : Nat) : Int)) = True := eq_true (by omega)
                    have g6 : ((gl : Int) < (gl : Int) + 1) = True := eq_true (by omega)
                    clear he hxp hxd hxi2 hmany hmn hne hxe
                    go_wp2_with (first
                      | (go_at_call 21; refine (begin_any _ _ _ HT.out.lat (by show 0 < _; omega)).mono ?_; rintro e w4 ⟨rfl, hl, ht⟩; have HT := Lib.hid (HT.out.call hl ht); have HSB := Lib.hid (HSB.out.touch ht HGS.out); have sb0 := HSB.out.cell 0; have sb1 := HSB.out.cell 1; have sb2 := HSB.out.cell 2; have sb3 := HSB.out.cell 3; have sb4 := HSB.out.cell 4; clear hl ht)
                      | (go_at_call 41; refine (CST.out _ HT.out.now.holds (HIV.out _ HT.out.b)).mono ?_; rintro e w5 ⟨A5, c5, rfl, hr, hb⟩; have ba := bel_alloc (Below.refl w5.heap.size w5) (.cells #[.int .i64 x.p, .slice A5 dl c5, .slice Ai il ci] 24); have HT := Lib.hid ((HT.out.below hb).below ba); have HSB := Lib.hid ((HSB.out.below hb).below ba); have XD := Lib.hid (hr.below ba); have X : Hid (EBox (w5.alloc (.cells #[.int .i64 x.p, .slice A5 dl c5, .slice Ai il ci] 24)) w5.heap.size #[.int .i64 x.p, .slice A5 dl c5, .slice Ai il ci]) := Lib.hid (alloc_new _ _); have x0 := X.out.cell 0; have x1 := X.out.cell 1; have x2 := X.out.cell 2; clear hr hb ba)
                      | (go_at_call 9; refine (CAP.out _ _ _ _ HT.out.now.holds XD.out (HIV.out _ HT.out.b) HE.out.1 HE.out.2).mono ?_; rintro e w6 ⟨A6, n6, c6, rfl, hr, hb⟩; have NX := Lib.hid (hr.less HT.out.b.size); have HT := Lib.hid (HT.out.below hb); have HSB := Lib.hid (HSB.out.below hb); have XD := Lib.hid (XD.out.below hb); have X := Lib.hid (X.out.below hb); have sb0 := HSB.out.cell 0; have sb1 := HSB.out.cell 1; have sb2 := HSB.out.cell 2; have sb3 := HSB.out.cell 3; have sb4 := HSB.out.cell 4; have x0 := X.out.cell 0; have x1 := X.out.cell 1; have x2 := X.out.cell 2; clear hr hb)
                      | (go_at_call 33; have tk := tok1; clear tok1 tk; have tok2 : True := trivial; refine (len_any _ _ _ HT.out.lat).mono ?_; rintro e w7 ⟨rfl, rfl⟩; dsimp only; rw [HGL.out])
                      | (go_at_call 19; refine (add_any _ _ _ HT.out.lat x _ _ XD.out (HXI.out ▸ HIV.out _ HT.out.b) HDL.out.1 HDL.out.2.1 HDL.out.2.2).mono ?_; rintro e w8 ⟨rfl, hl, ht⟩; rw [HA.out.1]; rw [HA.out.2] at hl; have NX : Hid (RRow w8 w.heap.size (.slice A6 n6 c6) (apLine now x)) := Lib.hid (own_notlist NX.out HT.out.lat.listed.choose_spec (by decide) ht); have HSB := Lib.hid (HSB.out.touch ht HGS.out); have HT := Lib.hid (HT.out.add hl ht); have sb0 := HSB.out.cell 0; have sb1 := HSB.out.cell 1; have sb2 := HSB.out.cell 2; have sb3 := HSB.out.cell 3; have sb4 := HSB.out.cell 4; clear hl ht)
                      | (go_at_call 33; have tk := tok2; clear tok2 tk; refine (len_any _ _ _ HT.out.lat).mono ?_; rintro e w9 ⟨rfl, rfl⟩; dsimp only; rw [HPL.out])
                      | (at_builtin; obtain ⟨v10, w10, hrun, ht10, hap, hkn, hB10⟩ := (HT.out.below (bel_alloc (Below.refl w8.heap.size w8) (.cells #[.slice An nn cn] 22))).note 57 (cp := 1) (alloc_new w8 _) HWL.out; refine wpList_append_is hrun (by rfl) _ _ (by rfl) (by rfl) (by rfl) (by rfl) ?_; have NX := Lib.hid (hap _ _ (NX.out.below (bel_alloc (Below.refl w8.heap.size w8) (.cells #[.slice An nn cn] 22)))); have HSB := Lib.hid ((HSB.out.below (bel_alloc (Below.refl w8.heap.size w8) (.cells #[.slice An nn cn] 22))).keep (hkn _ _ _ _ (HSB.out.below (bel_alloc (Below.refl w8.heap.size w8) (.cells #[.slice An nn cn] 22))) (by decide))); obtain ⟨_, ⟨A10, c10, e10⟩⟩ := ht10.form; generalize (ws ++ [now]).length = nq at e10; subst e10; have HT := Lib.hid (ht10.next NX.out); have sb0 := HSB.out.cell 0; have sb1 := HSB.out.cell 1; have sb2 := HSB.out.cell 2; have sb3 := HSB.out.cell 3; have sb4 := HSB.out.cell 4; clear ht10 hap hkn hB10 hrun))
                    go_roundw
                    case rel => exact ⟨k + 1, _, pushG gs x false, 0 + 1, decide (0 < 0 + 1), apLine now x, ws ++ [now], HKN.out, next_val hwk, rfl, by decide, (fun _ => rfl), HT.out, by rw [List.reverse_append]; exact HR2.out, HNL2.out⟩
                    case measure => exact measure_lt HKN.out hwk
            · cases en with
              | true =>
                as_aux_lemma =>
                  have tok1 : True := trivial
                  have HE : Hid (apErr now x = 0 ∧ apRes now x = apLine now x) := Lib.hid ⟨he, (apErr_zero he).2.2.2⟩
                  have g0 : wrap64 ((dl : Int) + (il : Int)) = ((dl + il : Nat) : Int) := wr_add (by omega) (by omega)
                  have g0' : IntKind.i64.wrap ((dl : Int) + (il : Int)) = ((dl + il : Nat) : Int) := wi_add (by omega) (by omega)
                  have g1 : (((dl + il : Nat) : Int) > 0) = False := eq_false (by omega)
                  have g2 : ((0 : Int) < ((dl + il : Nat) : Int)) = False := eq_false (by omega)
                  have g3 : (0 < dl + il) = False := eq_false hne
                  have g3' : ((0 : Int) < (dl : Int) + (il : Int)) = False := eq_false (by omega)
                  clear he hxp hxd hxi2 hmany hne
                  go_wp2_with (first
                    | (go_at_call 21; refine (begin_any _ _ _ HT.out.lat (by show 0 < _; omega)).mono ?_; rintro e w4 ⟨rfl, hl, ht⟩; have HT := Lib.hid (HT.out.call hl ht); have HSB := Lib.hid (HSB.out.touch ht HGS.out); have sb0 := HSB.out.cell 0; have sb1 := HSB.out.cell 1; have sb2 := HSB.out.cell 2; have sb3 := HSB.out.cell 3; have sb4 := HSB.out.cell 4; clear hl ht)
                    | (go_at_call 41; refine (CST.out _ HT.out.now.holds (HIV.out _ HT.out.b)).mono ?_; rintro e w5 ⟨A5, c5, rfl, hr, hb⟩; have ba := bel_alloc (Below.refl w5.heap.size w5) (.cells #[.int .i64 x.p, .slice A5 dl c5, .slice Ai il ci] 24); have HT := Lib.hid ((HT.out.below hb).below ba); have HSB := Lib.hid ((HSB.out.below hb).below ba); have XD := Lib.hid (hr.below ba); have X : Hid (EBox (w5.alloc (.cells #[.int .i64 x.p, .slice A5 dl c5, .slice Ai il ci] 24)) w5.heap.size #[.int .i64 x.p, .slice A5 dl c5, .slice Ai il ci]) := Lib.hid (alloc_new _ _); have x0 := X.out.cell 0; have x1 := X.out.cell 1; have x2 := X.out.cell 2; clear hr hb ba)
                    | (go_at_call 9; refine (CAP.out _ _ _ _ HT.out.now.holds XD.out (HIV.out _ HT.out.b) HE.out.1 HE.out.2).mono ?_; rintro e w6 ⟨A6, n6, c6, rfl, hr, hb⟩; have NX := Lib.hid (hr.less HT.out.b.size); have HT := Lib.hid (HT.out.below hb); have HSB := Lib.hid (HSB.out.below hb); have XD := Lib.hid (XD.out.below hb); have X := Lib.hid (X.out.below hb); have sb0 := HSB.out.cell 0; have sb1 := HSB.out.cell 1; have sb2 := HSB.out.cell 2; have sb3 := HSB.out.cell 3; have sb4 := HSB.out.cell 4; have x0 := X.out.cell 0; have x1 := X.out.cell 1; have x2 := X.out.cell 2; clear hr hb)
                    | (go_at_call 23; refine (end_any _ _ _ HT.out.lat).mono ?_; rintro e w11 ⟨rfl, hl, ht⟩; rw [end_is rfl] at hl; have HT := Lib.hid (HT.out.call hl ht); clear hl ht))
                  go_roundw
                  case rel => exact ⟨k + 1, _, gs, 0, false, now, ws, HKN.out, next_val hwk, rfl, by decide, (fun h => by cases h), HT.out, HR.out, HNL.out⟩
                  case measure => exact measure_lt HKN.out hwk
              | false =>
                as_aux_lemma =>
                  have tok1 : True := trivial
                  have HE : Hid (apErr now x = 0 ∧ apRes now x = apLine now x) := Lib.hid ⟨he, (apErr_zero he).2.2.2⟩
                  have g0 : wrap64 ((dl : Int) + (il : Int)) = ((dl + il : Nat) : Int) := wr_add (by omega) (by omega)
                  have g0' : IntKind.i64.wrap ((dl : Int) + (il : Int)) = ((dl + il : Nat) : Int) := wi_add (by omega) (by omega)
                  have g1 : (((dl + il : Nat) : Int) > 0) = False := eq_false (by omega)
                  have g2 : ((0 : Int) < ((dl + il : Nat) : Int)) = False := eq_false (by omega)
                  have g3 : (0 < dl + il) = False := eq_false hne
                  have g3' : ((0 : Int) < (dl : Int) + (il : Int)) = False := eq_false (by omega)
                  clear he hxp hxd hxi2 hmany hne
                  go_wp2_with (first
                    | (go_at_call 21; refine (begin_any _ _ _ HT.out.lat (by show 0 < _; omega)).mono ?_; rintro e w4 ⟨rfl, hl, ht⟩; have HT := Lib.hid (HT.out.call hl ht); have HSB := Lib.hid (HSB.out.touch ht HGS.out); have sb0 := HSB.out.cell 0; have sb1 := HSB.out.cell 1; have sb2 := HSB.out.cell 2; have sb3 := HSB.out.cell 3; have sb4 := HSB.out.cell 4; clear hl ht)
                    | (go_at_call 41; refine (CST.out _ HT.out.now.holds (HIV.out _ HT.out.b)).mono ?_; rintro e w5 ⟨A5, c5, rfl, hr, hb⟩; have ba := bel_alloc (Below.refl w5.heap.size w5) (.cells #[.int .i64 x.p, .slice A5 dl c5, .slice Ai il ci] 24); have HT := Lib.hid ((HT.out.below hb).below ba); have HSB := Lib.hid ((HSB.out.below hb).below ba); have XD := Lib.hid (hr.below ba); have X : Hid (EBox (w5.alloc (.cells #[.int .i64 x.p, .slice A5 dl c5, .slice Ai il ci] 24)) w5.heap.size #[.int .i64 x.p, .slice A5 dl c5, .slice Ai il ci]) := Lib.hid (alloc_new _ _); have x0 := X.out.cell 0; have x1 := X.out.cell 1; have x2 := X.out.cell 2; clear hr hb ba)
                    | (go_at_call 9; refine (CAP.out _ _ _ _ HT.out.now.holds XD.out (HIV.out _ HT.out.b) HE.out.1 HE.out.2).mono ?_; rintro e w6 ⟨A6, n6, c6, rfl, hr, hb⟩; have NX := Lib.hid (hr.less HT.out.b.size); have HT := Lib.hid (HT.out.below hb); have HSB := Lib.hid (HSB.out.below hb); have XD := Lib.hid (XD.out.below hb); have X := Lib.hid (X.out.below hb); have sb0 := HSB.out.cell 0; have sb1 := HSB.out.cell 1; have sb2 := HSB.out.cell 2; have sb3 := HSB.out.cell 3; have sb4 := HSB.out.cell 4; have x0 := X.out.cell 0; have x1 := X.out.cell 1; have x2 := X.out.cell 2; clear hr hb))
                  go_roundw
                  case rel => exact ⟨k + 1, _, gs, 0 + 1, false, now, ws, HKN.out, next_val hwk, rfl, by decide, (fun _ => rfl), HT.out, HR.out, HNL.out⟩
                  case measure => exact measure_lt HKN.out hwk
        | false =>
          rcases hcase with he | he
          · cases en with
            | true =>
              as_aux_lemma =>
                have tok1 : True := trivial
                have HE : Hid (apErr now x = 3 ∧ apRes now x = []) := Lib.hid ⟨he, by unfold apRes; rw [if_neg (by rw [he]; decide)]⟩
                clear he hxp hxd hxi2 hmany
                go_wp2_with (first
                  | (go_at_call 41; refine (CST.out _ HT.out.now.holds (HIV.out _ HT.out.b)).mono ?_; rintro e w5 ⟨A5, c5, rfl, hr, hb⟩; have ba := bel_alloc (Below.refl w5.heap.size w5) (.cells #[.int .i64 x.p, .slice A5 dl c5, .slice Ai il ci] 24); have HT := Lib.hid ((HT.out.below hb).below ba); have HSB := Lib.hid ((HSB.out.below hb).below ba); have XD := Lib.hid (hr.below ba); have X : Hid (EBox (w5.alloc (.cells #[.int .i64 x.p, .slice A5 dl c5, .slice Ai il ci] 24)) w5.heap.size #[.int .i64 x.p, .slice A5 dl c5, .slice Ai il ci]) := Lib.hid (alloc_new _ _); have x0 := X.out.cell 0; have x1 := X.out.cell 1; have x2 := X.out.cell 2; clear hr hb ba)
                  | (go_at_call 9; refine (CAP.out _ _ _ _ HT.out.now.holds XD.out (HIV.out _ HT.out.b) HE.out.1 HE.out.2).mono ?_; rintro e w6 ⟨A6, n6, c6, rfl, hr, hb⟩; have NX := Lib.hid (hr.less HT.out.b.size); have HT := Lib.hid (HT.out.below hb); have HSB := Lib.hid (HSB.out.below hb); have XD := Lib.hid (XD.out.below hb); have X := Lib.hid (X.out.below hb); have sb0 := HSB.out.cell 0; have sb1 := HSB.out.cell 1; have sb2 := HSB.out.cell 2; have sb3 := HSB.out.cell 3; have sb4 := HSB.out.cell 4; have x0 := X.out.cell 0; have x1 := X.out.cell 1; have x2 := X.out.cell 2; clear hr hb))
                go_roundw
                case rel => exact ⟨k + 1, _, gs, 0, false, now, ws, HKN.out, next_val hwk, rfl, by decide, (fun h => by cases h), HT.out, HR.out, HNL.out⟩
                case measure => exact measure_lt HKN.out hwk
            | false =>
              as_aux_lemma =>
                have tok1 : True := trivial
                have HE : Hid (apErr now x = 3 ∧ apRes now x = []) := Lib.hid ⟨he, by unfold apRes; rw [if_neg (by rw [he]; decide)]⟩
                clear he hxp hxd hxi2 hmany
                go_wp2_with (first
                  | (go_at_call 41; refine (CST.out _ HT.out.now.holds (HIV.out _ HT.out.b)).mono ?_; rintro e w5 ⟨A5, c5, rfl, hr, hb⟩; have ba := bel_alloc (Below.refl w5.heap.size w5) (.cells #[.int .i64 x.p, .slice A5 dl c5, .slice Ai il ci] 24); have HT := Lib.hid ((HT.out.below hb).below ba); have HSB := Lib.hid ((HSB.out.below hb).below ba); have XD := Lib.hid (hr.below ba); have X : Hid (EBox (w5.alloc (.cells #[.int .i64 x.p, .slice A5 dl c5, .slice Ai il ci] 24)) w5.heap.size #[.int .i64 x.p, .slice A5 dl c5, .slice Ai il ci]) := Lib.hid (alloc_new _ _); have x0 := X.out.cell 0; have x1 := X.out.cell 1; have x2 := X.out.cell 2; clear hr hb ba)
                  | (go_at_call 9; refine (CAP.out _ _ _ _ HT.out.now.holds XD.out (HIV.out _ HT.out.b) HE.out.1 HE.out.2).mono ?_; rintro e w6 ⟨A6, n6, c6, rfl, hr, hb⟩; have NX := Lib.hid (hr.less HT.out.b.size); have HT := Lib.hid (HT.out.below hb); have HSB := Lib.hid (HSB.out.below hb); have XD := Lib.hid (XD.out.below hb); have X := Lib.hid (X.out.below hb); have sb0 := HSB.out.cell 0; have sb1 := HSB.out.cell 1; have sb2 := HSB.out.cell 2; have sb3 := HSB.out.cell 3; have sb4 := HSB.out.cell 4; have x0 := X.out.cell 0; have x1 := X.out.cell 1; have x2 := X.out.cell 2; clear hr hb))
                go_roundw
                case rel => exact ⟨k + 1, _, gs, 0, false, now, ws, HKN.out, next_val hwk, rfl, by decide, (fun h => by cases h), HT.out, HR.out, HNL.out⟩
                case measure => exact measure_lt HKN.out hwk
          · by_cases hne : 0 < dl + il
            · by_cases hmn : many gs = 16384
              · as_aux_lemma =>
                  have tok1 : True := trivial
                  have HE : Hid (apErr now x = 0 ∧ apRes now x = apLine now x) := Lib.hid ⟨he, (apErr_zero he).2.2.2⟩
                  have g0 : wrap64 ((dl : Int) + (il : Int)) = ((dl + il : Nat) : Int) := wr_add (by omega) (by omega)
                  have g0' : IntKind.i64.wrap ((dl : Int) + (il : Int)) = ((dl + il : Nat) : Int) := wi_add (by omega) (by omega)
                  have g1 : (((dl + il : Nat) : Int) > 0) = True := eq_true (by omega)
                  have g2 : ((0 : Int) < ((dl + il : Nat) : Int)) = True := eq_true (by omega)
                  have g3 : (0 < dl + il) = True := eq_true hne
                  have g3' : ((0 : Int) < (dl : Int) + (il : Int)) = True := eq_true (by omega)
                  have hxe : 0 < x.d.length + x.i.length := by rw [HDI.out.1, HDI.out.2]; exact hne
                  have HA : Hid (addErr ⟨gs, 0, false⟩ x = 3 ∧ addS ⟨gs, 0, false⟩ x = ⟨gs, 0, false⟩) := Lib.hid ⟨add_three hxp hxe hmn, by unfold addS; rw [if_neg (by rw [add_three hxp hxe hmn]; decide)]⟩
                  have HMN : Hid (many gs = 16384) := Lib.hid hmn
                  clear he hxp hxd hxi2 hmany hmn hne hxe
                  go_wp2_with (first
                    | (go_at_call 41; refine (CST.out _ HT.out.now.holds (HIV.out _ HT.out.b)).mono ?_; rintro e w5 ⟨A5, c5, rfl, hr, hb⟩; have ba := bel_alloc (Below.refl w5.heap.size w5) (.cells #[.int .i64 x.p, .slice A5 dl c5, .slice Ai il ci] 24); have HT := Lib.hid ((HT.out.below hb).below ba); have HSB := Lib.hid ((HSB.out.below hb).below ba); have XD := Lib.hid (hr.below ba); have X : Hid (EBox (w5.alloc (.cells #[.int .i64 x.p, .slice A5 dl c5, .slice Ai il ci] 24)) w5.heap.size #[.int .i64 x.p, .slice A5 dl c5, .slice Ai il ci]) := Lib.hid (alloc_new _ _); have x0 := X.out.cell 0; have x1 := X.out.cell 1; have x2 := X.out.cell 2; clear hr hb ba)
                    | (go_at_call 9; refine (CAP.out _ _ _ _ HT.out.now.holds XD.out (HIV.out _ HT.out.b) HE.out.1 HE.out.2).mono ?_; rintro e w6 ⟨A6, n6, c6, rfl, hr, hb⟩; have NX := Lib.hid (hr.less HT.out.b.size); have HT := Lib.hid (HT.out.below hb); have HSB := Lib.hid (HSB.out.below hb); have XD := Lib.hid (XD.out.below hb); have X := Lib.hid (X.out.below hb); have sb0 := HSB.out.cell 0; have sb1 := HSB.out.cell 1; have sb2 := HSB.out.cell 2; have sb3 := HSB.out.cell 3; have sb4 := HSB.out.cell 4; have x0 := X.out.cell 0; have x1 := X.out.cell 1; have x2 := X.out.cell 2; clear hr hb)
                    | (go_at_call 33; have tk := tok1; clear tok1 tk; have tok2 : True := trivial; refine (len_any _ _ _ HT.out.lat).mono ?_; rintro e w7 ⟨rfl, rfl⟩; dsimp only; rw [HGL.out])
                    | (go_at_call 19; refine (add_any _ _ _ HT.out.lat x _ _ XD.out (HXI.out ▸ HIV.out _ HT.out.b) HDL.out.1 HDL.out.2.1 HDL.out.2.2).mono ?_; rintro e w8 ⟨rfl, hl, ht⟩; rw [HA.out.1]; rw [HA.out.2] at hl; have HT := Lib.hid (HT.out.add hl ht); clear hl ht)
                    | (go_at_call 35; refine (editsL_any _ _ _ HT.out.lat).mono ?_; rintro e w9 ⟨rfl, rfl⟩; dsimp only; rw [HMN.out]))
                  go_ret
                  exact ⟨rfl, HT.out.b⟩
              · have hmn : many gs < 16384 := by omega
                cases en with
                | true =>
                  as_aux_lemma =>
                    have tok1 : True := trivial
                    have HE : Hid (apErr now x = 0 ∧ apRes now x = apLine now x) := Lib.hid ⟨he, (apErr_zero he).2.2.2⟩
                    have g0 : wrap64 ((dl : Int) + (il : Int)) = ((dl + il : Nat) : Int) := wr_add (by omega) (by omega)
                    have g0' : IntKind.i64.wrap ((dl : Int) + (il : Int)) = ((dl + il : Nat) : Int) := wi_add (by omega) (by omega)
                    have g1 : (((dl + il : Nat) : Int) > 0) = True := eq_true (by omega)
                    have g2 : ((0 : Int) < ((dl + il : Nat) : Int)) = True := eq_true (by omega)
                    have g3 : (0 < dl + il) = True := eq_true hne
                    have g3' : ((0 : Int) < (dl : Int) + (il : Int)) = True := eq_true (by omega)
                    have hxe : 0 < x.d.length + x.i.length := by rw [HDI.out.1, HDI.out.2]; exact hne
                    have HA : Hid (addErr ⟨gs, 0, false⟩ x = 0 ∧ addS ⟨gs, 0, false⟩ x = ⟨pushG gs x false, 0, decide (0 < 0)⟩) := Lib.hid (add_zero hxp hxe hmn)
                    have HPL : Hid ((pushG gs x false).length = gl + 1) := Lib.hid (by rw [push_len HJN.out, HGL.out]; rfl)
                    have HR2 := Lib.hid (HR.out.push he HNL.out (j := false) HJN.out)
                    have HNL2 : Hid ((apLine now x).length ≤ 1024) := Lib.hid (apErr_zero he).2.2.1
                    have g4 : (((gl + 1 : Nat) : Int) > (gl : Int)) = True := eq_true (by omega)
                    have g5 : ((gl : Int) < ((gl + 1 : Nat) : Int)) = True := eq_true (by omega)
                    have g6 : ((gl : Int) < (gl : Int) + 1) = True := eq_true (by omega)
                    clear he hxp hxd hxi2 hmany hmn hne hxe
                    go_wp2_with (first
                      | (go_at_call 41; refine (CST.out _ HT.out.now.holds (HIV.out _ HT.out.b)).mono ?_; rintro e w5 ⟨A5, c5, rfl, hr, hb⟩; have ba := bel_alloc (Below.refl w5.heap.size w5) (.cells #[.int .i64 x.p, .slice A5 dl c5, .slice Ai il ci] 24); have HT := Lib.hid ((HT.out.below hb).below ba); have HSB := Lib.hid ((HSB.out.below hb).below ba); have XD := Lib.hid (hr.below ba); have X : Hid (EBox (w5.alloc (.cells #[.int .i64 x.p, .slice A5 dl c5, .slice Ai il ci] 24)) w5.heap.size #[.int .i64 x.p, .slice A5 dl c5, .slice Ai il ci]) := Lib.hid (alloc_new _ _); have x0 := X.out.cell 0; have x1 := X.out.cell 1; have x2 := X.out.cell 2; clear hr hb ba)
                      | (go_at_call 9; refine (CAP.out _ _ _ _ HT.out.now.holds XD.out (HIV.out _ HT.out.b) HE.out.1 HE.out.2).mono ?_; rintro e w6 ⟨A6, n6, c6, rfl, hr, hb⟩; have NX := Lib.hid (hr.less HT.out.b.size); have HT := Lib.hid (HT.out.below hb); have HSB := Lib.hid (HSB.out.below hb); have XD := Lib.hid (XD.out.below hb); have X := Lib.hid (X.out.below hb); have sb0 := HSB.out.cell 0; have sb1 := HSB.out.cell 1; have sb2 := HSB.out.cell 2; have sb3 := HSB.out.cell 3; have sb4 := HSB.out.cell 4; have x0 := X.out.cell 0; have x1 := X.out.cell 1; have x2 := X.out.cell 2; clear hr hb)
                      | (go_at_call 33; have tk := tok1; clear tok1 tk; have tok2 : True := trivial; refine (len_any _ _ _ HT.out.lat).mono ?_; rintro e w7 ⟨rfl, rfl⟩; dsimp only; rw [HGL.out])
                      | (go_at_call 19; refine (add_any _ _ _ HT.out.lat x _ _ XD.out (HXI.out ▸ HIV.out _ HT.out.b) HDL.out.1 HDL.out.2.1 HDL.out.2.2).mono ?_; rintro e w8 ⟨rfl, hl, ht⟩; rw [HA.out.1]; rw [HA.out.2] at hl; have NX : Hid (RRow w8 w.heap.size (.slice A6 n6 c6) (apLine now x)) := Lib.hid (own_notlist NX.out HT.out.lat.listed.choose_spec (by decide) ht); have HSB := Lib.hid (HSB.out.touch ht HGS.out); have HT := Lib.hid (HT.out.add hl ht); have sb0 := HSB.out.cell 0; have sb1 := HSB.out.cell 1; have sb2 := HSB.out.cell 2; have sb3 := HSB.out.cell 3; have sb4 := HSB.out.cell 4; clear hl ht)
                      | (go_at_call 33; have tk := tok2; clear tok2 tk; refine (len_any _ _ _ HT.out.lat).mono ?_; rintro e w9 ⟨rfl, rfl⟩; dsimp only; rw [HPL.out])
                      | (at_builtin; obtain ⟨v10, w10, hrun, ht10, hap, hkn, hB10⟩ := (HT.out.below (bel_alloc (Below.refl w8.heap.size w8) (.cells #[.slice An nn cn] 22))).note 57 (cp := 1) (alloc_new w8 _) HWL.out; refine wpList_append_is hrun (by rfl) _ _ (by rfl) (by rfl) (by rfl) (by rfl) ?_; have NX := Lib.hid (hap _ _ (NX.out.below (bel_alloc (Below.refl w8.heap.size w8) (.cells #[.slice An nn cn] 22)))); have HSB := Lib.hid ((HSB.out.below (bel_alloc (Below.refl w8.heap.size w8) (.cells #[.slice An nn cn] 22))).keep (hkn _ _ _ _ (HSB.out.below (bel_alloc (Below.refl w8.heap.size w8) (.cells #[.slice An nn cn] 22))) (by decide))); obtain ⟨_, ⟨A10, c10, e10⟩⟩ := ht10.form; generalize (ws ++ [now]).length = nq at e10; subst e10; have HT := Lib.hid (ht10.next NX.out); have sb0 := HSB.out.cell 0; have sb1 := HSB.out.cell 1; have sb2 := HSB.out.cell 2; have sb3 := HSB.out.cell 3; have sb4 := HSB.out.cell 4; clear ht10 hap hkn hB10 hrun))
                    go_roundw
                    case rel => exact ⟨k + 1, _, pushG gs x false, 0, decide (0 < 0), apLine now x, ws ++ [now], HKN.out, next_val hwk, rfl, by decide, (fun h => by cases h), HT.out, by rw [List.reverse_append]; exact HR2.out, HNL2.out⟩
                    case measure => exact measure_lt HKN.out hwk
                | false =>
                  as_aux_lemma =>
                    have tok1 : True := trivial
                    have HE : Hid (apErr now x = 0 ∧ apRes now x = apLine now x) := Lib.hid ⟨he, (apErr_zero he).2.2.2⟩
                    have g0 : wrap64 ((dl : Int) + (il : Int)) = ((dl + il : Nat) : Int) := wr_add (by omega) (by omega)
                    have g0' : IntKind.i64.wrap ((dl : Int) + (il : Int)) = ((dl + il : Nat) : Int) := wi_add (by omega) (by omega)
                    have g1 : (((dl + il : Nat) : Int) > 0) = True := eq_true (by omega)
                    have g2 : ((0 : Int) < ((dl + il : Nat) : Int)) = True := eq_true (by omega)
                    have g3 : (0 < dl + il) = True := eq_true hne
                    have g3' : ((0 : Int) < (dl : Int) + (il : Int)) = True := eq_true (by omega)
                    have hxe : 0 < x.d.length + x.i.length := by rw [HDI.out.1, HDI.out.2]; exact hne
                    have HA : Hid (addErr ⟨gs, 0, false⟩ x = 0 ∧ addS ⟨gs, 0, false⟩ x = ⟨pushG gs x false, 0, decide (0 < 0)⟩) := Lib.hid (add_zero hxp hxe hmn)
                    have HPL : Hid ((pushG gs x false).length = gl + 1) := Lib.hid (by rw [push_len HJN.out, HGL.out]; rfl)
                    have HR2 := Lib.hid (HR.out.push he HNL.out (j := false) HJN.out)
                    have HNL2 : Hid ((apLine now x).length ≤ 1024) := Lib.hid (apErr_zero he).2.2.1
                    have g4 : (((gl + 1 : Nat) : Int) > (gl : Int)) = True := eq_true (by omega)
                    have g5 : ((gl : Int) < ((gl + 1 : Nat) : Int)) = True := eq_true (by omega)
                    have g6 : ((gl : Int) < (gl : Int) + 1) = True := eq_true (by omega)
                    clear he hxp hxd hxi2 hmany hmn hne hxe
                    go_wp2_with (first
                      | (go_at_call 41; refine (CST.out _ HT.out.now.holds (HIV.out _ HT.out.b)).mono ?_; rintro e w5 ⟨A5, c5, rfl, hr, hb⟩; have ba := bel_alloc (Below.refl w5.heap.size w5) (.cells #[.int .i64 x.p, .slice A5 dl c5, .slice Ai il ci] 24); have HT := Lib.hid ((HT.out.below hb).below ba); have HSB := Lib.hid ((HSB.out.below hb).below ba); have XD := Lib.hid (hr.below ba); have X : Hid (EBox (w5.alloc (.cells #[.int .i64 x.p, .slice A5 dl c5, .slice Ai il ci] 24)) w5.heap.size #[.int .i64 x.p, .slice A5 dl c5, .slice Ai il ci]) := Lib.hid (alloc_new _ _); have x0 := X.out.cell 0; have x1 := X.out.cell 1; have x2 := X.out.cell 2; clear hr hb ba)
                      | (go_at_call 9; refine (CAP.out _ _ _ _ HT.out.now.holds XD.out (HIV.out _ HT.out.b) HE.out.1 HE.out.2).mono ?_; rintro e w6 ⟨A6, n6, c6, rfl, hr, hb⟩; have NX := Lib.hid (hr.less HT.out.b.size); have HT := Lib.hid (HT.out.below hb); have HSB := Lib.hid (HSB.out.below hb); have XD := Lib.hid (XD.out.below hb); have X := Lib.hid (X.out.below hb); have sb0 := HSB.out.cell 0; have sb1 := HSB.out.cell 1; have sb2 := HSB.out.cell 2; have sb3 := HSB.out.cell 3; have sb4 := HSB.out.cell 4; have x0 := X.out.cell 0; have x1 := X.out.cell 1; have x2 := X.out.cell 2; clear hr hb)
                      | (go_at_call 33; have tk := tok1; clear tok1 tk; have tok2 : True := trivial; refine (len_any _ _ _ HT.out.lat).mono ?_; rintro e w7 ⟨rfl, rfl⟩; dsimp only; rw [HGL.out])
                      | (go_at_call 19; refine (add_any _ _ _ HT.out.lat x _ _ XD.out (HXI.out ▸ HIV.out _ HT.out.b) HDL.out.1 HDL.out.2.1 HDL.out.2.2).mono ?_; rintro e w8 ⟨rfl, hl, ht⟩; rw [HA.out.1]; rw [HA.out.2] at hl; have NX : Hid (RRow w8 w.heap.size (.slice A6 n6 c6) (apLine now x)) := Lib.hid (own_notlist NX.out HT.out.lat.listed.choose_spec (by decide) ht); have HSB := Lib.hid (HSB.out.touch ht HGS.out); have HT := Lib.hid (HT.out.add hl ht); have sb0 := HSB.out.cell 0; have sb1 := HSB.out.cell 1; have sb2 := HSB.out.cell 2; have sb3 := HSB.out.cell 3; have sb4 := HSB.out.cell 4; clear hl ht)
                      | (go_at_call 33; have tk := tok2; clear tok2 tk; refine (len_any _ _ _ HT.out.lat).mono ?_; rintro e w9 ⟨rfl, rfl⟩; dsimp only; rw [HPL.out])
                      | (at_builtin; obtain ⟨v10, w10, hrun, ht10, hap, hkn, hB10⟩ := (HT.out.below (bel_alloc (Below.refl w8.heap.size w8) (.cells #[.slice An nn cn] 22))).note 57 (cp := 1) (alloc_new w8 _) HWL.out; refine wpList_append_is hrun (by rfl) _ _ (by rfl) (by rfl) (by rfl) (by rfl) ?_; have NX := Lib.hid (hap _ _ (NX.out.below (bel_alloc (Below.refl w8.heap.size w8) (.cells #[.slice An nn cn] 22)))); have HSB := Lib.hid ((HSB.out.below (bel_alloc (Below.refl w8.heap.size w8) (.cells #[.slice An nn cn] 22))).keep (hkn _ _ _ _ (HSB.out.below (bel_alloc (Below.refl w8.heap.size w8) (.cells #[.slice An nn cn] 22))) (by decide))); obtain ⟨_, ⟨A10, c10, e10⟩⟩ := ht10.form; generalize (ws ++ [now]).length = nq at e10; subst e10; have HT := Lib.hid (ht10.next NX.out); have sb0 := HSB.out.cell 0; have sb1 := HSB.out.cell 1; have sb2 := HSB.out.cell 2; have sb3 := HSB.out.cell 3; have sb4 := HSB.out.cell 4; clear ht10 hap hkn hB10 hrun))
                    go_roundw
                    case rel => exact ⟨k + 1, _, pushG gs x false, 0, decide (0 < 0), apLine now x, ws ++ [now], HKN.out, next_val hwk, rfl, by decide, (fun h => by cases h), HT.out, by rw [List.reverse_append]; exact HR2.out, HNL2.out⟩
                    case measure => exact measure_lt HKN.out hwk
            · cases en with
              | true =>
                as_aux_lemma =>
                  have tok1 : True := trivial
                  have HE : Hid (apErr now x = 0 ∧ apRes now x = apLine now x) := Lib.hid ⟨he, (apErr_zero he).2.2.2⟩
                  have g0 : wrap64 ((dl : Int) + (il : Int)) = ((dl + il : Nat) : Int) := wr_add (by omega) (by omega)
                  have g0' : IntKind.i64.wrap ((dl : Int) + (il : Int)) = ((dl + il : Nat) : Int) := wi_add (by omega) (by omega)
                  have g1 : (((dl + il : Nat) : Int) > 0) = False := eq_false (by omega)
                  have g2 : ((0 : Int) < ((dl + il : Nat) : Int)) = False := eq_false (by omega)
                  have g3 : (0 < dl + il) = False := eq_false hne
                  have g3' : ((0 : Int) < (dl : Int) + (il : Int)) = False := eq_false (by omega)
                  clear he hxp hxd hxi2 hmany hne
                  go_wp2_with (first
                    | (go_at_call 41; refine (CST.out _ HT.out.now.holds (HIV.out _ HT.out.b)).mono ?_; rintro e w5 ⟨A5, c5, rfl, hr, hb⟩; have ba := bel_alloc (Below.refl w5.heap.size w5) (.cells #[.int .i64 x.p, .slice A5 dl c5, .slice Ai il ci] 24); have HT := Lib.hid ((HT.out.below hb).below ba); have HSB := Lib.hid ((HSB.out.below hb).below ba); have XD := Lib.hid (hr.below ba); have X : Hid (EBox (w5.alloc (.cells #[.int .i64 x.p, .slice A5 dl c5, .slice Ai il ci] 24)) w5.heap.size #[.int .i64 x.p, .slice A5 dl c5, .slice Ai il ci]) := Lib.hid (alloc_new _ _); have x0 := X.out.cell 0; have x1 := X.out.cell 1; have x2 := X.out.cell 2; clear hr hb ba)
                    | (go_at_call 9; refine (CAP.out _ _ _ _ HT.out.now.holds XD.out (HIV.out _ HT.out.b) HE.out.1 HE.out.2).mono ?_; rintro e w6 ⟨A6, n6, c6, rfl, hr, hb⟩; have NX := Lib.hid (hr.less HT.out.b.size); have HT := Lib.hid (HT.out.below hb); have HSB := Lib.hid (HSB.out.below hb); have XD := Lib.hid (XD.out.below hb); have X := Lib.hid (X.out.below hb); have sb0 := HSB.out.cell 0; have sb1 := HSB.out.cell 1; have sb2 := HSB.out.cell 2; have sb3 := HSB.out.cell 3; have sb4 := HSB.out.cell 4; have x0 := X.out.cell 0; have x1 := X.out.cell 1; have x2 := X.out.cell 2; clear hr hb))
                  go_roundw
                  case rel => exact ⟨k + 1, _, gs, 0, false, now, ws, HKN.out, next_val hwk, rfl, by decide, (fun h => by cases h), HT.out, HR.out, HNL.out⟩
                  case measure => exact measure_lt HKN.out hwk
              | false =>
                as_aux_lemma =>
                  have tok1 : True := trivial
                  have HE : Hid (apErr now x = 0 ∧ apRes now x = apLine now x) := Lib.hid ⟨he, (apErr_zero he).2.2.2⟩
                  have g0 : wrap64 ((dl : Int) + (il : Int)) = ((dl + il : Nat) : Int) := wr_add (by omega) (by omega)
                  have g0' : IntKind.i64.wrap ((dl : Int) + (il : Int)) = ((dl + il : Nat) : Int) := wi_add (by omega) (by omega)
                  have g1 : (((dl + il : Nat) : Int) > 0) = False := eq_false (by omega)
                  have g2 : ((0 : Int) < ((dl + il : Nat) : Int)) = False := eq_false (by omega)
                  have g3 : (0 < dl + il) = False := eq_false hne
                  have g3' : ((0 : Int) < (dl : Int) + (il : Int)) = False := eq_false (by omega)
                  clear he hxp hxd hxi2 hmany hne
                  go_wp2_with (first
                    | (go_at_call 41; refine (CST.out _ HT.out.now.holds (HIV.out _ HT.out.b)).mono ?_; rintro e w5 ⟨A5, c5, rfl, hr, hb⟩; have ba := bel_alloc (Below.refl w5.heap.size w5) (.cells #[.int .i64 x.p, .slice A5 dl c5, .slice Ai il ci] 24); have HT := Lib.hid ((HT.out.below hb).below ba); have HSB := Lib.hid ((HSB.out.below hb).below ba); have XD := Lib.hid (hr.below ba); have X : Hid (EBox (w5.alloc (.cells #[.int .i64 x.p, .slice A5 dl c5, .slice Ai il ci] 24)) w5.heap.size #[.int .i64 x.p, .slice A5 dl c5, .slice Ai il ci]) := Lib.hid (alloc_new _ _); have x0 := X.out.cell 0; have x1 := X.out.cell 1; have x2 := X.out.cell 2; clear hr hb ba)
                    | (go_at_call 9; refine (CAP.out _ _ _ _ HT.out.now.holds XD.out (HIV.out _ HT.out.b) HE.out.1 HE.out.2).mono ?_; rintro e w6 ⟨A6, n6, c6, rfl, hr, hb⟩; have NX := Lib.hid (hr.less HT.out.b.size); have HT := Lib.hid (HT.out.below hb); have HSB := Lib.hid (HSB.out.below hb); have XD := Lib.hid (XD.out.below hb); have X := Lib.hid (X.out.below hb); have sb0 := HSB.out.cell 0; have sb1 := HSB.out.cell 1; have sb2 := HSB.out.cell 2; have sb3 := HSB.out.cell 3; have sb4 := HSB.out.cell 4; have x0 := X.out.cell 0; have x1 := X.out.cell 1; have x2 := X.out.cell 2; clear hr hb))
                  go_roundw
                  case rel => exact ⟨k + 1, _, gs, 0, false, now, ws, HKN.out, next_val hwk, rfl, by decide, (fun h => by cases h), HT.out, HR.out, HNL.out⟩
                  case measure => exact measure_lt HKN.out hwk
      · clear hj
        cases beg with
        | true =>
          rcases hcase with he | he
          · cases en with
            | true =>
              as_aux_lemma =>
                have tok1 : True := trivial
                have HE : Hid (apErr now x = 3 ∧ apRes now x = []) := Lib.hid ⟨he, by unfold apRes; rw [if_neg (by rw [he]; decide)]⟩
                clear he hxp hxd hxi2 hmany
                go_wp2_with (first
                  | (go_at_call 41; refine (CST.out _ HT.out.now.holds (HIV.out _ HT.out.b)).mono ?_; rintro e w5 ⟨A5, c5, rfl, hr, hb⟩; have ba := bel_alloc (Below.refl w5.heap.size w5) (.cells #[.int .i64 x.p, .slice A5 dl c5, .slice Ai il ci] 24); have HT := Lib.hid ((HT.out.below hb).below ba); have HSB := Lib.hid ((HSB.out.below hb).below ba); have XD := Lib.hid (hr.below ba); have X : Hid (EBox (w5.alloc (.cells #[.int .i64 x.p, .slice A5 dl c5, .slice Ai il ci] 24)) w5.heap.size #[.int .i64 x.p, .slice A5 dl c5, .slice Ai il ci]) := Lib.hid (alloc_new _ _); have x0 := X.out.cell 0; have x1 := X.out.cell 1; have x2 := X.out.cell 2; clear hr hb ba)
                  | (go_at_call 9; refine (CAP.out _ _ _ _ HT.out.now.holds XD.out (HIV.out _ HT.out.b) HE.out.1 HE.out.2).mono ?_; rintro e w6 ⟨A6, n6, c6, rfl, hr, hb⟩; have NX := Lib.hid (hr.less HT.out.b.size); have HT := Lib.hid (HT.out.below hb); have HSB := Lib.hid (HSB.out.below hb); have XD := Lib.hid (XD.out.below hb); have X := Lib.hid (X.out.below hb); have sb0 := HSB.out.cell 0; have sb1 := HSB.out.cell 1; have sb2 := HSB.out.cell 2; have sb3 := HSB.out.cell 3; have sb4 := HSB.out.cell 4; have x0 := X.out.cell 0; have x1 := X.out.cell 1; have x2 := X.out.cell 2; clear hr hb)
                  | (go_at_call 23; refine (end_any _ _ _ HT.out.lat).mono ?_; rintro e w11 ⟨rfl, hl, ht⟩; rw [end_is rfl] at hl; have HT := Lib.hid (HT.out.call hl ht); clear hl ht))
                go_roundw
                case rel => exact ⟨k + 1, _, gs, 0, false, now, ws, HKN.out, next_val hwk, rfl, by decide, (fun h => by cases h), HT.out, HR.out, HNL.out⟩
                case measure => exact measure_lt HKN.out hwk
            | false =>
              as_aux_lemma =>
                have tok1 : True := trivial
                have HE : Hid (apErr now x = 3 ∧ apRes now x = []) := Lib.hid ⟨he, by unfold apRes; rw [if_neg (by rw [he]; decide)]⟩
                clear he hxp hxd hxi2 hmany
                go_wp2_with (first
                  | (go_at_call 41; refine (CST.out _ HT.out.now.holds (HIV.out _ HT.out.b)).mono ?_; rintro e w5 ⟨A5, c5, rfl, hr, hb⟩; have ba := bel_alloc (Below.refl w5.heap.size w5) (.cells #[.int .i64 x.p, .slice A5 dl c5, .slice Ai il ci] 24); have HT := Lib.hid ((HT.out.below hb).below ba); have HSB := Lib.hid ((HSB.out.below hb).below ba); have XD := Lib.hid (hr.below ba); have X : Hid (EBox (w5.alloc (.cells #[.int .i64 x.p, .slice A5 dl c5, .slice Ai il ci] 24)) w5.heap.size #[.int .i64 x.p, .slice A5 dl c5, .slice Ai il ci]) := Lib.hid (alloc_new _ _); have x0 := X.out.cell 0; have x1 := X.out.cell 1; have x2 := X.out.cell 2; clear hr hb ba)
                  | (go_at_call 9; refine (CAP.out _ _ _ _ HT.out.now.holds XD.out (HIV.out _ HT.out.b) HE.out.1 HE.out.2).mono ?_; rintro e w6 ⟨A6, n6, c6, rfl, hr, hb⟩; have NX := Lib.hid (hr.less HT.out.b.size); have HT := Lib.hid (HT.out.below hb); have HSB := Lib.hid (HSB.out.below hb); have XD := Lib.hid (XD.out.below hb); have X := Lib.hid (X.out.below hb); have sb0 := HSB.out.cell 0; have sb1 := HSB.out.cell 1; have sb2 := HSB.out.cell 2; have sb3 := HSB.out.cell 3; have sb4 := HSB.out.cell 4; have x0 := X.out.cell 0; have x1 := X.out.cell 1; have x2 := X.out.cell 2; clear hr hb))
                go_roundw
                case rel => exact ⟨k + 1, _, gs, 1, joins, now, ws, HKN.out, next_val hwk, rfl, by decide, (fun _ => rfl), HT.out, HR.out, HNL.out⟩
                case measure => exact measure_lt HKN.out hwk
          · by_cases hne : 0 < dl + il
            · by_cases hmn : many gs = 16384
              · as_aux_lemma =>
                  have tok1 : True := trivial
                  have HE : Hid (apErr now x = 0 ∧ apRes now x = apLine now x) := Lib.hid ⟨he, (apErr_zero he).2.2.2⟩
                  have g0 : wrap64 ((dl : Int) + (il : Int)) = ((dl + il : Nat) : Int) := wr_add (by omega) (by omega)
                  have g0' : IntKind.i64.wrap ((dl : Int) + (il : Int)) = ((dl + il : Nat) : Int) := wi_add (by omega) (by omega)
                  have g1 : (((dl + il : Nat) : Int) > 0) = True := eq_true (by omega)
                  have g2 : ((0 : Int) < ((dl + il : Nat) : Int)) = True := eq_true (by omega)
                  have g3 : (0 < dl + il) = True := eq_true hne
                  have g3' : ((0 : Int) < (dl : Int) + (il : Int)) = True := eq_true (by omega)
                  have hxe : 0 < x.d.length + x.i.length := by rw [HDI.out.1, HDI.out.2]; exact hne
                  have HA : Hid (addErr ⟨gs, 1, joins⟩ x = 3 ∧ addS ⟨gs, 1, joins⟩ x = ⟨gs, 1, joins⟩) := Lib.hid ⟨add_three hxp hxe hmn, by unfold addS; rw [if_neg (by rw [add_three hxp hxe hmn]; decide)]⟩
                  have HMN : Hid (many gs = 16384) := Lib.hid hmn
                  clear he hxp hxd hxi2 hmany hmn hne hxe
                  go_wp2_with (first
                    | (go_at_call 41; refine (CST.out _ HT.out.now.holds (HIV.out _ HT.out.b)).mono ?_; rintro e w5 ⟨A5, c5, rfl, hr, hb⟩; have ba := bel_alloc (Below.refl w5.heap.size w5) (.cells #[.int .i64 x.p, .slice A5 dl c5, .slice Ai il ci] 24); have HT := Lib.hid ((HT.out.below hb).below ba); have HSB := Lib.hid ((HSB.out.below hb).below ba); have XD := Lib.hid (hr.below ba); have X : Hid (EBox (w5.alloc (.cells #[.int .i64 x.p, .slice A5 dl c5, .slice Ai il ci] 24)) w5.heap.size #[.int .i64 x.p, .slice A5 dl c5, .slice Ai il ci]) := Lib.hid (alloc_new _ _); have x0 := X.out.cell 0; have x1 := X.out.cell 1; have x2 := X.out.cell 2; clear hr hb ba)
                    | (go_at_call 9; refine (CAP.out _ _ _ _ HT.out.now.holds XD.out (HIV.out _ HT.out.b) HE.out.1 HE.out.2).mono ?_; rintro e w6 ⟨A6, n6, c6, rfl, hr, hb⟩; have NX := Lib.hid (hr.less HT.out.b.size); have HT := Lib.hid (HT.out.below hb); have HSB := Lib.hid (HSB.out.below hb); have XD := Lib.hid (XD.out.below hb); have X := Lib.hid (X.out.below hb); have sb0 := HSB.out.cell 0; have sb1 := HSB.out.cell 1; have sb2 := HSB.out.cell 2; have sb3 := HSB.out.cell 3; have sb4 := HSB.out.cell 4; have x0 := X.out.cell 0; have x1 := X.out.cell 1; have x2 := X.out.cell 2; clear hr hb)
                    | (go_at_call 33; have tk := tok1; clear tok1 tk; have tok2 : True := trivial; refine (len_any _ _ _ HT.out.lat).mono ?_; rintro e w7 ⟨rfl, rfl⟩; dsimp only; rw [HGL.out])
                    | (go_at_call 19; refine (add_any _ _ _ HT.out.lat x _ _ XD.out (HXI.out ▸ HIV.out _ HT.out.b) HDL.out.1 HDL.out.2.1 HDL.out.2.2).mono ?_; rintro e w8 ⟨rfl, hl, ht⟩; rw [HA.out.1]; rw [HA.out.2] at hl; have HT := Lib.hid (HT.out.add hl ht); clear hl ht)
                    | (go_at_call 35; refine (editsL_any _ _ _ HT.out.lat).mono ?_; rintro e w9 ⟨rfl, rfl⟩; dsimp only; rw [HMN.out]))
                  go_ret
                  exact ⟨rfl, HT.out.b⟩
              · have hmn : many gs < 16384 := by omega
                cases joins with
                | true =>
                  cases en with
                  | true =>
                    as_aux_lemma =>
                      have tok1 : True := trivial
                      have HE : Hid (apErr now x = 0 ∧ apRes now x = apLine now x) := Lib.hid ⟨he, (apErr_zero he).2.2.2⟩
                      have g0 : wrap64 ((dl : Int) + (il : Int)) = ((dl + il : Nat) : Int) := wr_add (by omega) (by omega)
                      have g0' : IntKind.i64.wrap ((dl : Int) + (il : Int)) = ((dl + il : Nat) : Int) := wi_add (by omega) (by omega)
                      have g1 : (((dl + il : Nat) : Int) > 0) = True := eq_true (by omega)
                      have g2 : ((0 : Int) < ((dl + il : Nat) : Int)) = True := eq_true (by omega)
                      have g3 : (0 < dl + il) = True := eq_true hne
                      have g3' : ((0 : Int) < (dl : Int) + (il : Int)) = True := eq_true (by omega)
                      have hxe : 0 < x.d.length + x.i.length := by rw [HDI.out.1, HDI.out.2]; exact hne
                      have HA : Hid (addErr ⟨gs, 1, true⟩ x = 0 ∧ addS ⟨gs, 1, true⟩ x = ⟨pushG gs x true, 1, decide (0 < 1)⟩) := Lib.hid (add_zero hxp hxe hmn)
                      have HPL : Hid ((pushG gs x true).length = gl) := Lib.hid (by rw [push_len HJN.out, HGL.out]; rfl)
                      have HR2 := Lib.hid (HR.out.push he HNL.out (j := true) HJN.out)
                      have HNL2 : Hid ((apLine now x).length ≤ 1024) := Lib.hid (apErr_zero he).2.2.1
                      have g4 : ((gl : Int) > (gl : Int)) = False := eq_false (by omega)
                      clear he hxp hxd hxi2 hmany hmn hne hxe
                      go_wp2_with (first
                        | (go_at_call 41; refine (CST.out _ HT.out.now.holds (HIV.out _ HT.out.b)).mono ?_; rintro e w5 ⟨A5, c5, rfl, hr, hb⟩; have ba := bel_alloc (Below.refl w5.heap.size w5) (.cells #[.int .i64 x.p, .slice A5 dl c5, .slice Ai il ci] 24); have HT := Lib.hid ((HT.out.below hb).below ba); have HSB := Lib.hid ((HSB.out.below hb).below ba); have XD := Lib.hid (hr.below ba); have X : Hid (EBox (w5.alloc (.cells #[.int .i64 x.p, .slice A5 dl c5, .slice Ai il ci] 24)) w5.heap.size #[.int .i64 x.p, .slice A5 dl c5, .slice Ai il ci]) := Lib.hid (alloc_new _ _); have x0 := X.out.cell 0; have x1 := X.out.cell 1; have x2 := X.out.cell 2; clear hr hb ba)
                        | (go_at_call 9; refine (CAP.out _ _ _ _ HT.out.now.holds XD.out (HIV.out _ HT.out.b) HE.out.1 HE.out.2).mono ?_; rintro e w6 ⟨A6, n6, c6, rfl, hr, hb⟩; have NX := Lib.hid (hr.less HT.out.b.size); have HT := Lib.hid (HT.out.below hb); have HSB := Lib.hid (HSB.out.below hb); have XD := Lib.hid (XD.out.below hb); have X := Lib.hid (X.out.below hb); have sb0 := HSB.out.cell 0; have sb1 := HSB.out.cell 1; have sb2 := HSB.out.cell 2; have sb3 := HSB.out.cell 3; have sb4 := HSB.out.cell 4; have x0 := X.out.cell 0; have x1 := X.out.cell 1; have x2 := X.out.cell 2; clear hr hb)
                        | (go_at_call 33; have tk := tok1; clear tok1 tk; have tok2 : True := trivial; refine (len_any _ _ _ HT.out.lat).mono ?_; rintro e w7 ⟨rfl, rfl⟩; dsimp only; rw [HGL.out])
                        | (go_at_call 19; refine (add_any _ _ _ HT.out.lat x _ _ XD.out (HXI.out ▸ HIV.out _ HT.out.b) HDL.out.1 HDL.out.2.1 HDL.out.2.2).mono ?_; rintro e w8 ⟨rfl, hl, ht⟩; rw [HA.out.1]; rw [HA.out.2] at hl; have NX : Hid (RRow w8 w.heap.size (.slice A6 n6 c6) (apLine now x)) := Lib.hid (own_notlist NX.out HT.out.lat.listed.choose_spec (by decide) ht); have HSB := Lib.hid (HSB.out.touch ht HGS.out); have HT := Lib.hid (HT.out.add hl ht); have sb0 := HSB.out.cell 0; have sb1 := HSB.out.cell 1; have sb2 := HSB.out.cell 2; have sb3 := HSB.out.cell 3; have sb4 := HSB.out.cell 4; clear hl ht)
                        | (go_at_call 33; have tk := tok2; clear tok2 tk; refine (len_any _ _ _ HT.out.lat).mono ?_; rintro e w9 ⟨rfl, rfl⟩; dsimp only; rw [HPL.out]; have HT := Lib.hid (HT.out.next NX.out))
                        | (go_at_call 23; refine (end_any _ _ _ HT.out.lat).mono ?_; rintro e w11 ⟨rfl, hl, ht⟩; rw [end_is rfl] at hl; have HT := Lib.hid (HT.out.call hl ht); clear hl ht))
                      go_roundw
                      case rel => exact ⟨k + 1, _, pushG gs x true, 0, false, apLine now x, ws, HKN.out, next_val hwk, rfl, by decide, (fun h => by cases h), HT.out, HR2.out, HNL2.out⟩
                      case measure => exact measure_lt HKN.out hwk
                  | false =>
                    as_aux_lemma =>
                      have tok1 : True := trivial
                      have HE : Hid (apErr now x = 0 ∧ apRes now x = apLine now x) := Lib.hid ⟨he, (apErr_zero he).2.2.2⟩
                      have g0 : wrap64 ((dl : Int) + (il : Int)) = ((dl + il : Nat) : Int) := wr_add (by omega) (by omega)
                      have g0' : IntKind.i64.wrap ((dl : Int) + (il : Int)) = ((dl + il : Nat) : Int) := wi_add (by omega) (by omega)
                      have g1 : (((dl + il : Nat) : Int) > 0) = True := eq_true (by omega)
                      have g2 : ((0 : Int) < ((dl + il : Nat) : Int)) = True := eq_true (by omega)
                      have g3 : (0 < dl + il) = True := eq_true hne
                      have g3' : ((0 : Int) < (dl : Int) + (il : Int)) = True := eq_true (by omega)
                      have hxe : 0 < x.d.length + x.i.length := by rw [HDI.out.1, HDI.out.2]; exact hne
                      have HA : Hid (addErr ⟨gs, 1, true⟩ x = 0 ∧ addS ⟨gs, 1, true⟩ x = ⟨pushG gs x true, 1, decide (0 < 1)⟩) := Lib.hid (add_zero hxp hxe hmn)
                      have HPL : Hid ((pushG gs x true).length = gl) := Lib.hid (by rw [push_len HJN.out, HGL.out]; rfl)
                      have HR2 := Lib.hid (HR.out.push he HNL.out (j := true) HJN.out)
                      have HNL2 : Hid ((apLine now x).length ≤ 1024) := Lib.hid (apErr_zero he).2.2.1
                      have g4 : ((gl : Int) > (gl : Int)) = False := eq_false (by omega)
                      clear he hxp hxd hxi2 hmany hmn hne hxe
                      go_wp2_with (first
                        | (go_at_call 41; refine (CST.out _ HT.out.now.holds (HIV.out _ HT.out.b)).mono ?_; rintro e w5 ⟨A5, c5, rfl, hr, hb⟩; have ba := bel_alloc (Below.refl w5.heap.size w5) (.cells #[.int .i64 x.p, .slice A5 dl c5, .slice Ai il ci] 24); have HT := Lib.hid ((HT.out.below hb).below ba); have HSB := Lib.hid ((HSB.out.below hb).below ba); have XD := Lib.hid (hr.below ba); have X : Hid (EBox (w5.alloc (.cells #[.int .i64 x.p, .slice A5 dl c5, .slice Ai il ci] 24)) w5.heap.size #[.int .i64 x.p, .slice A5 dl c5, .slice Ai il ci]) := Lib.hid (alloc_new _ _); have x0 := X.out.cell 0; have x1 := X.out.cell 1; have x2 := X.out.cell 2; clear hr hb ba)
                        | (go_at_call 9; refine (CAP.out _ _ _ _ HT.out.now.holds XD.out (HIV.out _ HT.out.b) HE.out.1 HE.out.2).mono ?_; rintro e w6 ⟨A6, n6, c6, rfl, hr, hb⟩; have NX := Lib.hid (hr.less HT.out.b.size); have HT := Lib.hid (HT.out.below hb); have HSB := Lib.hid (HSB.out.below hb); have XD := Lib.hid (XD.out.below hb); have X := Lib.hid (X.out.below hb); have sb0 := HSB.out.cell 0; have sb1 := HSB.out.cell 1; have sb2 := HSB.out.cell 2; have sb3 := HSB.out.cell 3; have sb4 := HSB.out.cell 4; have x0 := X.out.cell 0; have x1 := X.out.cell 1; have x2 := X.out.cell 2; clear hr hb)
                        | (go_at_call 33; have tk := tok1; clear tok1 tk; have tok2 : True := trivial; refine (len_any _ _ _ HT.out.lat).mono ?_; rintro e w7 ⟨rfl, rfl⟩; dsimp only; rw [HGL.out])
                        | (go_at_call 19; refine (add_any _ _ _ HT.out.lat x _ _ XD.out (HXI.out ▸ HIV.out _ HT.out.b) HDL.out.1 HDL.out.2.1 HDL.out.2.2).mono ?_; rintro e w8 ⟨rfl, hl, ht⟩; rw [HA.out.1]; rw [HA.out.2] at hl; have NX : Hid (RRow w8 w.heap.size (.slice A6 n6 c6) (apLine now x)) := Lib.hid (own_notlist NX.out HT.out.lat.listed.choose_spec (by decide) ht); have HSB := Lib.hid (HSB.out.touch ht HGS.out); have HT := Lib.hid (HT.out.add hl ht); have sb0 := HSB.out.cell 0; have sb1 := HSB.out.cell 1; have sb2 := HSB.out.cell 2; have sb3 := HSB.out.cell 3; have sb4 := HSB.out.cell 4; clear hl ht)
                        | (go_at_call 33; have tk := tok2; clear tok2 tk; refine (len_any _ _ _ HT.out.lat).mono ?_; rintro e w9 ⟨rfl, rfl⟩; dsimp only; rw [HPL.out]; have HT := Lib.hid (HT.out.next NX.out)))
                      go_roundw
                      case rel => exact ⟨k + 1, _, pushG gs x true, 1, decide (0 < 1), apLine now x, ws, HKN.out, next_val hwk, rfl, by decide, (fun _ => rfl), HT.out, HR2.out, HNL2.out⟩
                      case measure => exact measure_lt HKN.out hwk
                | false =>
                  cases en with
                  | true =>
                    as_aux_lemma =>
                      have tok1 : True := trivial
                      have HE : Hid (apErr now x = 0 ∧ apRes now x = apLine now x) := Lib.hid ⟨he, (apErr_zero he).2.2.2⟩
                      have g0 : wrap64 ((dl : Int) + (il : Int)) = ((dl + il : Nat) : Int) := wr_add (by omega) (by omega)
                      have g0' : IntKind.i64.wrap ((dl : Int) + (il : Int)) = ((dl + il : Nat) : Int) := wi_add (by omega) (by omega)
                      have g1 : (((dl + il : Nat) : Int) > 0) = True := eq_true (by omega)
                      have g2 : ((0 : Int) < ((dl + il : Nat) : Int)) = True := eq_true (by omega)
                      have g3 : (0 < dl + il) = True := eq_true hne
                      have g3' : ((0 : Int) < (dl : Int) + (il : Int)) = True := eq_true (by omega)
                      have hxe : 0 < x.d.length + x.i.length := by rw [HDI.out.1, HDI.out.2]; exact hne
                      have HA : Hid (addErr ⟨gs, 1, false⟩ x = 0 ∧ addS ⟨gs, 1, false⟩ x = ⟨pushG gs x false, 1, decide (0 < 1)⟩) := Lib.hid (add_zero hxp hxe hmn)
                      have HPL : Hid ((pushG gs x false).length = gl + 1) := Lib.hid (by rw [push_len HJN.out, HGL.out]; rfl)
                      have HR2 := Lib.hid (HR.out.push he HNL.out (j := false) HJN.out)
                      have HNL2 : Hid ((apLine now x).length ≤ 1024) := Lib.hid (apErr_zero he).2.2.1
                      have g4 : (((gl + 1 : Nat) : Int) > (gl : Int)) = True := eq_true (by omega)
                      have g5 : ((gl : Int) < ((gl + 1 : Nat) : Int)) = True := eq_true (by omega)
                      have g6 : ((gl : Int) < (gl : Int) + 1) = True := eq_true (by omega)
                      clear he hxp hxd hxi2 hmany hmn hne hxe
                      go_wp2_with (first
                        | (go_at_call 41; refine (CST.out _ HT.out.now.holds (HIV.out _ HT.out.b)).mono ?_; rintro e w5 ⟨A5, c5, rfl, hr, hb⟩; have ba := bel_alloc (Below.refl w5.heap.size w5) (.cells #[.int .i64 x.p, .slice A5 dl c5, .slice Ai il ci] 24); have HT := Lib.hid ((HT.out.below hb).below ba); have HSB := Lib.hid ((HSB.out.below hb).below ba); have XD := Lib.hid (hr.below ba); have X : Hid (EBox (w5.alloc (.cells #[.int .i64 x.p, .slice A5 dl c5, .slice Ai il ci] 24)) w5.heap.size #[.int .i64 x.p, .slice A5 dl c5, .slice Ai il ci]) := Lib.hid (alloc_new _ _); have x0 := X.out.cell 0; have x1 := X.out.cell 1; have x2 := X.out.cell 2; clear hr hb ba)
                        | (go_at_call 9; refine (CAP.out _ _ _ _ HT.out.now.holds XD.out (HIV.out _ HT.out.b) HE.out.1 HE.out.2).mono ?_; rintro e w6 ⟨A6, n6, c6, rfl, hr, hb⟩; have NX := Lib.hid (hr.less HT.out.b.size); have HT := Lib.hid (HT.out.below hb); have HSB := Lib.hid (HSB.out.below hb); have XD := Lib.hid (XD.out.below hb); have X := Lib.hid (X.out.below hb); have sb0 := HSB.out.cell 0; have sb1 := HSB.out.cell 1; have sb2 := HSB.out.cell 2; have sb3 := HSB.out.cell 3; have sb4 := HSB.out.cell 4; have x0 := X.out.cell 0; have x1 := X.out.cell 1; have x2 := X.out.cell 2; clear hr hb)
                        | (go_at_call 33; have tk := tok1; clear tok1 tk; have tok2 : True := trivial; refine (len_any _ _ _ HT.out.lat).mono ?_; rintro e w7 ⟨rfl, rfl⟩; dsimp only; rw [HGL.out])
                        | (go_at_call 19; refine (add_any _ _ _ HT.out.lat x _ _ XD.out (HXI.out ▸ HIV.out _ HT.out.b) HDL.out.1 HDL.out.2.1 HDL.out.2.2).mono ?_; rintro e w8 ⟨rfl, hl, ht⟩; rw [HA.out.1]; rw [HA.out.2] at hl; have NX : Hid (RRow w8 w.heap.size (.slice A6 n6 c6) (apLine now x)) := Lib.hid (own_notlist NX.out HT.out.lat.listed.choose_spec (by decide) ht); have HSB := Lib.hid (HSB.out.touch ht HGS.out); have HT := Lib.hid (HT.out.add hl ht); have sb0 := HSB.out.cell 0; have sb1 := HSB.out.cell 1; have sb2 := HSB.out.cell 2; have sb3 := HSB.out.cell 3; have sb4 := HSB.out.cell 4; clear hl ht)
                        | (go_at_call 33; have tk := tok2; clear tok2 tk; refine (len_any _ _ _ HT.out.lat).mono ?_; rintro e w9 ⟨rfl, rfl⟩; dsimp only; rw [HPL.out])
                        | (at_builtin; obtain ⟨v10, w10, hrun, ht10, hap, hkn, hB10⟩ := (HT.out.below (bel_alloc (Below.refl w8.heap.size w8) (.cells #[.slice An nn cn] 22))).note 57 (cp := 1) (alloc_new w8 _) HWL.out; refine wpList_append_is hrun (by rfl) _ _ (by rfl) (by rfl) (by rfl) (by rfl) ?_; have NX := Lib.hid (hap _ _ (NX.out.below (bel_alloc (Below.refl w8.heap.size w8) (.cells #[.slice An nn cn] 22)))); have HSB := Lib.hid ((HSB.out.below (bel_alloc (Below.refl w8.heap.size w8) (.cells #[.slice An nn cn] 22))).keep (hkn _ _ _ _ (HSB.out.below (bel_alloc (Below.refl w8.heap.size w8) (.cells #[.slice An nn cn] 22))) (by decide))); obtain ⟨_, ⟨A10, c10, e10⟩⟩ := ht10.form; generalize (ws ++ [now]).length = nq at e10; subst e10; have HT := Lib.hid (ht10.next NX.out); have sb0 := HSB.out.cell 0; have sb1 := HSB.out.cell 1; have sb2 := HSB.out.cell 2; have sb3 := HSB.out.cell 3; have sb4 := HSB.out.cell 4; clear ht10 hap hkn hB10 hrun)
                        | (go_at_call 23; refine (end_any _ _ _ HT.out.lat).mono ?_; rintro e w11 ⟨rfl, hl, ht⟩; rw [end_is rfl] at hl; have HT := Lib.hid (HT.out.call hl ht); clear hl ht))
                      go_roundw
                      case rel => exact ⟨k + 1, _, pushG gs x false, 0, false, apLine now x, ws ++ [now], HKN.out, next_val hwk, rfl, by decide, (fun h => by cases h), HT.out, by rw [List.reverse_append]; exact HR2.out, HNL2.out⟩
                      case measure => exact measure_lt HKN.out hwk
                  | false =>
                    as_aux_lemma =>
                      have tok1 : True := trivial
                      have HE : Hid (apErr now x = 0 ∧ apRes now x = apLine now x) := Lib.hid ⟨he, (apErr_zero he).2.2.2⟩
                      have g0 : wrap64 ((dl : Int) + (il : Int)) = ((dl + il : Nat) : Int) := wr_add (by omega) (by omega)
                      have g0' : IntKind.i64.wrap ((dl : Int) + (il : Int)) = ((dl + il : Nat) : Int) := wi_add (by omega) (by omega)
                      have g1 : (((dl + il : Nat) : Int) > 0) = True := eq_true (by omega)
                      have g2 : ((0 : Int) < ((dl + il : Nat) : Int)) = True := eq_true (by omega)
                      have g3 : (0 < dl + il) = True := eq_true hne
                      have g3' : ((0 : Int) < (dl : Int) + (il : Int)) = True := eq_true (by omega)
                      have hxe : 0 < x.d.length + x.i.length := by rw [HDI.out.1, HDI.out.2]; exact hne
                      have HA : Hid (addErr ⟨gs, 1, false⟩ x = 0 ∧ addS ⟨gs, 1, false⟩ x = ⟨pushG gs x false, 1, decide (0 < 1)⟩) := Lib.hid (add_zero hxp hxe hmn)
                      have HPL : Hid ((pushG gs x false).length = gl + 1) := Lib.hid (by rw [push_len HJN.out, HGL.out]; rfl)
                      have HR2 := Lib.hid (HR.out.push he HNL.out (j := false) HJN.out)
                      have HNL2 : Hid ((apLine now x).length ≤ 1024) := Lib.hid (apErr_zero he).2.2.1
                      have g4 : (((gl + 1 : Nat) : Int) > (gl : Int)) = True := eq_true (by omega)
                      have g5 : ((gl : Int) < ((gl + 1 : Nat) : Int)) = True := eq_true (by omega)
                      have g6 : ((gl : Int) < (gl : Int) + 1) = True := eq_true (by omega)
                      clear he hxp hxd hxi2 hmany hmn hne hxe
                      go_wp2_with (first
                        | (go_at_call 41; refine (CST.out _ HT.out.now.holds (HIV.out _ HT.out.b)).mono ?_; rintro e w5 ⟨A5, c5, rfl, hr, hb⟩; have ba := bel_alloc (Below.refl w5.heap.size w5) (.cells #[.int .i64 x.p, .slice A5 dl c5, .slice Ai il ci] 24); have HT := Lib.hid ((HT.out.below hb).below ba); have HSB := Lib.hid ((HSB.out.below hb).below ba); have XD := Lib.hid (hr.below ba); have X : Hid (EBox (w5.alloc (.cells #[.int .i64 x.p, .slice A5 dl c5, .slice Ai il ci] 24)) w5.heap.size #[.int .i64 x.p, .slice A5 dl c5, .slice Ai il ci]) := Lib.hid (alloc_new _ _); have x0 := X.out.cell 0; have x1 := X.out.cell 1; have x2 := X.out.cell 2; clear hr hb ba)
                        | (go_at_call 9; refine (CAP.out _ _ _ _ HT.out.now.holds XD.out (HIV.out _ HT.out.b) HE.out.1 HE.out.2).mono ?_; rintro e w6 ⟨A6, n6, c6, rfl, hr, hb⟩; have NX := Lib.hid (hr.less HT.out.b.size); have HT := Lib.hid (HT.out.below hb); have HSB := Lib.hid (HSB.out.below hb); have XD := Lib.hid (XD.out.below hb); have X := Lib.hid (X.out.below hb); have sb0 := HSB.out.cell 0; have sb1 := HSB.out.cell 1; have sb2 := HSB.out.cell 2; have sb3 := HSB.out.cell 3; have sb4 := HSB.out.cell 4; have x0 := X.out.cell 0; have x1 := X.out.cell 1; have x2 := X.out.cell 2; clear hr hb)
                        | (go_at_call 33; have tk := tok1; clear tok1 tk; have tok2 : True := trivial; refine (len_any _ _ _ HT.out.lat).mono ?_; rintro e w7 ⟨rfl, rfl⟩; dsimp only; rw [HGL.out])
                        | (go_at_call 19; refine (add_any _ _ _ HT.out.lat x _ _ XD.out (HXI.out ▸ HIV.out _ HT.out.b) HDL.out.1 HDL.out.2.1 HDL.out.2.2).mono ?_; rintro e w8 ⟨rfl, hl, ht⟩; rw [HA.out.1]; rw [HA.out.2] at hl; have NX : Hid (RRow w8 w.heap.size (.slice A6 n6 c6) (apLine now x)) := Lib.hid (own_notlist NX.out HT.out.lat.listed.choose_spec (by decide) ht); have HSB := Lib.hid (HSB.out.touch ht HGS.out); have HT := Lib.hid (HT.out.add hl ht); have sb0 := HSB.out.cell 0; have sb1 := HSB.out.cell 1; have sb2 := HSB.out.cell 2; have sb3 := HSB.out.cell 3; have sb4 := HSB.out.cell 4; clear hl ht)
                        | (go_at_call 33; have tk := tok2; clear tok2 tk; refine (len_any _ _ _ HT.out.lat).mono ?_; rintro e w9 ⟨rfl, rfl⟩; dsimp only; rw [HPL.out])
                        | (at_builtin; obtain ⟨v10, w10, hrun, ht10, hap, hkn, hB10⟩ := (HT.out.below (bel_alloc (Below.refl w8.heap.size w8) (.cells #[.slice An nn cn] 22))).note 57 (cp := 1) (alloc_new w8 _) HWL.out; refine wpList_append_is hrun (by rfl) _ _ (by rfl) (by rfl) (by rfl) (by rfl) ?_; have NX := Lib.hid (hap _ _ (NX.out.below (bel_alloc (Below.refl w8.heap.size w8) (.cells #[.slice An nn cn] 22)))); have HSB := Lib.hid ((HSB.out.below (bel_alloc (Below.refl w8.heap.size w8) (.cells #[.slice An nn cn] 22))).keep (hkn _ _ _ _ (HSB.out.below (bel_alloc (Below.refl w8.heap.size w8) (.cells #[.slice An nn cn] 22))) (by decide))); obtain ⟨_, ⟨A10, c10, e10⟩⟩ := ht10.form; generalize (ws ++ [now]).length = nq at e10; subst e10; have HT := Lib.hid (ht10.next NX.out); have sb0 := HSB.out.cell 0; have sb1 := HSB.out.cell 1; have sb2 := HSB.out.cell 2; have sb3 := HSB.out.cell 3; have sb4 := HSB.out.cell 4; clear ht10 hap hkn hB10 hrun))
                      go_roundw
                      case rel => exact ⟨k + 1, _, pushG gs x false, 1, decide (0 < 1), apLine now x, ws ++ [now], HKN.out, next_val hwk, rfl, by decide, (fun _ => rfl), HT.out, by rw [List.reverse_append]; exact HR2.out, HNL2.out⟩
                      case measure => exact measure_lt HKN.out hwk
            · cases en with
              | true =>
                as_aux_lemma =>
                  have tok1 : True := trivial
                  have HE : Hid (apErr now x = 0 ∧ apRes now x = apLine now x) := Lib.hid ⟨he, (apErr_zero he).2.2.2⟩
                  have g0 : wrap64 ((dl : Int) + (il : Int)) = ((dl + il : Nat) : Int) := wr_add (by omega) (by omega)
                  have g0' : IntKind.i64.wrap ((dl : Int) + (il : Int)) = ((dl + il : Nat) : Int) := wi_add (by omega) (by omega)
                  have g1 : (((dl + il : Nat) : Int) > 0) = False := eq_false (by omega)
                  have g2 : ((0 : Int) < ((dl + il : Nat) : Int)) = False := eq_false (by omega)
                  have g3 : (0 < dl + il) = False := eq_false hne
                  have g3' : ((0 : Int) < (dl : Int) + (il : Int)) = False := eq_false (by omega)
                  clear he hxp hxd hxi2 hmany hne
                  go_wp2_with (first
                    | (go_at_call 41; refine (CST.out _ HT.out.now.holds (HIV.out _ HT.out.b)).mono ?_; rintro e w5 ⟨A5, c5, rfl, hr, hb⟩; have ba := bel_alloc (Below.refl w5.heap.size w5) (.cells #[.int .i64 x.p, .slice A5 dl c5, .slice Ai il ci] 24); have HT := Lib.hid ((HT.out.below hb).below ba); have HSB := Lib.hid ((HSB.out.below hb).below ba); have XD := Lib.hid (hr.below ba); have X : Hid (EBox (w5.alloc (.cells #[.int .i64 x.p, .slice A5 dl c5, .slice Ai il ci] 24)) w5.heap.size #[.int .i64 x.p, .slice A5 dl c5, .slice Ai il ci]) := Lib.hid (alloc_new _ _); have x0 := X.out.cell 0; have x1 := X.out.cell 1; have x2 := X.out.cell 2; clear hr hb ba)
                    | (go_at_call 9; refine (CAP.out _ _ _ _ HT.out.now.holds XD.out (HIV.out _ HT.out.b) HE.out.1 HE.out.2).mono ?_; rintro e w6 ⟨A6, n6, c6, rfl, hr, hb⟩; have NX := Lib.hid (hr.less HT.out.b.size); have HT := Lib.hid (HT.out.below hb); have HSB := Lib.hid (HSB.out.below hb); have XD := Lib.hid (XD.out.below hb); have X := Lib.hid (X.out.below hb); have sb0 := HSB.out.cell 0; have sb1 := HSB.out.cell 1; have sb2 := HSB.out.cell 2; have sb3 := HSB.out.cell 3; have sb4 := HSB.out.cell 4; have x0 := X.out.cell 0; have x1 := X.out.cell 1; have x2 := X.out.cell 2; clear hr hb)
                    | (go_at_call 23; refine (end_any _ _ _ HT.out.lat).mono ?_; rintro e w11 ⟨rfl, hl, ht⟩; rw [end_is rfl] at hl; have HT := Lib.hid (HT.out.call hl ht); clear hl ht))
                  go_roundw
                  case rel => exact ⟨k + 1, _, gs, 0, false, now, ws, HKN.out, next_val hwk, rfl, by decide, (fun h => by cases h), HT.out, HR.out, HNL.out⟩
                  case measure => exact measure_lt HKN.out hwk
              | false =>
                as_aux_lemma =>
                  have tok1 : True := trivial
                  have HE : Hid (apErr now x = 0 ∧ apRes now x = apLine now x) := Lib.hid ⟨he, (apErr_zero he).2.2.2⟩
                  have g0 : wrap64 ((dl : Int) + (il : Int)) = ((dl + il : Nat) : Int) := wr_add (by omega) (by omega)
                  have g0' : IntKind.i64.wrap ((dl : Int) + (il : Int)) = ((dl + il : Nat) : Int) := wi_add (by omega) (by omega)
                  have g1 : (((dl + il : Nat) : Int) > 0) = False := eq_false (by omega)
                  have g2 : ((0 : Int) < ((dl + il : Nat) : Int)) = False := eq_false (by omega)
                  have g3 : (0 < dl + il) = False := eq_false hne
                  have g3' : ((0 : Int) < (dl : Int) + (il : Int)) = False := eq_false (by omega)
                  clear he hxp hxd hxi2 hmany hne
                  go_wp2_with (first
                    | (go_at_call 41; refine (CST.out _ HT.out.now.holds (HIV.out _ HT.out.b)).mono ?_; rintro e w5 ⟨A5, c5, rfl, hr, hb⟩; have ba := bel_alloc (Below.refl w5.heap.size w5) (.cells #[.int .i64 x.p, .slice A5 dl c5, .slice Ai il ci] 24); have HT := Lib.hid ((HT.out.below hb).below ba); have HSB := Lib.hid ((HSB.out.below hb).below ba); have XD := Lib.hid (hr.below ba); have X : Hid (EBox (w5.alloc (.cells #[.int .i64 x.p, .slice A5 dl c5, .slice Ai il ci] 24)) w5.heap.size #[.int .i64 x.p, .slice A5 dl c5, .slice Ai il ci]) := Lib.hid (alloc_new _ _); have x0 := X.out.cell 0; have x1 := X.out.cell 1; have x2 := X.out.cell 2; clear hr hb ba)
                    | (go_at_call 9; refine (CAP.out _ _ _ _ HT.out.now.holds XD.out (HIV.out _ HT.out.b) HE.out.1 HE.out.2).mono ?_; rintro e w6 ⟨A6, n6, c6, rfl, hr, hb⟩; have NX := Lib.hid (hr.less HT.out.b.size); have HT := Lib.hid (HT.out.below hb); have HSB := Lib.hid (HSB.out.below hb); have XD := Lib.hid (XD.out.below hb); have X := Lib.hid (X.out.below hb); have sb0 := HSB.out.cell 0; have sb1 := HSB.out.cell 1; have sb2 := HSB.out.cell 2; have sb3 := HSB.out.cell 3; have sb4 := HSB.out.cell 4; have x0 := X.out.cell 0; have x1 := X.out.cell 1; have x2 := X.out.cell 2; clear hr hb))
                  go_roundw
                  case rel => exact ⟨k + 1, _, gs, 1, joins, now, ws, HKN.out, next_val hwk, rfl, by decide, (fun _ => rfl), HT.out, HR.out, HNL.out⟩
                  case measure => exact measure_lt HKN.out hwk
        | false =>
          rcases hcase with he | he
          · cases en with
            | true =>
              as_aux_lemma =>
                have tok1 : True := trivial
                have HE : Hid (apErr now x = 3 ∧ apRes now x = []) := Lib.hid ⟨he, by unfold apRes; rw [if_neg (by rw [he]; decide)]⟩
                clear he hxp hxd hxi2 hmany
                go_wp2_with (first
                  | (go_at_call 41; refine (CST.out _ HT.out.now.holds (HIV.out _ HT.out.b)).mono ?_; rintro e w5 ⟨A5, c5, rfl, hr, hb⟩; have ba := bel_alloc (Below.refl w5.heap.size w5) (.cells #[.int .i64 x.p, .slice A5 dl c5, .slice Ai il ci] 24); have HT := Lib.hid ((HT.out.below hb).below ba); have HSB := Lib.hid ((HSB.out.below hb).below ba); have XD := Lib.hid (hr.below ba); have X : Hid (EBox (w5.alloc (.cells #[.int .i64 x.p, .slice A5 dl c5, .slice Ai il ci] 24)) w5.heap.size #[.int .i64 x.p, .slice A5 dl c5, .slice Ai il ci]) := Lib.hid (alloc_new _ _); have x0 := X.out.cell 0; have x1 := X.out.cell 1; have x2 := X.out.cell 2; clear hr hb ba)
                  | (go_at_call 9; refine (CAP.out _ _ _ _ HT.out.now.holds XD.out (HIV.out _ HT.out.b) HE.out.1 HE.out.2).mono ?_; rintro e w6 ⟨A6, n6, c6, rfl, hr, hb⟩; have NX := Lib.hid (hr.less HT.out.b.size); have HT := Lib.hid (HT.out.below hb); have HSB := Lib.hid (HSB.out.below hb); have XD := Lib.hid (XD.out.below hb); have X := Lib.hid (X.out.below hb); have sb0 := HSB.out.cell 0; have sb1 := HSB.out.cell 1; have sb2 := HSB.out.cell 2; have sb3 := HSB.out.cell 3; have sb4 := HSB.out.cell 4; have x0 := X.out.cell 0; have x1 := X.out.cell 1; have x2 := X.out.cell 2; clear hr hb)
                  | (go_at_call 23; refine (end_any _ _ _ HT.out.lat).mono ?_; rintro e w11 ⟨rfl, hl, ht⟩; rw [end_is rfl] at hl; have HT := Lib.hid (HT.out.call hl ht); clear hl ht))
                go_roundw
                case rel => exact ⟨k + 1, _, gs, 0, false, now, ws, HKN.out, next_val hwk, rfl, by decide, (fun h => by cases h), HT.out, HR.out, HNL.out⟩
                case measure => exact measure_lt HKN.out hwk
            | false =>
              as_aux_lemma =>
                have tok1 : True := trivial
                have HE : Hid (apErr now x = 3 ∧ apRes now x = []) := Lib.hid ⟨he, by unfold apRes; rw [if_neg (by rw [he]; decide)]⟩
                clear he hxp hxd hxi2 hmany
                go_wp2_with (first
                  | (go_at_call 41; refine (CST.out _ HT.out.now.holds (HIV.out _ HT.out.b)).mono ?_; rintro e w5 ⟨A5, c5, rfl, hr, hb⟩; have ba := bel_alloc (Below.refl w5.heap.size w5) (.cells #[.int .i64 x.p, .slice A5 dl c5, .slice Ai il ci] 24); have HT := Lib.hid ((HT.out.below hb).below ba); have HSB := Lib.hid ((HSB.out.below hb).below ba); have XD := Lib.hid (hr.below ba); have X : Hid (EBox (w5.alloc (.cells #[.int .i64 x.p, .slice A5 dl c5, .slice Ai il ci] 24)) w5.heap.size #[.int .i64 x.p, .slice A5 dl c5, .slice Ai il ci]) := Lib.hid (alloc_new _ _); have x0 := X.out.cell 0; have x1 := X.out.cell 1; have x2 := X.out.cell 2; clear hr hb ba)
                  | (go_at_call 9; refine (CAP.out _ _ _ _ HT.out.now.holds XD.out (HIV.out _ HT.out.b) HE.out.1 HE.out.2).mono ?_; rintro e w6 ⟨A6, n6, c6, rfl, hr, hb⟩; have NX := Lib.hid (hr.less HT.out.b.size); have HT := Lib.hid (HT.out.below hb); have HSB := Lib.hid (HSB.out.below hb); have XD := Lib.hid (XD.out.below hb); have X := Lib.hid (X.out.below hb); have sb0 := HSB.out.cell 0; have sb1 := HSB.out.cell 1; have sb2 := HSB.out.cell 2; have sb3 := HSB.out.cell 3; have sb4 := HSB.out.cell 4; have x0 := X.out.cell 0; have x1 := X.out.cell 1; have x2 := X.out.cell 2; clear hr hb))
                go_roundw
                case rel => exact ⟨k + 1, _, gs, 1, joins, now, ws, HKN.out, next_val hwk, rfl, by decide, (fun _ => rfl), HT.out, HR.out, HNL.out⟩
                case measure => exact measure_lt HKN.out hwk
          · by_cases hne : 0 < dl + il
            · by_cases hmn : many gs = 16384
              · as_aux_lemma =>
                  have tok1 : True := trivial
                  have HE : Hid (apErr now x = 0 ∧ apRes now x = apLine now x) := Lib.hid ⟨he, (apErr_zero he).2.2.2⟩
                  have g0 : wrap64 ((dl : Int) + (il : Int)) = ((dl + il : Nat) : Int) := wr_add (by omega) (by omega)
                  have g0' : IntKind.i64.wrap ((dl : Int) + (il : Int)) = ((dl + il : Nat) : Int) := wi_add (by omega) (by omega)
                  have g1 : (((dl + il : Nat) : Int) > 0) = True := eq_true (by omega)
                  have g2 : ((0 : Int) < ((dl + il : Nat) : Int)) = True := eq_true (by omega)
                  have g3 : (0 < dl + il) = True := eq_true hne
                  have g3' : ((0 : Int) < (dl : Int) + (il : Int)) = True := eq_true (by omega)
                  have hxe : 0 < x.d.length + x.i.length := by rw [HDI.out.1, HDI.out.2]; exact hne
                  have HA : Hid (addErr ⟨gs, 1, joins⟩ x = 3 ∧ addS ⟨gs, 1, joins⟩ x = ⟨gs, 1, joins⟩) := Lib.hid ⟨add_three hxp hxe hmn, by unfold addS; rw [if_neg (by rw [add_three hxp hxe hmn]; decide)]⟩
                  have HMN : Hid (many gs = 16384) := Lib.hid hmn
                  clear he hxp hxd hxi2 hmany hmn hne hxe
                  go_wp2_with (first
                    | (go_at_call 41; refine (CST.out _ HT.out.now.holds (HIV.out _ HT.out.b)).mono ?_; rintro e w5 ⟨A5, c5, rfl, hr, hb⟩; have ba := bel_alloc (Below.refl w5.heap.size w5) (.cells #[.int .i64 x.p, .slice A5 dl c5, .slice Ai il ci] 24); have HT := Lib.hid ((HT.out.below hb).below ba); have HSB := Lib.hid ((HSB.out.below hb).below ba); have XD := Lib.hid (hr.below ba); have X : Hid (EBox (w5.alloc (.cells #[.int .i64 x.p, .slice A5 dl c5, .slice Ai il ci] 24)) w5.heap.size #[.int .i64 x.p, .slice A5 dl c5, .slice Ai il ci]) := Lib.hid (alloc_new _ _); have x0 := X.out.cell 0; have x1 := X.out.cell 1; have x2 := X.out.cell 2; clear hr hb ba)
                    | (go_at_call 9; refine (CAP.out _ _ _ _ HT.out.now.holds XD.out (HIV.out _ HT.out.b) HE.out.1 HE.out.2).mono ?_; rintro e w6 ⟨A6, n6, c6, rfl, hr, hb⟩; have NX := Lib.hid (hr.less HT.out.b.size); have HT := Lib.hid (HT.out.below hb); have HSB := Lib.hid (HSB.out.below hb); have XD := Lib.hid (XD.out.below hb); have X := Lib.hid (X.out.below hb); have sb0 := HSB.out.cell 0; have sb1 := HSB.out.cell 1; have sb2 := HSB.out.cell 2; have sb3 := HSB.out.cell 3; have sb4 := HSB.out.cell 4; have x0 := X.out.cell 0; have x1 := X.out.cell 1; have x2 := X.out.cell 2; clear hr hb)
                    | (go_at_call 33; have tk := tok1; clear tok1 tk; have tok2 : True := trivial; refine (len_any _ _ _ HT.out.lat).mono ?_; rintro e w7 ⟨rfl, rfl⟩; dsimp only; rw [HGL.out])
                    | (go_at_call 19; refine (add_any _ _ _ HT.out.lat x _ _ XD.out (HXI.out ▸ HIV.out _ HT.out.b) HDL.out.1 HDL.out.2.1 HDL.out.2.2).mono ?_; rintro e w8 ⟨rfl, hl, ht⟩; rw [HA.out.1]; rw [HA.out.2] at hl; have HT := Lib.hid (HT.out.add hl ht); clear hl ht)
                    | (go_at_call 35; refine (editsL_any _ _ _ HT.out.lat).mono ?_; rintro e w9 ⟨rfl, rfl⟩; dsimp only; rw [HMN.out]))
                  go_ret
                  exact ⟨rfl, HT.out.b⟩
              · have hmn : many gs < 16384 := by omega
                cases joins with
                | true =>
                  cases en with
                  | true =>
                    as_aux_lemma =>
                      have tok1 : True := trivial
                      have HE : Hid (apErr now x = 0 ∧ apRes now x = apLine now x) := Lib.hid ⟨he, (apErr_zero he).2.2.2⟩
                      have g0 : wrap64 ((dl : Int) + (il : Int)) = ((dl + il : Nat) : Int) := wr_add (by omega) (by omega)
                      have g0' : IntKind.i64.wrap ((dl : Int) + (il : Int)) = ((dl + il : Nat) : Int) := wi_add (by omega) (by omega)
                      have g1 : (((dl + il : Nat) : Int) > 0) = True := eq_true (by omega)
                      have g2 : ((0 : Int) < ((dl + il : Nat) : Int)) = True := eq_true (by omega)
                      have g3 : (0 < dl + il) = True := eq_true hne
                      have g3' : ((0 : Int) < (dl : Int) + (il : Int)) = True := eq_true (by omega)
                      have hxe : 0 < x.d.length + x.i.length := by rw [HDI.out.1, HDI.out.2]; exact hne
                      have HA : Hid (addErr ⟨gs, 1, true⟩ x = 0 ∧ addS ⟨gs, 1, true⟩ x = ⟨pushG gs x true, 1, decide (0 < 1)⟩) := Lib.hid (add_zero hxp hxe hmn)
                      have HPL : Hid ((pushG gs x true).length = gl) := Lib.hid (by rw [push_len HJN.out, HGL.out]; rfl)
                      have HR2 := Lib.hid (HR.out.push he HNL.out (j := true) HJN.out)
                      have HNL2 : Hid ((apLine now x).length ≤ 1024) := Lib.hid (apErr_zero he).2.2.1
                      have g4 : ((gl : Int) > (gl : Int)) = False := eq_false (by omega)
                      clear he hxp hxd hxi2 hmany hmn hne hxe
                      go_wp2_with (first
                        | (go_at_call 41; refine (CST.out _ HT.out.now.holds (HIV.out _ HT.out.b)).mono ?_; rintro e w5 ⟨A5, c5, rfl, hr, hb⟩; have ba := bel_alloc (Below.refl w5.heap.size w5) (.cells #[.int .i64 x.p, .slice A5 dl c5, .slice Ai il ci] 24); have HT := Lib.hid ((HT.out.below hb).below ba); have HSB := Lib.hid ((HSB.out.below hb).below ba); have XD := Lib.hid (hr.below ba); have X : Hid (EBox (w5.alloc (.cells #[.int .i64 x.p, .slice A5 dl c5, .slice Ai il ci] 24)) w5.heap.size #[.int .i64 x.p, .slice A5 dl c5, .slice Ai il ci]) := Lib.hid (alloc_new _ _); have x0 := X.out.cell 0; have x1 := X.out.cell 1; have x2 := X.out.cell 2; clear hr hb ba)
                        | (go_at_call 9; refine (CAP.out _ _ _ _ HT.out.now.holds XD.out (HIV.out _ HT.out.b) HE.out.1 HE.out.2).mono ?_; rintro e w6 ⟨A6, n6, c6, rfl, hr, hb⟩; have NX := Lib.hid (hr.less HT.out.b.size); have HT := Lib.hid (HT.out.below hb); have HSB := Lib.hid (HSB.out.below hb); have XD := Lib.hid (XD.out.below hb); have X := Lib.hid (X.out.below hb); have sb0 := HSB.out.cell 0; have sb1 := HSB.out.cell 1; have sb2 := HSB.out.cell 2; have sb3 := HSB.out.cell 3; have sb4 := HSB.out.cell 4; have x0 := X.out.cell 0; have x1 := X.out.cell 1; have x2 := X.out.cell 2; clear hr hb)
                        | (go_at_call 33; have tk := tok1; clear tok1 tk; have tok2 : True := trivial; refine (len_any _ _ _ HT.out.lat).mono ?_; rintro e w7 ⟨rfl, rfl⟩; dsimp only; rw [HGL.out])
                        | (go_at_call 19; refine (add_any _ _ _ HT.out.lat x _ _ XD.out (HXI.out ▸ HIV.out _ HT.out.b) HDL.out.1 HDL.out.2.1 HDL.out.2.2).mono ?_; rintro e w8 ⟨rfl, hl, ht⟩; rw [HA.out.1]; rw [HA.out.2] at hl; have NX : Hid (RRow w8 w.heap.size (.slice A6 n6 c6) (apLine now x)) := Lib.hid (own_notlist NX.out HT.out.lat.listed.choose_spec (by decide) ht); have HSB := Lib.hid (HSB.out.touch ht HGS.out); have HT := Lib.hid (HT.out.add hl ht); have sb0 := HSB.out.cell 0; have sb1 := HSB.out.cell 1; have sb2 := HSB.out.cell 2; have sb3 := HSB.out.cell 3; have sb4 := HSB.out.cell 4; clear hl ht)
                        | (go_at_call 33; have tk := tok2; clear tok2 tk; refine (len_any _ _ _ HT.out.lat).mono ?_; rintro e w9 ⟨rfl, rfl⟩; dsimp only; rw [HPL.out]; have HT := Lib.hid (HT.out.next NX.out))
                        | (go_at_call 23; refine (end_any _ _ _ HT.out.lat).mono ?_; rintro e w11 ⟨rfl, hl, ht⟩; rw [end_is rfl] at hl; have HT := Lib.hid (HT.out.call hl ht); clear hl ht))
                      go_roundw
                      case rel => exact ⟨k + 1, _, pushG gs x true, 0, false, apLine now x, ws, HKN.out, next_val hwk, rfl, by decide, (fun h => by cases h), HT.out, HR2.out, HNL2.out⟩
                      case measure => exact measure_lt HKN.out hwk
                  | false =>
                    as_aux_lemma =>
                      have tok1 : True := trivial
                      have HE : Hid (apErr now x = 0 ∧ apRes now x = apLine now x) := Lib.hid ⟨he, (apErr_zero he).2.2.2⟩
                      have g0 : wrap64 ((dl : Int) + (il : Int)) = ((dl + il : Nat) : Int) := wr_add (by omega) (by omega)
                      have g0' : IntKind.i64.wrap ((dl : Int) + (il : Int)) = ((dl + il : Nat) : Int) := wi_add (by omega) (by omega)
                      have g1 : (((dl + il : Nat) : Int) > 0) = True := eq_true (by omega)
                      have g2 : ((0 : Int) < ((dl + il : Nat) : Int)) = True := eq_true (by omega)
                      have g3 : (0 < dl + il) = True := eq_true hne
                      have g3' : ((0 : Int) < (dl : Int) + (il : Int)) = True := eq_true (by omega)
                      have hxe : 0 < x.d.length + x.i.length := by rw [HDI.out.1, HDI.out.2]; exact hne
                      have HA : Hid (addErr ⟨gs, 1, true⟩ x = 0 ∧ addS ⟨gs, 1, true⟩ x = ⟨pushG gs x true, 1, decide (0 < 1)⟩) := Lib.hid (add_zero hxp hxe hmn)
                      have HPL : Hid ((pushG gs x true).length = gl) := Lib.hid (by rw [push_len HJN.out, HGL.out]; rfl)
                      have HR2 := Lib.hid (HR.out.push he HNL.out (j := true) HJN.out)
                      have HNL2 : Hid ((apLine now x).length ≤ 1024) := Lib.hid (apErr_zero he).2.2.1
                      have g4 : ((gl : Int) > (gl : Int)) = False := eq_false (by omega)
                      clear he hxp hxd hxi2 hmany hmn hne hxe
                      go_wp2_with (first
                        | (go_at_call 41; refine (CST.out _ HT.out.now.holds (HIV.out _ HT.out.b)).mono ?_; rintro e w5 ⟨A5, c5, rfl, hr, hb⟩; have ba := bel_alloc (Below.refl w5.heap.size w5) (.cells #[.int .i64 x.p, .slice A5 dl c5, .slice Ai il ci] 24); have HT := Lib.hid ((HT.out.below hb).below ba); have HSB := Lib.hid ((HSB.out.below hb).below ba); have XD := Lib.hid (hr.below ba); have X : Hid (EBox (w5.alloc (.cells #[.int .i64 x.p, .slice A5 dl c5, .slice Ai il ci] 24)) w5.heap.size #[.int .i64 x.p, .slice A5 dl c5, .slice Ai il ci]) := Lib.hid (alloc_new _ _); have x0 := X.out.cell 0; have x1 := X.out.cell 1; have x2 := X.out.cell 2; clear hr hb ba)
                        | (go_at_call 9; refine (CAP.out _ _ _ _ HT.out.now.holds XD.out (HIV.out _ HT.out.b) HE.out.1 HE.out.2).mono ?_; rintro e w6 ⟨A6, n6, c6, rfl, hr, hb⟩; have NX := Lib.hid (hr.less HT.out.b.size); have HT := Lib.hid (HT.out.below hb); have HSB := Lib.hid (HSB.out.below hb); have XD := Lib.hid (XD.out.below hb); have X := Lib.hid (X.out.below hb); have sb0 := HSB.out.cell 0; have sb1 := HSB.out.cell 1; have sb2 := HSB.out.cell 2; have sb3 := HSB.out.cell 3; have sb4 := HSB.out.cell 4; have x0 := X.out.cell 0; have x1 := X.out.cell 1; have x2 := X.out.cell 2; clear hr hb)
                        | (go_at_call 33; have tk := tok1; clear tok1 tk; have tok2 : True := trivial; refine (len_any _ _ _ HT.out.lat).mono ?_; rintro e w7 ⟨rfl, rfl⟩; dsimp only; rw [HGL.out])
                        | (go_at_call 19; refine (add_any _ _ _ HT.out.lat x _ _ XD.out (HXI.out ▸ HIV.out _ HT.out.b) HDL.out.1 HDL.out.2.1 HDL.out.2.2).mono ?_; rintro e w8 ⟨rfl, hl, ht⟩; rw [HA.out.1]; rw [HA.out.2] at hl; have NX : Hid (RRow w8 w.heap.size (.slice A6 n6 c6) (apLine now x)) := Lib.hid (own_notlist NX.out HT.out.lat.listed.choose_spec (by decide) ht); have HSB := Lib.hid (HSB.out.touch ht HGS.out); have HT := Lib.hid (HT.out.add hl ht); have sb0 := HSB.out.cell 0; have sb1 := HSB.out.cell 1; have sb2 := HSB.out.cell 2; have sb3 := HSB.out.cell 3; have sb4 := HSB.out.cell 4; clear hl ht)
                        | (go_at_call 33; have tk := tok2; clear tok2 tk; refine (len_any _ _ _ HT.out.lat).mono ?_; rintro e w9 ⟨rfl, rfl⟩; dsimp only; rw [HPL.out]; have HT := Lib.hid (HT.out.next NX.out)))
                      go_roundw
                      case rel => exact ⟨k + 1, _, pushG gs x true, 1, decide (0 < 1), apLine now x, ws, HKN.out, next_val hwk, rfl, by decide, (fun _ => rfl), HT.out, HR2.out, HNL2.out⟩
                      case measure => exact measure_lt HKN.out hwk
                | false =>
                  cases en with
                  | true =>
                    as_aux_lemma =>
                      have tok1 : True := trivial
                      have HE : Hid (apErr now x = 0 ∧ apRes now x = apLine now x) := Lib.hid ⟨he, (apErr_zero he).2.2.2⟩
                      have g0 : wrap64 ((dl : Int) + (il : Int)) = ((dl + il : Nat) : Int) := wr_add (by omega) (by omega)
                      have g0' : IntKind.i64.wrap ((dl : Int) + (il : Int)) = ((dl + il : Nat) : Int) := wi_add (by omega) (by omega)
                      have g1 : (((dl + il : Nat) : Int) > 0) = True := eq_true (by omega)
                      have g2 : ((0 : Int) < ((dl + il : Nat) : Int)) = True := eq_true (by omega)
                      have g3 : (0 < dl + il) = True := eq_true hne
                      have g3' : ((0 : Int) < (dl : Int) + (il : Int)) = True := eq_true (by omega)
                      have hxe : 0 < x.d.length + x.i.length := by rw [HDI.out.1, HDI.out.2]; exact hne
                      have HA : Hid (addErr ⟨gs, 1, false⟩ x = 0 ∧ addS ⟨gs, 1, false⟩ x = ⟨pushG gs x false, 1, decide (0 < 1)⟩) := Lib.hid (add_zero hxp hxe hmn)
                      have HPL : Hid ((pushG gs x false).length = gl + 1) := Lib.hid (by rw [push_len HJN.out, HGL.out]; rfl)
                      have HR2 := Lib.hid (HR.out.push he HNL.out (j := false) HJN.out)
                      have HNL2 : Hid ((apLine now x).length ≤ 1024) := Lib.hid (apErr_zero he).2.2.1
                      have g4 : (((gl + 1 : Nat) : Int) > (gl : Int)) = True := eq_true (by omega)
                      have g5 : ((gl : Int) < ((gl + 1 : Nat) : Int)) = True := eq_true (by omega)
                      have g6 : ((gl : Int) < (gl : Int) + 1) = True := eq_true (by omega)
                      clear he hxp hxd hxi2 hmany hmn hne hxe
                      go_wp2_with (first
                        | (go_at_call 41; refine (CST.out _ HT.out.now.holds (HIV.out _ HT.out.b)).mono ?_; rintro e w5 ⟨A5, c5, rfl, hr, hb⟩; have ba := bel_alloc (Below.refl w5.heap.size w5) (.cells #[.int .i64 x.p, .slice A5 dl c5, .slice Ai il ci] 24); have HT := Lib.hid ((HT.out.below hb).below ba); have HSB := Lib.hid ((HSB.out.below hb).below ba); have XD := Lib.hid (hr.below ba); have X : Hid (EBox (w5.alloc (.cells #[.int .i64 x.p, .slice A5 dl c5, .slice Ai il ci] 24)) w5.heap.size #[.int .i64 x.p, .slice A5 dl c5, .slice Ai il ci]) := Lib.hid (alloc_new _ _); have x0 := X.out.cell 0; have x1 := X.out.cell 1; have x2 := X.out.cell 2; clear hr hb ba)
                        | (go_at_call 9; refine (CAP.out _ _ _ _ HT.out.now.holds XD.out (HIV.out _ HT.out.b) HE.out.1 HE.out.2).mono ?_; rintro e w6 ⟨A6, n6, c6, rfl, hr, hb⟩; have NX := Lib.hid (hr.less HT.out.b.size); have HT := Lib.hid (HT.out.below hb); have HSB := Lib.hid (HSB.out.below hb); have XD := Lib.hid (XD.out.below hb); have X := Lib.hid (X.out.below hb); have sb0 := HSB.out.cell 0; have sb1 := HSB.out.cell 1; have sb2 := HSB.out.cell 2; have sb3 := HSB.out.cell 3; have sb4 := HSB.out.cell 4; have x0 := X.out.cell 0; have x1 := X.out.cell 1; have x2 := X.out.cell 2; clear hr hb)
                        | (go_at_call 33; have tk := tok1; clear tok1 tk; have tok2 : True := trivial; refine (len_any _ _ _ HT.out.lat).mono ?_; rintro e w7 ⟨rfl, rfl⟩; dsimp only; rw [HGL.out])
                        | (go_at_call 19; refine (add_any _ _ _ HT.out.lat x _ _ XD.out (HXI.out ▸ HIV.out _ HT.out.b) HDL.out.1 HDL.out.2.1 HDL.out.2.2).mono ?_; rintro e w8 ⟨rfl, hl, ht⟩; rw [HA.out.1]; rw [HA.out.2] at hl; have NX : Hid (RRow w8 w.heap.size (.slice A6 n6 c6) (apLine now x)) := Lib.hid (own_notlist NX.out HT.out.lat.listed.choose_spec (by decide) ht); have HSB := Lib.hid (HSB.out.touch ht HGS.out); have HT := Lib.hid (HT.out.add hl ht); have sb0 := HSB.out.cell 0; have sb1 := HSB.out.cell 1; have sb2 := HSB.out.cell 2; have sb3 := HSB.out.cell 3; have sb4 := HSB.out.cell 4; clear hl ht)
                        | (go_at_call 33; have tk := tok2; clear tok2 tk; refine (len_any _ _ _ HT.out.lat).mono ?_; rintro e w9 ⟨rfl, rfl⟩; dsimp only; rw [HPL.out])
                        | (at_builtin; obtain ⟨v10, w10, hrun, ht10, hap, hkn, hB10⟩ := (HT.out.below (bel_alloc (Below.refl w8.heap.size w8) (.cells #[.slice An nn cn] 22))).note 57 (cp := 1) (alloc_new w8 _) HWL.out; refine wpList_append_is hrun (by rfl) _ _ (by rfl) (by rfl) (by rfl) (by rfl) ?_; have NX := Lib.hid (hap _ _ (NX.out.below (bel_alloc (Below.refl w8.heap.size w8) (.cells #[.slice An nn cn] 22)))); have HSB := Lib.hid ((HSB.out.below (bel_alloc (Below.refl w8.heap.size w8) (.cells #[.slice An nn cn] 22))).keep (hkn _ _ _ _ (HSB.out.below (bel_alloc (Below.refl w8.heap.size w8) (.cells #[.slice An nn cn] 22))) (by decide))); obtain ⟨_, ⟨A10, c10, e10⟩⟩ := ht10.form; generalize (ws ++ [now]).length = nq at e10; subst e10; have HT := Lib.hid (ht10.next NX.out); have sb0 := HSB.out.cell 0; have sb1 := HSB.out.cell 1; have sb2 := HSB.out.cell 2; have sb3 := HSB.out.cell 3; have sb4 := HSB.out.cell 4; clear ht10 hap hkn hB10 hrun)
                        | (go_at_call 23; refine (end_any _ _ _ HT.out.lat).mono ?_; rintro e w11 ⟨rfl, hl, ht⟩; rw [end_is rfl] at hl; have HT := Lib.hid (HT.out.call hl ht); clear hl ht))
                      go_roundw
                      case rel => exact ⟨k + 1, _, pushG gs x false, 0, false, apLine now x, ws ++ [now], HKN.out, next_val hwk, rfl, by decide, (fun h => by cases h), HT.out, by rw [List.reverse_append]; exact HR2.out, HNL2.out⟩
                      case measure => exact measure_lt HKN.out hwk
                  | false =>
                    as_aux_lemma =>
                      have tok1 : True := trivial
                      have HE : Hid (apErr now x = 0 ∧ apRes now x = apLine now x) := Lib.hid ⟨he, (apErr_zero he).2.2.2⟩
                      have g0 : wrap64 ((dl : Int) + (il : Int)) = ((dl + il : Nat) : Int) := wr_add (by omega) (by omega)
                      have g0' : IntKind.i64.wrap ((dl : Int) + (il : Int)) = ((dl + il : Nat) : Int) := wi_add (by omega) (by omega)
                      have g1 : (((dl + il : Nat) : Int) > 0) = True := eq_true (by omega)
                      have g2 : ((0 : Int) < ((dl + il : Nat) : Int)) = True := eq_true (by omega)
                      have g3 : (0 < dl + il) = True := eq_true hne
                      have g3' : ((0 : Int) < (dl : Int) + (il : Int)) = True := eq_true (by omega)
                      have hxe : 0 < x.d.length + x.i.length := by rw [HDI.out.1, HDI.out.2]; exact hne
                      have HA : Hid (addErr ⟨gs, 1, false⟩ x = 0 ∧ addS ⟨gs, 1, false⟩ x = ⟨pushG gs x false, 1, decide (0 < 1)⟩) := Lib.hid (add_zero hxp hxe hmn)
                      have HPL : Hid ((pushG gs x false).length = gl + 1) := Lib.hid (by rw [push_len HJN.out, HGL.out]; rfl)
                      have HR2 := Lib.hid (HR.out.push he HNL.out (j := false) HJN.out)
                      have HNL2 : Hid ((apLine now x).length ≤ 1024) := Lib.hid (apErr_zero he).2.2.1
                      have g4 : (((gl + 1 : Nat) : Int) > (gl : Int)) = True := eq_true (by omega)
                      have g5 : ((gl : Int) < ((gl + 1 : Nat) : Int)) = True := eq_true (by omega)
                      have g6 : ((gl : Int) < (gl : Int) + 1) = True := eq_true (by omega)
                      clear he hxp hxd hxi2 hmany hmn hne hxe
                      go_wp2_with (first
                        | (go_at_call 41; refine (CST.out _ HT.out.now.holds (HIV.out _ HT.out.b)).mono ?_; rintro e w5 ⟨A5, c5, rfl, hr, hb⟩; have ba := bel_alloc (Below.refl w5.heap.size w5) (.cells #[.int .i64 x.p, .slice A5 dl c5, .slice Ai il ci] 24); have HT := Lib.hid ((HT.out.below hb).below ba); have HSB := Lib.hid ((HSB.out.below hb).below ba); have XD := Lib.hid (hr.below ba); have X : Hid (EBox (w5.alloc (.cells #[.int .i64 x.p, .slice A5 dl c5, .slice Ai il ci] 24)) w5.heap.size #[.int .i64 x.p, .slice A5 dl c5, .slice Ai il ci]) := Lib.hid (alloc_new _ _); have x0 := X.out.cell 0; have x1 := X.out.cell 1; have x2 := X.out.cell 2; clear hr hb ba)
                        | (go_at_call 9; refine (CAP.out _ _ _ _ HT.out.now.holds XD.out (HIV.out _ HT.out.b) HE.out.1 HE.out.2).mono ?_; rintro e w6 ⟨A6, n6, c6, rfl, hr, hb⟩; have NX := Lib.hid (hr.less HT.out.b.size); have HT := Lib.hid (HT.out.below hb); have HSB := Lib.hid (HSB.out.below hb); have XD := Lib.hid (XD.out.below hb); have X := Lib.hid (X.out.below hb); have sb0 := HSB.out.cell 0; have sb1 := HSB.out.cell 1; have sb2 := HSB.out.cell 2; have sb3 := HSB.out.cell 3; have sb4 := HSB.out.cell 4; have x0 := X.out.cell 0; have x1 := X.out.cell 1; have x2 := X.out.cell 2; clear hr hb)
                        | (go_at_call 33; have tk := tok1; clear tok1 tk; have tok2 : True := trivial; refine (len_any _ _ _ HT.out.lat).mono ?_; rintro e w7 ⟨rfl, rfl⟩; dsimp only; rw [HGL.out])
                        | (go_at_call 19; refine (add_any _ _ _ HT.out.lat x _ _ XD.out (HXI.out ▸ HIV.out _ HT.out.b) HDL.out.1 HDL.out.2.1 HDL.out.2.2).mono ?_; rintro e w8 ⟨rfl, hl, ht⟩; rw [HA.out.1]; rw [HA.out.2] at hl; have NX : Hid (RRow w8 w.heap.size (.slice A6 n6 c6) (apLine now x)) := Lib.hid (own_notlist NX.out HT.out.lat.listed.choose_spec (by decide) ht); have HSB := Lib.hid (HSB.out.touch ht HGS.out); have HT := Lib.hid (HT.out.add hl ht); have sb0 := HSB.out.cell 0; have sb1 := HSB.out.cell 1; have sb2 := HSB.out.cell 2; have sb3 := HSB.out.cell 3; have sb4 := HSB.out.cell 4; clear hl ht)
                        | (go_at_call 33; have tk := tok2; clear tok2 tk; refine (len_any _ _ _ HT.out.lat).mono ?_; rintro e w9 ⟨rfl, rfl⟩; dsimp only; rw [HPL.out])
                        | (at_builtin; obtain ⟨v10, w10, hrun, ht10, hap, hkn, hB10⟩ := (HT.out.below (bel_alloc (Below.refl w8.heap.size w8) (.cells #[.slice An nn cn] 22))).note 57 (cp := 1) (alloc_new w8 _) HWL.out; refine wpList_append_is hrun (by rfl) _ _ (by rfl) (by rfl) (by rfl) (by rfl) ?_; have NX := Lib.hid (hap _ _ (NX.out.below (bel_alloc (Below.refl w8.heap.size w8) (.cells #[.slice An nn cn] 22)))); have HSB := Lib.hid ((HSB.out.below (bel_alloc (Below.refl w8.heap.size w8) (.cells #[.slice An nn cn] 22))).keep (hkn _ _ _ _ (HSB.out.below (bel_alloc (Below.refl w8.heap.size w8) (.cells #[.slice An nn cn] 22))) (by decide))); obtain ⟨_, ⟨A10, c10, e10⟩⟩ := ht10.form; generalize (ws ++ [now]).length = nq at e10; subst e10; have HT := Lib.hid (ht10.next NX.out); have sb0 := HSB.out.cell 0; have sb1 := HSB.out.cell 1; have sb2 := HSB.out.cell 2; have sb3 := HSB.out.cell 3; have sb4 := HSB.out.cell 4; clear ht10 hap hkn hB10 hrun))
                      go_roundw
                      case rel => exact ⟨k + 1, _, pushG gs x false, 1, decide (0 < 1), apLine now x, ws ++ [now], HKN.out, next_val hwk, rfl, by decide, (fun _ => rfl), HT.out, by rw [List.reverse_append]; exact HR2.out, HNL2.out⟩
                      case measure => exact measure_lt HKN.out hwk
            · cases en with
              | true =>
                as_aux_lemma =>
                  have tok1 : True := trivial
                  have HE : Hid (apErr now x = 0 ∧ apRes now x = apLine now x) := Lib.hid ⟨he, (apErr_zero he).2.2.2⟩
                  have g0 : wrap64 ((dl : Int) + (il : Int)) = ((dl + il : Nat) : Int) := wr_add (by omega) (by omega)
                  have g0' : IntKind.i64.wrap ((dl : Int) + (il : Int)) = ((dl + il : Nat) : Int) := wi_add (by omega) (by omega)
                  have g1 : (((dl + il : Nat) : Int) > 0) = False := eq_false (by omega)
                  have g2 : ((0 : Int) < ((dl + il : Nat) : Int)) = False := eq_false (by omega)
                  have g3 : (0 < dl + il) = False := eq_false hne
                  have g3' : ((0 : Int) < (dl : Int) + (il : Int)) = False := eq_false (by omega)
                  clear he hxp hxd hxi2 hmany hne
                  go_wp2_with (first
                    | (go_at_call 41; refine (CST.out _ HT.out.now.holds (HIV.out _ HT.out.b)).mono ?_; rintro e w5 ⟨A5, c5, rfl, hr, hb⟩; have ba := bel_alloc (Below.refl w5.heap.size w5) (.cells #[.int .i64 x.p, .slice A5 dl c5, .slice Ai il ci] 24); have HT := Lib.hid ((HT.out.below hb).below ba); have HSB := Lib.hid ((HSB.out.below hb).below ba); have XD := Lib.hid (hr.below ba); have X : Hid (EBox (w5.alloc (.cells #[.int .i64 x.p, .slice A5 dl c5, .slice Ai il ci] 24)) w5.heap.size #[.int .i64 x.p, .slice A5 dl c5, .slice Ai il ci]) := Lib.hid (alloc_new _ _); have x0 := X.out.cell 0; have x1 := X.out.cell 1; have x2 := X.out.cell 2; clear hr hb ba)
                    | (go_at_call 9; refine (CAP.out _ _ _ _ HT.out.now.holds XD.out (HIV.out _ HT.out.b) HE.out.1 HE.out.2).mono ?_; rintro e w6 ⟨A6, n6, c6, rfl, hr, hb⟩; have NX := Lib.hid (hr.less HT.out.b.size); have HT := Lib.hid (HT.out.below hb); have HSB := Lib.hid (HSB.out.below hb); have XD := Lib.hid (XD.out.below hb); have X := Lib.hid (X.out.below hb); have sb0 := HSB.out.cell 0; have sb1 := HSB.out.cell 1; have sb2 := HSB.out.cell 2; have sb3 := HSB.out.cell 3; have sb4 := HSB.out.cell 4; have x0 := X.out.cell 0; have x1 := X.out.cell 1; have x2 := X.out.cell 2; clear hr hb)
                    | (go_at_call 23; refine (end_any _ _ _ HT.out.lat).mono ?_; rintro e w11 ⟨rfl, hl, ht⟩; rw [end_is rfl] at hl; have HT := Lib.hid (HT.out.call hl ht); clear hl ht))
                  go_roundw
                  case rel => exact ⟨k + 1, _, gs, 0, false, now, ws, HKN.out, next_val hwk, rfl, by decide, (fun h => by cases h), HT.out, HR.out, HNL.out⟩
                  case measure => exact measure_lt HKN.out hwk
              | false =>
                as_aux_lemma =>
                  have tok1 : True := trivial
                  have HE : Hid (apErr now x = 0 ∧ apRes now x = apLine now x) := Lib.hid ⟨he, (apErr_zero he).2.2.2⟩
                  have g0 : wrap64 ((dl : Int) + (il : Int)) = ((dl + il : Nat) : Int) := wr_add (by omega) (by omega)
                  have g0' : IntKind.i64.wrap ((dl : Int) + (il : Int)) = ((dl + il : Nat) : Int) := wi_add (by omega) (by omega)
                  have g1 : (((dl + il : Nat) : Int) > 0) = False := eq_false (by omega)
                  have g2 : ((0 : Int) < ((dl + il : Nat) : Int)) = False := eq_false (by omega)
                  have g3 : (0 < dl + il) = False := eq_false hne
                  have g3' : ((0 : Int) < (dl : Int) + (il : Int)) = False := eq_false (by omega)
                  clear he hxp hxd hxi2 hmany hne
                  go_wp2_with (first
                    | (go_at_call 41; refine (CST.out _ HT.out.now.holds (HIV.out _ HT.out.b)).mono ?_; rintro e w5 ⟨A5, c5, rfl, hr, hb⟩; have ba := bel_alloc (Below.refl w5.heap.size w5) (.cells #[.int .i64 x.p, .slice A5 dl c5, .slice Ai il ci] 24); have HT := Lib.hid ((HT.out.below hb).below ba); have HSB := Lib.hid ((HSB.out.below hb).below ba); have XD := Lib.hid (hr.below ba); have X : Hid (EBox (w5.alloc (.cells #[.int .i64 x.p, .slice A5 dl c5, .slice Ai il ci] 24)) w5.heap.size #[.int .i64 x.p, .slice A5 dl c5, .slice Ai il ci]) := Lib.hid (alloc_new _ _); have x0 := X.out.cell 0; have x1 := X.out.cell 1; have x2 := X.out.cell 2; clear hr hb ba)
                    | (go_at_call 9; refine (CAP.out _ _ _ _ HT.out.now.holds XD.out (HIV.out _ HT.out.b) HE.out.1 HE.out.2).mono ?_; rintro e w6 ⟨A6, n6, c6, rfl, hr, hb⟩; have NX := Lib.hid (hr.less HT.out.b.size); have HT := Lib.hid (HT.out.below hb); have HSB := Lib.hid (HSB.out.below hb); have XD := Lib.hid (XD.out.below hb); have X := Lib.hid (X.out.below hb); have sb0 := HSB.out.cell 0; have sb1 := HSB.out.cell 1; have sb2 := HSB.out.cell 2; have sb3 := HSB.out.cell 3; have sb4 := HSB.out.cell 4; have x0 := X.out.cell 0; have x1 := X.out.cell 1; have x2 := X.out.cell 2; clear hr hb))
                  go_roundw
                  case rel => exact ⟨k + 1, _, gs, 1, joins, now, ws, HKN.out, next_val hwk, rfl, by decide, (fun _ => rfl), HT.out, HR.out, HNL.out⟩
                  case measure => exact measure_lt HKN.out hwk
    · obtain rfl : k = n := by omega
      have i2 : ((k : Int) < (k : Int)) = False := by simp
      have HRA := Lib.hid hrl.all
      have HRL := Lib.hid hrl
      have hlen2 := hrl.len
      rw [List.length_reverse] at hlen2
      have HES : Hid ((gs.flatten.map Ed.inv).length ≤ 16384) := Lib.hid (by rw [List.length_map]; exact hts.lat.many)
      have HEO := Lib.hid hts.lat.edok
      have HFL : Hid (gs.length ≤ gs.flatten.length) := Lib.hid (by have := full_length hts.lat.full; rw [numbered_length] at this; exact this)
      have HOK := Lib.hid hts.lat.invok
      have HGS : Hid (w.heap.size < wr.heap.size) := Lib.hid hts.lat.lt
      clear hk hlt hrl hts hone hj hnl HR HJN
      generalize hgl : gs.length = gl at *
      have HGL := Lib.hid hgl
      clear hgl
      generalize hwl : ws.length = wl at *
      have HWL := Lib.hid hwl
      clear hwl
      subst hlen2
      generalize hnn : now.length = nn at *
      have HNN := Lib.hid hnn
      clear hnn
      have HNL : Hid (now.length ≤ 1024) := Lib.hid (Nat.le_trans (Nat.le_of_eq HNN.out) HNL.out)
      have hgb := HES.out
      rw [List.length_map] at hgb
      have HGB : Hid (wl ≤ 100000) := Lib.hid (by have := HFL.out; omega)
      clear hgb
      obtain ⟨iw, hiw⟩ : ∃ i : Int, i = (wl : Int) - 1 := ⟨_, rfl⟩
      have hgl2 := HGB.out
      have hw1 : wrap64 ((wl : Int) - 1) = iw := by rw [hiw]; exact wr_pred (by omega)
      have hw2 : IntKind.i64.wrap ((wl : Int) - 1) = iw := by rw [hiw]; exact wi_pred (by omega)
      have HIW := Lib.hid hiw
      clear hiw hgl2
      go_wp2_with (first
        | (go_at_call 31; refine (clone_list _ _ _ HT.out.lat).mono ?_; rintro e w2 ⟨rfl, hl, hb⟩; have C := Lib.hid hl; have HT := Lib.hid (HT.out.below hb); clear hl hb)
        | (go_at_call 33; refine (len_any _ _ _ HT.out.lat).mono ?_; rintro e w3 ⟨rfl, rfl⟩; dsimp only; rw [HGL.out])
        | (go_at_call 28; refine (revert_any _ _ _ C.out).mono ?_; rintro e w4 ⟨A4, n4, c4, rfl, hr, hl, ht⟩; have R4 := Lib.hid hr; have HT := Lib.hid (HT.out.aside C.out (by have := HGS.out; omega) (by have := HGS.out; omega) ht); clear hr hl ht)
        | (go_at_call 42; refine (done_any _ now line _ _ _ HT.out.now.holds R4.out.holds HRA.out HNL.out HES.out HOK.out).mono ?_; rintro e w5 ⟨A5, n5, c5, rfl, hh, -, hb⟩; have X := Lib.hid hh; have HT := Lib.hid (HT.out.below hb); clear hh hb)
        | (go_at_call 14; refine (samer_is _ line _ _ X.out (L.out _ HT.out.b) (by have := HLEN.out; have := HM.out; omega)).mono ?_; rintro e w6 ⟨rfl, hb⟩; have HT := Lib.hid (HT.out.below hb); clear hb))
      go_loopw [6, 18] (fun nv iv wr => ∃ r opn joins l iw, TB2 w w.heap.size K line (.slice Aw wl cw) ws nv iv wr r opn joins l iw) (fun _ iv _ => (RowKit.intOf iv + 1).toNat)
      case atStart => exact ⟨gs, opn, joins, now, iw, rfl, by rw [HGL.out]; exact HIW.out, HT.out, by rw [HGL.out, ← HWL.out, List.take_length]; exact HRL.out, HNL.out, by rw [HGL.out, HWL.out]; exact Nat.le_refl _⟩
      clear HT HRA HRL HES HEO HOK HGS HGL HNN HNL C R4 X
      case round =>
        obtain ⟨r, opn2, joins2, l, iw2, hI⟩ := hrel
        obtain ⟨rfl, hiw, hts, hrl, hnl, hle⟩ := hI
        obtain ⟨⟨An, cn, rfl⟩, -⟩ := hts.form
        cases r with
        | nil =>
          have i5 : (iw2 ≥ 0) = False := eq_false (by rw [hiw]; decide)
          have i6 : (0 ≤ iw2) = False := i5
          have i7 : (iw2 < 0) = True := eq_true (by rw [hiw]; decide)
          have HT := Lib.hid hts
          clear hiw hts hrl hnl hle
          generalize l.length = nl at *
          go_wp2_with (first
            | (go_at_call 25; refine (undo_none _ _ _ HT.out.lat rfl).mono ?_; rintro e w9 ⟨rfl, rfl⟩))
          go_ret
          exact ⟨rfl, HT.out.b⟩
        | cons g0 r =>
          obtain ⟨x, hx, hd, hrl⟩ := hrl.step hle
          have HX := Lib.hid hx
          have HXL : Hid (x.length ≤ 1024) := Lib.hid (hd.short hnl)
          obtain ⟨b, cb, A9, n9, c9, e9, -, -⟩ := hts.was.at hx
          injection e9 with e91 e92 e93
          clear e92
          subst e91 e93
          have HG0 : Hid (g0.map Ed.inv ≠ []) := Lib.hid (by have := (full_cons hts.lat.full).1; simpa using this)
          have HES : Hid ((g0.map Ed.inv).length ≤ 16384) := Lib.hid (by have := hts.lat.many; rw [many_cons] at this; rw [List.length_map]; omega)
          have HOK : Hid (∀ e ∈ g0.map Ed.inv, e.d.length ≤ 35184372088832 ∧ e.i.length ≤ 35184372088832) := Lib.hid fun e he => hts.lat.invok e (by rw [List.flatten_cons, List.map_append]; exact List.mem_append_left _ he)
          have HT := Lib.hid hts
          have HD := Lib.hid hd
          have HRR := Lib.hid hrl
          have HLE := Lib.hid hle
          have hjl : r.length < wl := by have := HWL.out; rw [← this]; rw [List.length_cons] at hle; omega
          have HNL := Lib.hid hnl
          have hiw3 : iw2 = (r.length : Int) := by rw [hiw, List.length_cons]; omega
          clear hiw
          subst hiw3
          clear hx hd hrl hts hle hnl
          generalize hj : r.length = j at *
          have HJ := Lib.hid hj
          clear hj
          generalize hnl2 : l.length = nl at *
          have HNL : Hid (l.length ≤ 1024) := Lib.hid (Nat.le_trans (Nat.le_of_eq hnl2) HNL.out)
          clear hnl2
          have i5 : ((j : Int) ≥ 0) = True := eq_true (by omega)
          have i6 : ((0 : Int) ≤ (j : Int)) = True := eq_true (by omega)
          have i7 : ((j : Int) < 0) = False := eq_false (by omega)
          have i8 : ((j : Int) < (wl : Int)) = True := eq_true (by omega)
          have i9 : (j < wl) = True := eq_true hjl
          obtain ⟨iw3, hiw3⟩ : ∃ i : Int, i = (j : Int) - 1 := ⟨_, rfl⟩
          have hgl2 := HGB.out
          have hw1 : wrap64 ((j : Int) - 1) = iw3 := by rw [hiw3]; exact wr_pred (by omega)
          have hw2 : IntKind.i64.wrap ((j : Int) - 1) = iw3 := by rw [hiw3]; exact wi_pred (by omega)
          have HIW3 := Lib.hid hiw3
          clear hiw3 hgl2
          go_wp2_with (first
            | (go_at_call 25; refine (undo_some _ _ _ HT.out.lat g0 r rfl).mono ?_; rintro e w7 ⟨A7, n7, c7, rfl, hr, hl, ht⟩; have R7 := Lib.hid hr; have HT := Lib.hid (HT.out.call hl ht); clear hr hl ht)
            | (go_at_call 42; refine (done_any _ l x _ _ _ HT.out.now.holds R7.out.holds HD.out HNL.out HES.out HOK.out).mono ?_; rintro e w8 ⟨A8, n8, c8, rfl, -, hh, hb⟩; have X := Lib.hid ((hh HG0.out).less HT.out.b.size); have HT := Lib.hid (HT.out.below hb); have HT := Lib.hid (HT.out.next X.out); obtain ⟨A9, n9, c9, st9, hx9⟩ := HT.out.was.cellAt HX.out; have HX9 := Lib.hid hx9; clear hx9 hh hb)
            | (go_at_call 14; refine (samer_is _ x _ _ HT.out.now.holds HX9.out (by have := HXL.out; omega)).mono ?_; rintro e w6 ⟨rfl, hb⟩; have HT := Lib.hid (HT.out.below hb); clear hb))
          go_roundw
          case rel => exact ⟨r, 0, false, x, iw3, rfl, by rw [HJ.out]; exact HIW3.out, HT.out, by rw [HJ.out]; exact HRR.out, HXL.out, by have := HLE.out; rw [List.length_cons] at this; omega⟩
          case measure =>
            have := HIW3.out
            show (iw3 + 1).toNat < ((j : Int) + 1).toNat
            omega
end Go.Proofs.Ytjgjbdpknfplkaa

