/-
  Proved here: the law UcellBack returns true for every slice of numbers and every slice of bytes, where what it reads is of bulk at most 1048576, and leaves them as they were (runes that are written as bytes and read again are these).
  Conditions: those of the given card alone (that bound; the three tables lie as the program's text lays them).
-/
import Derived.Test.YtalfodcjpnjmaaaDoorLive
import Derived.Test.YtalfodcjpnjmaaaDoorWit
import Derived.Test.YtalfodcjpnjmaaaDoorBackP
namespace Go.Proofs.YtalfodcjpnjmaaaDoor.lawBack
open Go.ChangeShapes Go.WideShapes Go.ChangeAt Go.RowKit

/-- the loop that keeps the runes -/
def GoodRel (l : List Int) (w : World) (u i : Value) (wr : World) : Prop :=
  ∃ k : Nat, k ≤ l.length ∧ i = .int .i64 k ∧ wr.ownsRow w.heap.size 21 1 u ((l.take k).filter vld).length (runeVals ((l.take k).filter vld)) ∧ Below w.heap.size w wr

theorem filter_snoc (l : List Int) (k : Nat) (h : k < l.length) : (l.take (k + 1)).filter vld = (l.take k).filter vld ++ if vld l[k] = true then [l[k]] else [] := by
  rw [List.take_succ_eq_append_getElem h, List.filter_append]
  congr 1
  cases hv : vld l[k] <;> simp [hv]

set_option maxHeartbeats 2000000 in
theorem walk (l : List Int) (s : List UInt8) (A B : Option Addr) (c d : Nat) (w : World) (hT : Tabs w) (hv : Holds1 w (.slice A l.length c) (runeVals l)) (hv' : Holds1 w (.slice B s.length d) (byteVals s)) (hl : l.length ≤ 1048576) (hs : s.length ≤ 1048576) :
    Calls Tryd.prog 8 #[.slice A l.length c, .slice B s.length d] w fun e w' => e = .returned (.bool true) ∧ Below w.heap.size w w' := by
  obtain ⟨i0, hi, hz0, hz1, hz2⟩ := info_parts info_rune
  have H : Hid (0 < l.length → ∃ b off, A = some ⟨b, off, none⟩ ∧ b < w.heap.size ∧ ∀ j u, (runeVals l)[j]? = some u → w.cell? ⟨b, off + j, none⟩ = some u) := by
    obtain ⟨A', c', e, -, h⟩ := hv
    injection e with e1
    subst e1
    have e : (runeVals l).length = l.length := by simp [runeVals]
    rw [e] at h
    exact Lib.hid h
  have HT := Lib.hid hT
  have HV' := Lib.hid hv'
  clear hT hv hv'
  go_enter Tryd.func8, Tryd.ntmps8
  go_wp2
  go_loopw [5, 11] (fun u i wr => GoodRel l w u i wr) (fun _ i _ => l.length - (intOf i).toNat)
  case atStart => exact ⟨0, by omega, rfl, World.ownsRow_nil _ _ _ _, Below.refl _ _⟩
  case round =>
    obtain ⟨k, hk, rfl, ho, hb⟩ := hrel
    have HO := Lib.hid ho
    clear ho
    have hsz := hb.size
    by_cases hlt : k < l.length
    · obtain ⟨b, off, rfl, hblk, hcell⟩ := H.out (by omega)
      have hx : (runeVals l)[k]? = some (.int .i32 l[k]) := by simp [runeVals, hlt]
      have h1 : wr.cell? ⟨b, off + k, none⟩ = some (.int .i32 l[k]) := (hb.cell (p := ⟨b, off + k, none⟩) hblk).trans (hcell k _ hx)
      have HX := Lib.hid (filter_snoc l k hlt)
      have hfl : ((l.take k).filter vld).length ≤ l.length := Nat.le_trans (List.length_filter_le _ _) (by rw [List.length_take]; omega)
      have hroom : (((l.take k).filter vld).length + 1) * 4 ≤ 140737488355328 := by omega
      have h63 : ((l.take k).filter vld).length + 1 ≤ maxLen := by unfold maxLen; omega
      have HM := Lib.hid hroom
      have HM2 := Lib.hid h63
      have CR := Lib.hid (refRune_any l[k] wr)
      clear hcell hx hroom h63 hfl
      generalize l[k] = x at *
      generalize (l.take k).filter vld = out at *
      cases hvx : vld x
      · rw [hvx] at CR HX
        clear hvx
        go_wp2_with (go_at_call 36; refine (CR.out).mono ?_; rintro e w' ⟨rfl, rfl⟩)
        go_roundw
        case rel => exact ⟨k + 1, by omega, by go_num, by rw [HX.out]; simpa using HO.out, hb⟩
        case measure => simp [intOf]; omega
      · rw [hvx] at CR HX
        clear hvx
        go_wp2_with (first
          | (go_at_call 36; refine (CR.out).mono ?_; rintro e w' ⟨rfl, rfl⟩)
          | (at_builtin; refine append_one wr rfl _ _ 23 rfl w.heap.size 21 i0 (.int .i32 0) 4 Tryd.underlying23 hi hz0 hz1 hz2 rfl _ out.length (runeVals out) rfl (by exact HO.out) (.int .i32 x) rfl rfl HM2.out HM.out hsz ?_; intro v' w3 hown' hb3))
        go_roundw
        case rel => exact ⟨k + 1, by omega, by go_num, by rw [HX.out]; simpa [runeVals] using hown', hb.trans hb3⟩
        case measure => simp [intOf]; omega
    · have e : l.take k = l := List.take_of_length_le (by omega)
      rw [e] at HO
      have hgv : ∀ z ∈ l.filter vld, vld z = true := fun z hz => (List.mem_filter.1 hz).2
      have hgl : (l.filter vld).length ≤ 1048576 := Nat.le_trans (List.length_filter_le _ _) hl
      have HGV := Lib.hid hgv
      clear e hgv
      generalize l.filter vld = good at *
      have hsl := decAll_le s
      go_wp2_with fail
      refine (runes_any s _ wr (HT.out.below hb) (HV'.out.below hb) (by omega)).mono ?_
      rintro e w1 ⟨r1, rfl, ho1, hb1⟩
      have HG1 := Lib.hid ((Holds1.of_own HO.out).below hb1)
      have HS1 := Lib.hid (Holds1.of_own ho1)
      have HB1 := Lib.hid (hb.trans (hb1.mono hsz))
      obtain ⟨A1, c1, hr1⟩ := own_len ho1
      subst hr1
      clear ho1 hb1 HO hb
      have CL := Lib.hid (live_any w1 (HT.out.below HB1.out))
      go_wp2_with (go_at_call 9; refine (CL.out).mono ?_; rintro e w2 ⟨rfl, hb2⟩)
      have HB2 := Lib.hid (HB1.out.trans (hb2.mono HB1.out.size))
      have HG2 := Lib.hid (HG1.out.below hb2)
      have HS2 := Lib.hid (HS1.out.below hb2)
      clear hb2 HG1 HS1 HB1 CL
      refine (bytes_any good _ w2 HG2.out (by omega) (fun z hz => vld_range (HGV.out z hz))).mono ?_
      rintro e w3 ⟨r3, rfl, ho3, hb3⟩
      have hel := encAll_len good
      have HB3 := Lib.hid (HB2.out.trans (hb3.mono HB2.out.size))
      have HG3 := Lib.hid (HG2.out.below hb3)
      have HS3 := Lib.hid (HS2.out.below hb3)
      have HE3 := Lib.hid (Holds1.of_own ho3)
      clear ho3 hb3 HG2 HS2 HB2
      go_wp2_with fail
      refine (runes_any (encAll good) _ w3 (HT.out.below HB3.out) HE3.out (by omega)).mono ?_
      rintro e w4 ⟨r4, rfl, ho4, hb4⟩
      rw [back_all good HGV.out] at ho4
      have HB4 := Lib.hid (HB3.out.trans (hb4.mono HB3.out.size))
      have HG4 := Lib.hid (HG3.out.below hb4)
      have HS4 := Lib.hid (HS3.out.below hb4)
      have HE4 := Lib.hid (Holds1.of_own ho4)
      clear ho4 hb4 HG3 HS3 HB3 HE3
      go_wp2_with fail
      refine (equal_runes good _ _ w4 HE4.out HG4.out (by omega)).mono ?_
      rintro e w5 ⟨rfl, n5, hw5⟩
      have hb5 : Below w4.heap.size w4 w5 := by rw [hw5]; exact ⟨rfl, rfl, rfl, Nat.le_refl _, fun _ _ => rfl⟩
      have HB5 := Lib.hid (HB4.out.trans (hb5.mono HB4.out.size))
      have HS5 := Lib.hid (HS4.out.below hb5)
      clear hw5 hb5 HG4 HS4 HB4 HE4
      go_wp2_with fail
      refine (bytes_any (decAll s) _ w5 HS5.out (by omega) (fun z hz => vld_range (decAll_vld s.length s (Nat.le_refl _) z hz))).mono ?_
      rintro e w6 ⟨r6, rfl, ho6, hb6⟩
      have hel2 := encAll_len (decAll s)
      have HB6 := Lib.hid (HB5.out.trans (hb6.mono HB5.out.size))
      have HS6 := Lib.hid (HS5.out.below hb6)
      have HE6 := Lib.hid (Holds1.of_own ho6)
      clear ho6 hb6 HS5 HB5
      go_wp2_with fail
      refine (runes_any (encAll (decAll s)) _ w6 (HT.out.below HB6.out) HE6.out (by omega)).mono ?_
      rintro e w7 ⟨r7, rfl, ho7, hb7⟩
      rw [back_some s] at ho7
      have HB7 := Lib.hid (HB6.out.trans (hb7.mono HB6.out.size))
      have HS7 := Lib.hid (HS6.out.below hb7)
      have HE7 := Lib.hid (Holds1.of_own ho7)
      clear ho7 hb7 HS6 HB6 HE6
      go_wp2_with fail
      refine (equal_runes (decAll s) _ _ w7 HE7.out HS7.out (by omega)).mono ?_
      rintro e w8 ⟨rfl, n8, hw8⟩
      have HB8 : Hid (Below w.heap.size w w8) := Lib.hid (by rw [hw8]; exact ⟨HB7.out.os, HB7.out.tape, HB7.out.output, HB7.out.size, HB7.out.block⟩)
      clear hw8 HS7 HE7 HB7 hel hel2
      generalize (decAll s).length = m at *
      go_wp2
      go_ret
      exact ⟨ret_bool (by simp), HB8.out⟩

theorem contract (H : Type) (enc : TypeId × Value → H) (W : World) (base : Nat) (args : Array Value) (ds gs : List (DataW H)) (before : List MemPlace)
    (hval : ∀ (j : Nat) t v, Tryd.f8.params[j]? = some t → args[j]? = some v → Value.okWide Tryd.prog W .any base t v)
    (hW : DataW.Whole enc Tryd.prog Tryd.f8.params.toList Rows.ucellBackSpec.vars false W args.toList ds gs before)
    (hcond : Rows.uptoSmall H (ds ++ gs) = true) (hL : laidMetH Tryd.prog Rows.ucellBackUptoRow.laid W) :
    Calls Tryd.prog 8 args W fun e W' => ∃ v, e = .returned v ∧ Rows.ucellBackSpec.post enc Tryd.prog Tryd.f8 false true false false W args v W' := by
  have hW' := hW
  obtain ⟨p, q, hA0, hV, rfl, hfz, hnd⟩ := hW
  have hA : DataW.TrodAll enc Tryd.prog W 0 (fun _ => true) true Tryd.f8.params.toList args.toList ds p := hA0
  rw [Tryd.params8] at hA hval
  obtain ⟨v0, vs0, d0, ds0, p0, q0, hargs, rfl, rfl, h0, r0⟩ := trodAll_cons hA
  obtain ⟨v1, vs1, d1, ds1, p1, q1, rfl, rfl, rfl, h1, r1⟩ := trodAll_cons r0
  obtain ⟨rfl, rfl, rfl⟩ := trodAll_nil r1
  obtain rfl : args = #[v0, v1] := by cases args; simp_all
  obtain ⟨rfl, rfl⟩ := trodVars_none hV
  have k0 := h0
  have lt0 : ∀ x ∈ p0, x.block < W.heap.size := by obtain ⟨m, hm⟩ := k0; exact DataW.trod_lt m _ _ _ hm
  obtain ⟨a0, len0, cap0, rfl⟩ := okWide_slice Tryd.underlying23 (hval 0 23 v0 rfl rfl)
  obtain ⟨z0, sp0, e0, m0, wf0, hh0, hd0⟩ := holds_of_slice Tryd.underlying23 Tryd.underlying21 (by kernel_rfl) h0
  have k1 := h1
  have lt1 : ∀ x ∈ p1, x.block < W.heap.size := by obtain ⟨m, hm⟩ := k1; exact DataW.trod_lt m _ _ _ hm
  obtain ⟨a1, len1, cap1, rfl⟩ := okWide_slice Tryd.underlying22 (hval 1 22 v1 rfl rfl)
  obtain ⟨z1, sp1, e1, m1, wf1, hh1, hd1⟩ := holds_of_slice Tryd.underlying22 Tryd.underlying5 (by kernel_rfl) h1
  obtain ⟨s1, es1, hs1⟩ := bytes_of_ints wf1
  rw [hs1] at hh1
  have hbulk := bulk_of hcond
  simp only [List.append_nil, Rows.uptoBulkAll] at hbulk
  have b0 : z0.length ≤ 1048576 := Nat.le_trans (bulk_slice hd0) (by omega)
  have b1 : z1.length ≤ 1048576 := Nat.le_trans (bulk_slice hd1) (by omega)
  clear hA0
  subst e0
  rw [← es1] at e1
  subst e1
  refine (walk z0 s1 a0 a1 cap0 cap1 W (tabs_of hL) hh0 hh1 b0 (by rw [es1]; exact b1)).mono fun e W' ⟨he, bel⟩ => ?_
  subst he
  exact ⟨_, rfl, _, _, _, [], _, [], hW', trodAll_mk1 (shut_bool Tryd.underlying4 _), (trodAll_cons_mk (Below.trod laidOut (by kernel_rfl) (of_decide_eq_true (by kernel_rfl)) k0 bel lt0) (trodAll_cons_mk (Below.trod laidOut (by kernel_rfl) (of_decide_eq_true (by kernel_rfl)) k1 bel lt1) trodAll_mk0)), rfl, bel.frame _, fun h => by cases h⟩

theorem laid_met (os : Os) : laidMet Tryd.prog Rows.ucellBackUptoRow.laid ((laidWorld os).forCall (fun _ _ => 0) ⟨#[], #[.slice none 0 0, .slice none 0 0], []⟩).memory :=
  laidMet_of_run' 8 (by kernel_rfl) (by kernel_rfl)
theorem reads (os : Os) {H : Type} (enc : TypeId × Value → H) : ∃ places, DataW.whole enc Tryd.prog ((laidWorld os).forCall (fun _ _ => 0) ⟨#[], #[.slice none 0 0, .slice none 0 0], []⟩).memory Tryd.f8.params.toList Rows.ucellBackSpec.vars false #[Value.slice none 0 0, Value.slice none 0 0].toList 8 = some ([.nil, .nil], [], places) :=
  ⟨[], by kernel_rfl⟩

set_option maxRecDepth 100000 in
theorem lifted (os : Os) (started : os.Started) (H : Type) (enc : TypeId × Value → H) (F : Stop.Interp) :
    ReturnsInHanded {} Tryd.checked os 8 .any ((Rows.OpenSpec.upto Rows.ucellBackSpec).preRow enc Tryd.prog Tryd.f8 Rows.ucellBackUptoRow.domain false Rows.ucellBackUptoRow.laid) (((Rows.OpenSpec.upto Rows.ucellBackSpec).at F).post enc Tryd.prog Tryd.f8 false true false false) := by
  obtain ⟨places, hx⟩ := reads os enc
  refine returnsInHanded_of_row (C := Tryd.checked) (s := Rows.OpenSpec.upto Rows.ucellBackSpec) own started (by kernel_rfl) Tryd.func8
    (witness_row_at (enc := enc) (C := Tryd.checked) false (laidWorld os) #[.slice none 0 0, .slice none 0 0] rfl (by kernel_rfl) (by kernel_rfl) (by kernel_rfl)
      (OpenSpec.preRow_of_cond 8 hx (by kernel_rfl) (fun k hk => by cases hk; kernel_rfl) (by kernel_rfl) (laid_met os))) ?_
  intro W base args ds gs before hval hW _ hcond _ hL _ _
  exact contract H enc W base args ds gs before hval hW (hcond _ rfl) hL

theorem said : Rows.UcellBackUptoSaid :=
  OpenClaim.holds_of_cond 8 Tryd.f8 rfl rfl rfl rfl rfl rfl rfl ⟨rfl, rfl, rfl, rfl, rfl⟩ rfl rfl rfl rfl rfl (by kernel_rfl) Tryd.func8 (by kernel_rfl)
    (of_decide_eq_true (by kernel_rfl)) (by unfold Func.isWrapper; first | (rw [if_pos (by decide +kernel)]; kernel_rfl) | (rw [if_neg (by decide +kernel)]; exact ⟨rfl, rfl⟩))
    (fun os started H enc _ F => by rw [OpenClaim.pre_eq_preRow]; exact lifted os started H enc F)

theorem plain (f : FuncId) (fn : Func) (hf : Tryd.pinned.checked.prog.funcNamed "lanyard/lanyardlaw01.UcellBack" = some f) (hfn : Tryd.pinned.checked.prog.funcs[f]? = some fn) :
    false = Tryd.pinned.checked.prog.looks [] ∧ ∀ (j : Nat) t, fn.params[j]? = some t → Tryd.pinned.checked.prog.wantsStandIn t = false := by
  obtain rfl : f = 8 := Option.some.inj ((show Tryd.prog.funcNamed "lanyard/lanyardlaw01.UcellBack" = some 8 by kernel_rfl).symm.trans hf) |>.symm
  obtain rfl : fn = Tryd.f8 := (Option.some.inj (Tryd.func8.symm.trans hfn)).symm
  refine ⟨by kernel_rfl, fun j t ht => ?_⟩
  rw [Tryd.params8] at ht
  have ht' := Array.mem_of_getElem? ht
  simp at ht'
  rcases ht' with rfl | rfl
  · exact (show Tryd.prog.wantsStandIn 23 = false by kernel_rfl)
  · exact (show Tryd.prog.wantsStandIn 22 = false by kernel_rfl)

theorem card : Rows.UcellBackUptoCardSaid :=
  Claim7.holds_tied_plain_at .later [] _ _ _ _ said (fun _ h => by cases h) (by kernel_rfl) (fun _ h => by cases h) ucellBackUpto_row_tie rfl ⟨rfl, rfl⟩ (by kernel_rfl) rfl plain (by kernel_rfl)


end Go.Proofs.YtalfodcjpnjmaaaDoor.lawBack
