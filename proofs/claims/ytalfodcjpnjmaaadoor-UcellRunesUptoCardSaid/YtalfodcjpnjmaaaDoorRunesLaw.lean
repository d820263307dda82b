/-
  Proved here: the law UcellRunes returns true for every slice of bytes and every slice of numbers, where what it reads is of bulk at most 1048576, and leaves them as they were (ucell's Runes and Bytes answer as the document's own functions do).
  Conditions: those of the given card alone (that bound; the three tables lie as the program's text lays them).
-/
import Derived.Test.YtalfodcjpnjmaaaDoorLive
import Derived.Test.YtalfodcjpnjmaaaDoorWit
import Derived.Test.YtalfodcjpnjmaaaDoorRefRunes
import Derived.Test.YtalfodcjpnjmaaaDoorBytes
namespace Go.Proofs.YtalfodcjpnjmaaaDoor.lawRunes
open Go.ChangeShapes Go.WideShapes Go.ChangeAt Go.RowKit

set_option maxHeartbeats 1000000 in
theorem walk (s : List UInt8) (l : List Int) (v v' : Value) (w : World) (hT : Tabs w) (hv : Holds1 w v (byteVals s)) (hv' : Holds1 w v' (runeVals l)) (hs : s.length ≤ 1048576) (hl : l.length ≤ 1048576) (hwf : ∀ z ∈ l, -2147483648 ≤ z ∧ z ≤ 2147483647) :
    Calls Tryd.prog 3 #[v, v'] w fun e w' => e = .returned (.bool true) ∧ Below w.heap.size w w' := by
  have CL := Lib.hid (live_any w hT)
  have HT := Lib.hid hT
  have HV := Lib.hid hv
  have HV' := Lib.hid hv'
  have HWF := Lib.hid hwf
  have hdl := decAll_le s
  clear hT hv hv' hwf
  go_enter Tryd.func3, Tryd.ntmps3
  go_wp2_with (go_at_call 9; refine (CL.out).mono ?_; rintro e w1 ⟨rfl, hb1⟩)
  refine (runes_any s _ w1 (HT.out.below hb1) (HV.out.below hb1) (by omega)).mono ?_
  rintro e w2 ⟨r2, rfl, ho2, hb2⟩
  have HO2 := Lib.hid ho2
  have HB2 := Lib.hid (hb1.trans (hb2.mono hb1.size))
  clear ho2 hb1 hb2
  go_wp2_with fail
  refine (refRunes_any s _ w2 (HV.out.below HB2.out) (by omega)).mono ?_
  rintro e w3 ⟨r3, rfl, ho3, hb3⟩
  have HE2 := Lib.hid ((Holds1.of_own HO2.out).below hb3)
  have HE3 := Lib.hid (Holds1.of_own ho3)
  have HB3 := Lib.hid (HB2.out.trans (hb3.mono HB2.out.size))
  clear ho3 hb3 HO2 HB2
  go_wp2_with fail
  refine (equal_runes (decAll s) _ _ w3 HE2.out HE3.out (by omega)).mono ?_
  rintro e w4 ⟨rfl, n4, hw4⟩
  have HB4 : Hid (Below w.heap.size w w4) := Lib.hid (by rw [hw4]; exact ⟨HB3.out.os, HB3.out.tape, HB3.out.output, HB3.out.size, HB3.out.block⟩)
  clear hw4 HB3 HE2 HE3
  go_wp2_with fail
  refine (bytes_any l _ w4 (HV'.out.below HB4.out) (by omega) HWF.out).mono ?_
  rintro e w5 ⟨r5, rfl, ho5, hb5⟩
  have HO5 := Lib.hid ho5
  have HB5 := Lib.hid (HB4.out.trans (hb5.mono HB4.out.size))
  clear ho5 hb5 HB4
  go_wp2_with fail
  refine (refBytes_any l _ w5 (HV'.out.below HB5.out) (by omega)).mono ?_
  rintro e w6 ⟨r6, rfl, ho6, hb6⟩
  have HE5 := Lib.hid ((Holds1.of_own HO5.out).below hb6)
  have HE6 := Lib.hid (Holds1.of_own ho6)
  have HB6 := Lib.hid (HB5.out.trans (hb6.mono HB5.out.size))
  clear ho6 hb6 HO5 HB5
  go_wp2_with fail
  refine (equal_bytes (encAll l) _ _ w6 HE5.out HE6.out).mono ?_
  rintro e w7 ⟨rfl, rfl⟩
  go_wp2
  go_ret
  exact ⟨rfl, HB6.out⟩

theorem wf_i32 {l : List Int} (h : ∀ z ∈ l, (Lit.int .i32 z).wf = true) : ∀ z ∈ l, -2147483648 ≤ z ∧ z ≤ 2147483647 := fun z hz => by
  have := bounds_i32 (h z hz)
  omega

theorem contract (H : Type) (enc : TypeId × Value → H) (W : World) (base : Nat) (args : Array Value) (ds gs : List (DataW H)) (before : List MemPlace)
    (hval : ∀ (j : Nat) t v, Tryd.f3.params[j]? = some t → args[j]? = some v → Value.okWide Tryd.prog W .any base t v)
    (hW : DataW.Whole enc Tryd.prog Tryd.f3.params.toList Rows.ucellRunesSpec.vars false W args.toList ds gs before)
    (hcond : Rows.uptoSmall H (ds ++ gs) = true) (hL : laidMetH Tryd.prog Rows.ucellRunesUptoRow.laid W) :
    Calls Tryd.prog 3 args W fun e W' => ∃ v, e = .returned v ∧ Rows.ucellRunesSpec.post enc Tryd.prog Tryd.f3 false true false false W args v W' := by
  have hW' := hW
  obtain ⟨p, q, hA0, hV, rfl, hfz, hnd⟩ := hW
  have hA : DataW.TrodAll enc Tryd.prog W 0 (fun _ => true) true Tryd.f3.params.toList args.toList ds p := hA0
  rw [Tryd.params3] at hA hval
  obtain ⟨v0, vs0, d0, ds0, p0, q0, hargs, rfl, rfl, h0, r0⟩ := trodAll_cons hA
  obtain ⟨v1, vs1, d1, ds1, p1, q1, rfl, rfl, rfl, h1, r1⟩ := trodAll_cons r0
  obtain ⟨rfl, rfl, rfl⟩ := trodAll_nil r1
  obtain rfl : args = #[v0, v1] := by cases args; simp_all
  obtain ⟨rfl, rfl⟩ := trodVars_none hV
  have k0 := h0
  have lt0 : ∀ x ∈ p0, x.block < W.heap.size := by obtain ⟨m, hm⟩ := k0; exact DataW.trod_lt m _ _ _ hm
  obtain ⟨a0, len0, cap0, rfl⟩ := okWide_slice Tryd.underlying22 (hval 0 22 v0 rfl rfl)
  obtain ⟨z0, sp0, e0, m0, wf0, hh0, hd0⟩ := holds_of_slice Tryd.underlying22 Tryd.underlying5 (by kernel_rfl) h0
  obtain ⟨s0, es0, hs0⟩ := bytes_of_ints wf0
  rw [hs0] at hh0
  have k1 := h1
  have lt1 : ∀ x ∈ p1, x.block < W.heap.size := by obtain ⟨m, hm⟩ := k1; exact DataW.trod_lt m _ _ _ hm
  obtain ⟨a1, len1, cap1, rfl⟩ := okWide_slice Tryd.underlying23 (hval 1 23 v1 rfl rfl)
  obtain ⟨z1, sp1, e1, m1, wf1, hh1, hd1⟩ := holds_of_slice Tryd.underlying23 Tryd.underlying21 (by kernel_rfl) h1
  have hbulk := bulk_of hcond
  simp only [List.append_nil, Rows.uptoBulkAll] at hbulk
  have b0 : z0.length ≤ 1048576 := Nat.le_trans (bulk_slice hd0) (by omega)
  have b1 : z1.length ≤ 1048576 := Nat.le_trans (bulk_slice hd1) (by omega)
  clear hA0
  refine (walk s0 z1 _ _ W (tabs_of hL) hh0 hh1 (by rw [es0]; exact b0) b1 (wf_i32 wf1)).mono fun e W' ⟨he, bel⟩ => ?_
  subst he
  exact ⟨_, rfl, _, _, _, [], _, [], hW', trodAll_mk1 (shut_bool Tryd.underlying4 _), (trodAll_cons_mk (Below.trod laidOut (by kernel_rfl) (of_decide_eq_true (by kernel_rfl)) k0 bel lt0) (trodAll_cons_mk (Below.trod laidOut (by kernel_rfl) (of_decide_eq_true (by kernel_rfl)) k1 bel lt1) trodAll_mk0)), rfl, bel.frame _, fun h => by cases h⟩

theorem laid_met (os : Os) : laidMet Tryd.prog Rows.ucellRunesUptoRow.laid ((laidWorld os).forCall (fun _ _ => 0) ⟨#[], #[.slice none 0 0, .slice none 0 0], []⟩).memory :=
  laidMet_of_run' 8 (by kernel_rfl) (by kernel_rfl)
theorem reads (os : Os) {H : Type} (enc : TypeId × Value → H) : ∃ places, DataW.whole enc Tryd.prog ((laidWorld os).forCall (fun _ _ => 0) ⟨#[], #[.slice none 0 0, .slice none 0 0], []⟩).memory Tryd.f3.params.toList Rows.ucellRunesSpec.vars false #[Value.slice none 0 0, Value.slice none 0 0].toList 8 = some ([.nil, .nil], [], places) :=
  ⟨[], by kernel_rfl⟩

set_option maxRecDepth 100000 in
theorem lifted (os : Os) (started : os.Started) (H : Type) (enc : TypeId × Value → H) (F : Stop.Interp) :
    ReturnsInHanded {} Tryd.checked os 3 .any ((Rows.OpenSpec.upto Rows.ucellRunesSpec).preRow enc Tryd.prog Tryd.f3 Rows.ucellRunesUptoRow.domain false Rows.ucellRunesUptoRow.laid) (((Rows.OpenSpec.upto Rows.ucellRunesSpec).at F).post enc Tryd.prog Tryd.f3 false true false false) := by
  obtain ⟨places, hx⟩ := reads os enc
  refine returnsInHanded_of_row (C := Tryd.checked) (s := Rows.OpenSpec.upto Rows.ucellRunesSpec) own started (by kernel_rfl) Tryd.func3
    (witness_row_at (enc := enc) (C := Tryd.checked) false (laidWorld os) #[.slice none 0 0, .slice none 0 0] rfl (by kernel_rfl) (by kernel_rfl) (by kernel_rfl)
      (OpenSpec.preRow_of_cond 8 hx (by kernel_rfl) (fun k hk => by cases hk; kernel_rfl) (by kernel_rfl) (laid_met os))) ?_
  intro W base args ds gs before hval hW _ hcond _ hL _ _
  exact contract H enc W base args ds gs before hval hW (hcond _ rfl) hL

theorem said : Rows.UcellRunesUptoSaid :=
  OpenClaim.holds_of_cond 3 Tryd.f3 rfl rfl rfl rfl rfl rfl rfl ⟨rfl, rfl, rfl, rfl, rfl⟩ rfl rfl rfl rfl rfl (by kernel_rfl) Tryd.func3 (by kernel_rfl)
    (of_decide_eq_true (by kernel_rfl)) (by unfold Func.isWrapper; first | (rw [if_pos (by decide +kernel)]; kernel_rfl) | (rw [if_neg (by decide +kernel)]; exact ⟨rfl, rfl⟩))
    (fun os started H enc _ F => by rw [OpenClaim.pre_eq_preRow]; exact lifted os started H enc F)

theorem plain (f : FuncId) (fn : Func) (hf : Tryd.pinned.checked.prog.funcNamed "lanyard/lanyardlaw01.UcellRunes" = some f) (hfn : Tryd.pinned.checked.prog.funcs[f]? = some fn) :
    false = Tryd.pinned.checked.prog.looks [] ∧ ∀ (j : Nat) t, fn.params[j]? = some t → Tryd.pinned.checked.prog.wantsStandIn t = false := by
  obtain rfl : f = 3 := Option.some.inj ((show Tryd.prog.funcNamed "lanyard/lanyardlaw01.UcellRunes" = some 3 by kernel_rfl).symm.trans hf) |>.symm
  obtain rfl : fn = Tryd.f3 := (Option.some.inj (Tryd.func3.symm.trans hfn)).symm
  refine ⟨by kernel_rfl, fun j t ht => ?_⟩
  rw [Tryd.params3] at ht
  have ht' := Array.mem_of_getElem? ht
  simp at ht'
  rcases ht' with rfl | rfl
  · exact (show Tryd.prog.wantsStandIn 22 = false by kernel_rfl)
  · exact (show Tryd.prog.wantsStandIn 23 = false by kernel_rfl)

theorem card : Rows.UcellRunesUptoCardSaid :=
  Claim7.holds_tied_plain_at .later [] _ _ _ _ said (fun _ h => by cases h) (by kernel_rfl) (fun _ h => by cases h) ucellRunesUpto_row_tie rfl ⟨rfl, rfl⟩ (by kernel_rfl) rfl plain (by kernel_rfl)


end Go.Proofs.YtalfodcjpnjmaaaDoor.lawRunes
