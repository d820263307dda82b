/-
  Proved here: the law UcellCells returns true for every slice of numbers and every column, where what it reads is of bulk at most 1048576, and leaves them as they were (ucell's Cells and Span answer as the document's own functions do).
  Conditions: those of the given card alone (that bound; the three tables lie as the program's text lays them).
-/
import Derived.Test.YtalfodcjpnjmaaaDoorLive
import Derived.Test.YtalfodcjpnjmaaaDoorWit
import Derived.Test.YtalfodcjpnjmaaaDoorRefCells
namespace Go.Proofs.YtalfodcjpnjmaaaDoor.lawCells
open Go.ChangeShapes Go.WideShapes Go.ChangeAt Go.RowKit

theorem vals3 (l : List Cel) : ∀ j, j < l.length → (cellsVals l)[j * 3]? = some (.string (l.getD j (ByteArray.empty, 0)).1) ∧ (cellsVals l)[j * 3 + 1]? = some (.int .i64 (l.getD j (ByteArray.empty, 0)).2) ∧ (cellsVals l)[j * 3 + 2]? = some (.int .i64 0) := by
  induction l with
  | nil => intro j h; simp at h
  | cons c l ih =>
    intro j h
    cases j with
    | zero => exact ⟨rfl, rfl, rfl⟩
    | succ j =>
      obtain ⟨e0, e1, e2⟩ := ih j (by simpa using h)
      rw [show (j + 1) * 3 = j * 3 + 1 + 1 + 1 by omega]
      refine ⟨by simpa [cellsVals, celVals, List.flatMap_cons] using e0, ?_, ?_⟩
      · rw [show j * 3 + 1 + 1 + 1 + 1 = (j * 3 + 1) + 1 + 1 + 1 by omega]
        simpa [cellsVals, celVals, List.flatMap_cons] using e1
      · rw [show j * 3 + 1 + 1 + 1 + 2 = (j * 3 + 2) + 1 + 1 + 1 by omega]
        simpa [cellsVals, celVals, List.flatMap_cons] using e2
theorem row_cell {w : World} {base : Nat} {A : Option Addr} {c : Nat} {l : List Cel} (h : Row3 w base (.slice A l.length c) l) {j : Nat} (hj : j < l.length) :
    ∃ g, A = some ⟨g, 0, none⟩ ∧ w.cell? ⟨g, j * 3, none⟩ = some (.string (l.getD j (ByteArray.empty, 0)).1) ∧ w.cell? ⟨g, j * 3 + 1, none⟩ = some (.int .i64 (l.getD j (ByteArray.empty, 0)).2) ∧ w.cell? ⟨g, j * 3 + 2, none⟩ = some (.int .i64 0) := by
  rcases h.2 with ⟨_, h0⟩ | ⟨g, cap, cur, hv, hb, _⟩
  · omega
  · injection hv with h1 _ h3
    subst h1 h3
    have h' : w.ownsRow base 38 3 (.slice (some ⟨g, 0, none⟩) l.length c) l.length (cellsVals l) := h
    have hat : ∀ i v, (cellsVals l)[i]? = some v → w.cell? ⟨g, i, none⟩ = some v := fun i v hv => by
      have hi := (List.getElem?_eq_some_iff.1 hv).1
      rw [cellsVals_length] at hi
      rw [h'.cellAt _ hi, hv]
    obtain ⟨e0, e1, e2⟩ := vals3 l j hj
    exact ⟨g, rfl, hat _ _ e0, hat _ _ e1, hat _ _ e2⟩

set_option maxHeartbeats 1000000 in
theorem equal_cells (l : List Cel) (v v' : Value) (b b' : Nat) (w : World) (hv : Row3 w b v l) (hv' : Row3 w b' v' l) (hl : l.length ≤ 4000000000) :
    Calls Tryd.prog 27 #[v, v'] w fun e w' => e = .returned (.bool true) ∧ ∃ n, w' = w.drewN n := by
  obtain ⟨A, c, rfl⟩ := hv.len
  obtain ⟨A', c', rfl⟩ := hv'.len
  have H := Lib.hid hv
  have H' := Lib.hid hv'
  clear hv hv'
  go_enter Tryd.func27, Tryd.ntmps27
  go_wp2
  go_loopw [13] (fun i wr => ∃ k : Nat, k ≤ l.length ∧ i = .int .i64 k ∧ ∃ n, wr = w.drewN n) (fun i _ => l.length - (intOf i).toNat)
  case atStart => exact ⟨0, by omega, rfl, 0, rfl⟩
  case round =>
    obtain ⟨k, hk, rfl, n, rfl⟩ := hrel
    by_cases hlt : k < l.length
    · obtain ⟨g, rfl, c0, c1, c2⟩ := row_cell H.out hlt
      obtain ⟨g', rfl, d0, d1, d2⟩ := row_cell H'.out hlt
      generalize (l.getD k (ByteArray.empty, 0)).1 = t at *
      generalize (l.getD k (ByteArray.empty, 0)).2 = x at *
      clear H H'
      go_wp2
      go_quiet (fail)
      go_wp2
      go_roundw
      case rel => exact ⟨k + 1, by omega, by go_num, _, rfl⟩
      case measure => simp [intOf]; omega
    · go_wp2
      go_ret
      exact ⟨rfl, n, rfl⟩

set_option maxHeartbeats 1000000 in
theorem walk (l : List Int) (v : Value) (col : Int) (w : World) (hT : Tabs w) (hv : Holds1 w v (runeVals l)) (hl : l.length ≤ 1048576) :
    Calls Tryd.prog 5 #[v, .int .i64 col] w fun e w' => e = .returned (.bool true) ∧ Below w.heap.size w w' := by
  have HT := Lib.hid hT
  have HV := Lib.hid hv
  have hlen := cellsP_length (startOf col) l
  clear hT hv
  have C1 := Lib.hid (fun W (hW : Below w.heap.size w W) => refCells_any l v col W (HV.out.below hW) (by omega))
  have C2 := Lib.hid (fun W (hW : Below w.heap.size w W) => cells_any l v col W (HT.out.below hW) (HV.out.below hW) (by omega))
  have C3 := Lib.hid (fun W (hW : Below w.heap.size w W) => span_any l v col W (HT.out.below hW) (HV.out.below hW) (by omega))
  generalize cellsP (startOf col) l = cs at *
  have hcl : cs.length ≤ 4000000000 := by omega
  go_enter Tryd.func5, Tryd.ntmps5
  go_wp2_with fail
  refine (C1.out w (Below.refl _ _)).mono ?_
  rintro e w1 ⟨r1, rfl, ho1, hb1⟩
  have HO1 := Lib.hid ho1
  have HB1 := Lib.hid hb1
  clear ho1 hb1
  go_wp2_with fail
  refine (live_any w1 (HT.out.below HB1.out)).mono ?_
  rintro e w2 ⟨rfl, hb2⟩
  have HO2 := Lib.hid (HO1.out.below hb2)
  have HB2 := Lib.hid (HB1.out.trans (hb2.mono HB1.out.size))
  clear hb2 HO1 HB1
  go_wp2_with fail
  refine (C2.out w2 HB2.out).mono ?_
  rintro e w3 ⟨r3, rfl, ho3, hb3⟩
  have HO3 := Lib.hid (HO2.out.below hb3)
  have HR3 := Lib.hid ho3
  have HB3 := Lib.hid (HB2.out.trans (hb3.mono HB2.out.size))
  clear ho3 hb3 HO2 HB2
  go_wp2_with fail
  refine (equal_cells cs _ _ _ _ w3 HR3.out HO3.out hcl).mono ?_
  rintro e w4 ⟨rfl, n4, hw4⟩
  have hb4 : Below w3.heap.size w3 w4 := by rw [hw4]; exact ⟨rfl, rfl, rfl, Nat.le_refl _, fun _ _ => rfl⟩
  have HB4 := Lib.hid (HB3.out.trans (hb4.mono HB3.out.size))
  clear hw4 hb4 HB3 HR3
  go_wp2_with fail
  refine (C3.out w4 HB4.out).mono ?_
  rintro e w5 ⟨rfl, hb5⟩
  have HB5 := Lib.hid (HB4.out.trans (hb5.mono HB4.out.size))
  obtain ⟨A1, c1, hr1⟩ := HO3.out.len
  subst hr1
  clear hb5 HB4 HO3
  go_wp2
  go_ret
  exact ⟨ret_bool (by simp), HB5.out⟩

theorem contract (H : Type) (enc : TypeId × Value → H) (W : World) (base : Nat) (args : Array Value) (ds gs : List (DataW H)) (before : List MemPlace)
    (hval : ∀ (j : Nat) t v, Tryd.f5.params[j]? = some t → args[j]? = some v → Value.okWide Tryd.prog W .any base t v)
    (hW : DataW.Whole enc Tryd.prog Tryd.f5.params.toList Rows.ucellCellsSpec.vars false W args.toList ds gs before)
    (hcond : Rows.uptoSmall H (ds ++ gs) = true) (hL : laidMetH Tryd.prog Rows.ucellCellsUptoRow.laid W) :
    Calls Tryd.prog 5 args W fun e W' => ∃ v, e = .returned v ∧ Rows.ucellCellsSpec.post enc Tryd.prog Tryd.f5 false true false false W args v W' := by
  have hW' := hW
  obtain ⟨p, q, hA0, hV, rfl, hfz, hnd⟩ := hW
  have hA : DataW.TrodAll enc Tryd.prog W 0 (fun _ => true) true Tryd.f5.params.toList args.toList ds p := hA0
  rw [Tryd.params5] at hA hval
  obtain ⟨v0, vs0, d0, ds0, p0, q0, hargs, rfl, rfl, h0, r0⟩ := trodAll_cons hA
  obtain ⟨v1, vs1, d1, ds1, p1, q1, rfl, rfl, rfl, h1, r1⟩ := trodAll_cons r0
  obtain ⟨rfl, rfl, rfl⟩ := trodAll_nil r1
  obtain rfl : args = #[v0, v1] := by cases args; simp_all
  obtain ⟨rfl, rfl⟩ := trodVars_none hV
  have k0 := h0
  have lt0 : ∀ x ∈ p0, x.block < W.heap.size := by obtain ⟨m, hm⟩ := k0; exact DataW.trod_lt m _ _ _ hm
  obtain ⟨a0, len0, cap0, rfl⟩ := okWide_slice Tryd.underlying23 (hval 0 23 v0 rfl rfl)
  obtain ⟨z0, sp0, e0, m0, wf0, hh0, hd0⟩ := holds_of_slice Tryd.underlying23 Tryd.underlying21 (by kernel_rfl) h0
  have k1 := h1
  have lt1 : ∀ x ∈ p1, x.block < W.heap.size := by obtain ⟨m, hm⟩ := k1; exact DataW.trod_lt m _ _ _ hm
  obtain ⟨x1, rfl, rfl, rfl, wx1⟩ := open_int Tryd.underlying3 (hval 1 3 v1 rfl rfl) h1
  have hbulk := bulk_of hcond
  simp only [List.append_nil, Rows.uptoBulkAll] at hbulk
  have b0 : z0.length ≤ 1048576 := Nat.le_trans (bulk_slice hd0) (by omega)
  clear hA0
  refine (walk z0 _ x1 W (tabs_of hL) hh0 b0).mono fun e W' ⟨he, bel⟩ => ?_
  subst he
  exact ⟨_, rfl, _, _, _, [], _, [], hW', trodAll_mk1 (shut_bool Tryd.underlying4 _), (trodAll_cons_mk (Below.trod laidOut (by kernel_rfl) (of_decide_eq_true (by kernel_rfl)) k0 bel lt0) (trodAll_cons_mk (Below.trod laidOut (by kernel_rfl) (of_decide_eq_true (by kernel_rfl)) k1 bel lt1) trodAll_mk0)), rfl, bel.frame _, fun h => by cases h⟩

theorem laid_met (os : Os) : laidMet Tryd.prog Rows.ucellCellsUptoRow.laid ((laidWorld os).forCall (fun _ _ => 0) ⟨#[], #[.slice none 0 0, .int .i64 0], []⟩).memory :=
  laidMet_of_run' 8 (by kernel_rfl) (by kernel_rfl)
theorem reads (os : Os) {H : Type} (enc : TypeId × Value → H) : ∃ places, DataW.whole enc Tryd.prog ((laidWorld os).forCall (fun _ _ => 0) ⟨#[], #[.slice none 0 0, .int .i64 0], []⟩).memory Tryd.f5.params.toList Rows.ucellCellsSpec.vars false #[Value.slice none 0 0, Value.int .i64 0].toList 8 = some ([.nil, .lit (.int .i64 0)], [], places) :=
  ⟨[], by kernel_rfl⟩

set_option maxRecDepth 100000 in
theorem lifted (os : Os) (started : os.Started) (H : Type) (enc : TypeId × Value → H) (F : Stop.Interp) :
    ReturnsInHanded {} Tryd.checked os 5 .any ((Rows.OpenSpec.upto Rows.ucellCellsSpec).preRow enc Tryd.prog Tryd.f5 Rows.ucellCellsUptoRow.domain false Rows.ucellCellsUptoRow.laid) (((Rows.OpenSpec.upto Rows.ucellCellsSpec).at F).post enc Tryd.prog Tryd.f5 false true false false) := by
  obtain ⟨places, hx⟩ := reads os enc
  refine returnsInHanded_of_row (C := Tryd.checked) (s := Rows.OpenSpec.upto Rows.ucellCellsSpec) own started (by kernel_rfl) Tryd.func5
    (witness_row_at (enc := enc) (C := Tryd.checked) false (laidWorld os) #[.slice none 0 0, .int .i64 0] rfl (by kernel_rfl) (by kernel_rfl) (by kernel_rfl)
      (OpenSpec.preRow_of_cond 8 hx (by kernel_rfl) (fun k hk => by cases hk; kernel_rfl) (by kernel_rfl) (laid_met os))) ?_
  intro W base args ds gs before hval hW _ hcond _ hL _ _
  exact contract H enc W base args ds gs before hval hW (hcond _ rfl) hL

theorem said : Rows.UcellCellsUptoSaid :=
  OpenClaim.holds_of_cond 5 Tryd.f5 rfl rfl rfl rfl rfl rfl rfl ⟨rfl, rfl, rfl, rfl, rfl⟩ rfl rfl rfl rfl rfl (by kernel_rfl) Tryd.func5 (by kernel_rfl)
    (of_decide_eq_true (by kernel_rfl)) (by unfold Func.isWrapper; first | (rw [if_pos (by decide +kernel)]; kernel_rfl) | (rw [if_neg (by decide +kernel)]; exact ⟨rfl, rfl⟩))
    (fun os started H enc _ F => by rw [OpenClaim.pre_eq_preRow]; exact lifted os started H enc F)

theorem plain (f : FuncId) (fn : Func) (hf : Tryd.pinned.checked.prog.funcNamed "lanyard/lanyardlaw01.UcellCells" = some f) (hfn : Tryd.pinned.checked.prog.funcs[f]? = some fn) :
    false = Tryd.pinned.checked.prog.looks [] ∧ ∀ (j : Nat) t, fn.params[j]? = some t → Tryd.pinned.checked.prog.wantsStandIn t = false := by
  obtain rfl : f = 5 := Option.some.inj ((show Tryd.prog.funcNamed "lanyard/lanyardlaw01.UcellCells" = some 5 by kernel_rfl).symm.trans hf) |>.symm
  obtain rfl : fn = Tryd.f5 := (Option.some.inj (Tryd.func5.symm.trans hfn)).symm
  refine ⟨by kernel_rfl, fun j t ht => ?_⟩
  rw [Tryd.params5] at ht
  have ht' := Array.mem_of_getElem? ht
  simp at ht'
  rcases ht' with rfl | rfl
  · exact (show Tryd.prog.wantsStandIn 23 = false by kernel_rfl)
  · exact (show Tryd.prog.wantsStandIn 3 = false by kernel_rfl)

theorem card : Rows.UcellCellsUptoCardSaid :=
  Claim7.holds_tied_plain_at .later [] _ _ _ _ said (fun _ h => by cases h) (by kernel_rfl) (fun _ h => by cases h) ucellCellsUpto_row_tie rfl ⟨rfl, rfl⟩ (by kernel_rfl) rfl plain (by kernel_rfl)


end Go.Proofs.YtalfodcjpnjmaaaDoor.lawCells
