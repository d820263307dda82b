/-
  Proved here: the law UcellWide returns true for every slice of numbers and every column, where what it reads is of bulk at most 1048576, and leaves them as they were (a wide cell has an empty one behind it, and no other is empty).
  Conditions: those of the given card alone (that bound; the three tables lie as the program's text lays them).
-/
import Derived.Test.YtalfodcjpnjmaabDoorLive
import Derived.Test.YtalfodcjpnjmaabDoorWit
import Derived.Test.YtalfodcjpnjmaabDoorWideP
namespace Go.Proofs.YtalfodcjpnjmaabDoor.lawWide
open Go.ChangeShapes Go.WideShapes Go.ChangeAt Go.RowKit

/-- a cell of a row, its three values -/
theorem row_cell {w : World} {base : Nat} {A : Option Addr} {c : Nat} {l : List Cel} (h : Row3 w base (.slice A l.length c) l) {j : Nat} (hj : j < l.length) :
    ∃ g, A = some ⟨g, 0, none⟩ ∧ g < w.heap.size ∧ w.cell? ⟨g, j * 3, none⟩ = some (.string (l.getD j (ByteArray.empty, 0)).1) ∧ w.cell? ⟨g, j * 3 + 1, none⟩ = some (.int .i64 (l.getD j (ByteArray.empty, 0)).2) ∧ w.cell? ⟨g, j * 3 + 2, none⟩ = some (.int .i64 0) := by
  rcases h.2 with ⟨_, h0⟩ | ⟨g, cap, cur, hv, hb, _⟩
  · omega
  · injection hv with h1 _ h3
    subst h1 h3
    have h' : w.ownsRow base 31 3 (.slice (some ⟨g, 0, none⟩) l.length c) l.length (cellsVals l) := h
    have hat : ∀ i v, (cellsVals l)[i]? = some v → w.cell? ⟨g, i, none⟩ = some v := fun i v hv => by
      have hi := (List.getElem?_eq_some_iff.1 hv).1
      rw [cellsVals_length] at hi
      rw [h'.cellAt _ hi, hv]
    obtain ⟨e0, e1, e2⟩ := vals3 l j hj
    exact ⟨g, rfl, block_lt_of_cell (hat _ _ e0), hat _ _ e0, hat _ _ e1, hat _ _ e2⟩

set_option maxHeartbeats 1000000 in
theorem walk (l : List Int) (v : Value) (col : Int) (w : World) (hT : Tabs w) (hv : Holds1 w v (runeVals l)) (hl : l.length ≤ 1048576) :
    Calls Tryd.prog 4 #[v, .int .i64 col] w fun e w' => e = .returned (.bool true) ∧ Below w.heap.size w w' := by
  have CC := Lib.hid (cells_any l v col w hT hv (by omega))
  have HT := Lib.hid hT
  have hok := okCels_all (startOf col) l
  have hlen := cellsP_length (startOf col) l
  clear hT hv
  generalize cellsP (startOf col) l = cs at *
  have hcl : cs.length ≤ 8388608 := by omega
  have HOK := Lib.hid hok
  clear hok hlen hl
  go_enter Tryd.func4, Tryd.ntmps4
  go_wp2_with (go_at_call 11; refine (CC.out).mono ?_; rintro e w1 ⟨v1, rfl, ho1, hb1⟩; obtain ⟨A, c, rfl⟩ := ho1.len; have HO := Lib.hid ho1; clear ho1)
  go_loopw [14] (fun i wr => ∃ k : Nat, k ≤ cs.length ∧ i = .int .i64 k ∧ Below w1.heap.size w1 wr) (fun i _ => cs.length - (intOf i).toNat)
  case atStart => exact ⟨0, by omega, rfl, Below.refl _ _⟩
  case round =>
    obtain ⟨k, hk, rfl, hb⟩ := hrel
    have hsz := hb.size
    by_cases hlt : k < cs.length
    · have hat := okCels_at HOK.out k hlt
      obtain ⟨g, hA, hg, c0, c1, c2⟩ := row_cell HO.out hlt
      subst hA
      have d0 : wr.cell? ⟨g, k * 3, none⟩ = _ := (hb.cell (p := ⟨g, k * 3, none⟩) hg).trans c0
      have d1 : wr.cell? ⟨g, k * 3 + 1, none⟩ = _ := (hb.cell (p := ⟨g, k * 3 + 1, none⟩) hg).trans c1
      have d2 : wr.cell? ⟨g, k * 3 + 2, none⟩ = _ := (hb.cell (p := ⟨g, k * 3 + 2, none⟩) hg).trans c2
      clear c0 c1 c2
      generalize hcel : cs.getD k (ByteArray.empty, 0) = cel at *
      obtain ⟨tx, wx⟩ := cel
      simp only at d0 d1 d2
      have hend : ∀ (wn : World), Below w1.heap.size w1 wn → ∃ k1 : Nat, k1 ≤ cs.length ∧ Value.int .i64 ((k : Int) + 1) = .int .i64 k1 ∧ Below w1.heap.size w1 wn := fun wn hn => ⟨k + 1, by omega, by go_num, hn⟩
      have HE := Lib.hid hend
      clear hend hcel
      rcases Nat.eq_zero_or_pos k with hk0 | hk0
      · subst hk0
        simp only [if_true, okCel] at hat
        obtain ⟨a1, a2, a3, a4, a5⟩ := hat
        have w0 : (wx == 0) = false := by simp; intro h; cases a1.1 h
        have t0 := isEmpty_no (t := tx) (fun h => by cases a2.1 h)
        clear a1 a2
        go_wp2
        go_roundw
        case rel => exact HE.out _ (hb.alloc hsz _)
        case measure => simp [intOf]; omega
      · obtain ⟨j, rfl⟩ : ∃ j, k = j + 1 := ⟨k - 1, by omega⟩
        obtain ⟨g', hA', -, -, c1, -⟩ := row_cell HO.out (j := j) (by omega)
        injection hA' with hA'
        injection hA' with hg'
        subst hg'
        have e1 : wr.cell? ⟨g, j * 3 + 1, none⟩ = _ := (hb.cell (p := ⟨g, j * 3 + 1, none⟩) hg).trans c1
        simp only [Nat.add_one_ne_zero, if_false, Nat.add_sub_cancel, okCel] at hat
        generalize (cs.getD j (ByteArray.empty, 0)).2 = y at *
        have e2 : ∀ o, (wr.alloc o).cell? ⟨g, j * 3 + 1, none⟩ = some (.int .i64 y) := fun o => (World.cell?_alloc_lt wr o _ (Nat.lt_of_lt_of_le hg hsz)).trans e1
        clear c1 e1
        have hj1 : (((j + 1 : Nat) : Int) - 1) = (j : Int) := by omega
        by_cases hy : y = 2
        · have y2 : (y == 2) = true := by simp [hy]
          have hd : decide (y = 2) = true := by simp [hy]
          rw [hd] at hat
          obtain ⟨a1, a2, a3, a4, a5⟩ := hat
          have t0 := isEmpty_yes (t := tx) (a2.2 rfl)
          obtain rfl : wx = 0 := a1.2 rfl
          have f36 : decide ((36 : Int) < (tx.size : Int)) = false := by simp; omega
          clear a1 a2 hd hy
          go_wp2
          go_roundw
          case rel => exact ⟨j + 2, by omega, by go_num, hb.alloc hsz _⟩
          case measure => simp [intOf]; omega
        · have y2 : (y == 2) = false := by simp [hy]
          have hd : decide (y = 2) = false := by simp [hy]
          rw [hd] at hat
          obtain ⟨a1, a2, a3, a4, a5⟩ := hat
          have w0 : (wx == 0) = false := by simp; intro h; cases a1.1 h
          have t0 := isEmpty_no (t := tx) (fun h => by cases a2.1 h)
          have f36 : decide ((36 : Int) < (tx.size : Int)) = false := by simp; omega
          have f2 : decide ((2 : Int) < wx) = false := by simp; omega
          have f0 : decide (wx < (0 : Int)) = false := by simp; omega
          clear a1 a2 hd hy
          go_wp2
          go_roundw
          case rel => exact ⟨j + 2, by omega, by go_num, hb.alloc hsz _⟩
          case measure => simp [intOf]; omega
    · have CL := Lib.hid (live_any wr ((HT.out.below hb1).below hb))
      have hs1 := hb1.size
      rcases Nat.eq_zero_or_pos cs.length with h0 | h0
      · have hz : ((cs.length : Int) == 0) = true := by simp [h0]
        have hk0 : k = 0 := by omega
        subst hk0
        clear h0
        go_wp2_with (go_at_call 6; refine (CL.out).mono ?_; rintro e w2 ⟨rfl, hb2⟩)
        go_ret
        exact ⟨rfl, hb1.trans ((hb.mono hs1).trans (hb2.mono (Nat.le_trans hs1 hsz)))⟩
      · have hz : ((cs.length : Int) == 0) = false := by rw [beq_eq_false_iff_ne]; omega
        have hlast := okCels_last HOK.out h0
        obtain ⟨g, hA, hg, -, c1, -⟩ := row_cell HO.out (j := cs.length - 1) (by omega)
        subst hA
        have d1 : ∀ W, Below wr.heap.size wr W → W.cell? ⟨g, (cs.length - 1) * 3 + 1, none⟩ = some (.int .i64 (cs.getD (cs.length - 1) (ByteArray.empty, 0)).2) := fun W hW =>
          (hW.cell (p := ⟨g, (cs.length - 1) * 3 + 1, none⟩) (Nat.lt_of_lt_of_le hg hsz)).trans ((hb.cell (p := ⟨g, (cs.length - 1) * 3 + 1, none⟩) hg).trans c1)
        have D1 := Lib.hid d1
        clear c1 d1
        generalize (cs.getD (cs.length - 1) (ByteArray.empty, 0)).2 = y at *
        have y2 : (y != 2) = true := by simp [hlast]
        clear hlast
        go_wp2_with (go_at_call 6; refine (CL.out).mono ?_; rintro e w2 ⟨rfl, hb2⟩; have dd := D1.out w2 hb2)
        go_ret
        exact ⟨rfl, hb1.trans ((hb.mono hs1).trans (hb2.mono (Nat.le_trans hs1 hsz)))⟩

theorem contract (H : Type) (enc : TypeId × Value → H) (W : World) (base : Nat) (args : Array Value) (ds gs : List (DataW H)) (before : List MemPlace)
    (hval : ∀ (j : Nat) t v, Tryd.f4.params[j]? = some t → args[j]? = some v → Value.okWide Tryd.prog W .any base t v)
    (hW : DataW.Whole enc Tryd.prog Tryd.f4.params.toList Rows.ucellWideSpec.vars false W args.toList ds gs before)
    (hcond : Rows.uptoSmall H (ds ++ gs) = true) (hL : laidMetH Tryd.prog Rows.ucellWideUptoRow.laid W) :
    Calls Tryd.prog 4 args W fun e W' => ∃ v, e = .returned v ∧ Rows.ucellWideSpec.post enc Tryd.prog Tryd.f4 false true false false W args v W' := by
  have hW' := hW
  obtain ⟨p, q, hA0, hV, rfl, hfz, hnd⟩ := hW
  have hA : DataW.TrodAll enc Tryd.prog W 0 (fun _ => true) true Tryd.f4.params.toList args.toList ds p := hA0
  rw [Tryd.params4] at hA hval
  obtain ⟨v0, vs0, d0, ds0, p0, q0, hargs, rfl, rfl, h0, r0⟩ := trodAll_cons hA
  obtain ⟨v1, vs1, d1, ds1, p1, q1, rfl, rfl, rfl, h1, r1⟩ := trodAll_cons r0
  obtain ⟨rfl, rfl, rfl⟩ := trodAll_nil r1
  obtain rfl : args = #[v0, v1] := by cases args; simp_all
  obtain ⟨rfl, rfl⟩ := trodVars_none hV
  have k0 := h0
  have lt0 : ∀ x ∈ p0, x.block < W.heap.size := by obtain ⟨m, hm⟩ := k0; exact DataW.trod_lt m _ _ _ hm
  obtain ⟨a0, len0, cap0, rfl⟩ := okWide_slice Tryd.underlying22 (hval 0 22 v0 rfl rfl)
  obtain ⟨z0, sp0, e0, m0, wf0, hh0, hd0⟩ := holds_of_slice Tryd.underlying22 Tryd.underlying21 (by kernel_rfl) h0
  have k1 := h1
  have lt1 : ∀ x ∈ p1, x.block < W.heap.size := by obtain ⟨m, hm⟩ := k1; exact DataW.trod_lt m _ _ _ hm
  obtain ⟨x1, rfl, rfl, rfl, wx1⟩ := open_int Tryd.underlying3 (hval 1 3 v1 rfl rfl) h1
  have hbulk := bulk_of hcond
  simp only [List.append_nil, Rows.uptoBulkAll] at hbulk
  have b0 : z0.length ≤ 1048576 := Nat.le_trans (bulk_slice hd0) (by omega)
  clear hA0
  refine (walk z0 _ x1 W (tabs_of hL) hh0 b0).mono fun e W' ⟨he, bel⟩ => ?_
  subst he
  exact ⟨_, rfl, _, _, _, [], _, [], hW', trodAll_mk1 (shut_bool Tryd.underlying4 _), (trodAll_cons_mk (Below.trod laidOut (by kernel_rfl) (of_decide_eq_true (by kernel_rfl)) k0 bel lt0) (trodAll_cons_mk (Below.trod laidOut (by kernel_rfl) (of_decide_eq_true (by kernel_rfl)) k1 bel lt1) trodAll_mk0)), rfl, bel.frame _, fun h => by cases h⟩

theorem laid_met (os : Os) : laidMet Tryd.prog Rows.ucellWideUptoRow.laid ((laidWorld os).forCall (fun _ _ => 0) ⟨#[], #[.slice none 0 0, .int .i64 0], []⟩).memory :=
  laidMet_of_run' 8 (by kernel_rfl) (by kernel_rfl)
theorem reads (os : Os) {H : Type} (enc : TypeId × Value → H) : ∃ places, DataW.whole enc Tryd.prog ((laidWorld os).forCall (fun _ _ => 0) ⟨#[], #[.slice none 0 0, .int .i64 0], []⟩).memory Tryd.f4.params.toList Rows.ucellWideSpec.vars false #[Value.slice none 0 0, Value.int .i64 0].toList 8 = some ([.nil, .lit (.int .i64 0)], [], places) :=
  ⟨[], by kernel_rfl⟩

set_option maxRecDepth 100000 in
theorem lifted (os : Os) (started : os.Started) (H : Type) (enc : TypeId × Value → H) (F : Stop.Interp) :
    ReturnsInHanded {} Tryd.checked os 4 .any ((Rows.OpenSpec.upto Rows.ucellWideSpec).preRow enc Tryd.prog Tryd.f4 Rows.ucellWideUptoRow.domain false Rows.ucellWideUptoRow.laid) (((Rows.OpenSpec.upto Rows.ucellWideSpec).at F).post enc Tryd.prog Tryd.f4 false true false false) := by
  obtain ⟨places, hx⟩ := reads os enc
  refine returnsInHanded_of_row (C := Tryd.checked) (s := Rows.OpenSpec.upto Rows.ucellWideSpec) own started (by kernel_rfl) Tryd.func4
    (witness_row_at (enc := enc) (C := Tryd.checked) false (laidWorld os) #[.slice none 0 0, .int .i64 0] rfl (by kernel_rfl) (by kernel_rfl) (by kernel_rfl)
      (OpenSpec.preRow_of_cond 8 hx (by kernel_rfl) (fun k hk => by cases hk; kernel_rfl) (by kernel_rfl) (laid_met os))) ?_
  intro W base args ds gs before hval hW _ hcond _ hL _ _
  exact contract H enc W base args ds gs before hval hW (hcond _ rfl) hL

theorem said : Rows.UcellWideUptoSaid :=
  OpenClaim.holds_of_cond 4 Tryd.f4 rfl rfl rfl rfl rfl rfl rfl ⟨rfl, rfl, rfl, rfl, rfl⟩ rfl rfl rfl rfl rfl (by kernel_rfl) Tryd.func4 (by kernel_rfl)
    (of_decide_eq_true (by kernel_rfl)) (by unfold Func.isWrapper; first | (rw [if_pos (by decide +kernel)]; kernel_rfl) | (rw [if_neg (by decide +kernel)]; exact ⟨rfl, rfl⟩))
    (fun os started H enc _ F => by rw [OpenClaim.pre_eq_preRow]; exact lifted os started H enc F)

theorem plain (f : FuncId) (fn : Func) (hf : Tryd.pinned.checked.prog.funcNamed "lanyard/lanyardlaw01.UcellWide" = some f) (hfn : Tryd.pinned.checked.prog.funcs[f]? = some fn) :
    false = Tryd.pinned.checked.prog.looks [] ∧ ∀ (j : Nat) t, fn.params[j]? = some t → Tryd.pinned.checked.prog.wantsStandIn t = false := by
  obtain rfl : f = 4 := Option.some.inj ((show Tryd.prog.funcNamed "lanyard/lanyardlaw01.UcellWide" = some 4 by kernel_rfl).symm.trans hf) |>.symm
  obtain rfl : fn = Tryd.f4 := (Option.some.inj (Tryd.func4.symm.trans hfn)).symm
  refine ⟨by kernel_rfl, fun j t ht => ?_⟩
  rw [Tryd.params4] at ht
  have ht' := Array.mem_of_getElem? ht
  simp at ht'
  rcases ht' with rfl | rfl
  · exact (show Tryd.prog.wantsStandIn 22 = false by kernel_rfl)
  · exact (show Tryd.prog.wantsStandIn 3 = false by kernel_rfl)

theorem card : Rows.UcellWideUptoCardSaid :=
  Claim7.holds_tied_plain_at .later [] _ _ _ _ said (fun _ h => by cases h) (by kernel_rfl) (fun _ h => by cases h) ucellWideUpto_row_tie rfl ⟨rfl, rfl⟩ (by kernel_rfl) rfl plain (by kernel_rfl)


end Go.Proofs.YtalfodcjpnjmaabDoor.lawWide
