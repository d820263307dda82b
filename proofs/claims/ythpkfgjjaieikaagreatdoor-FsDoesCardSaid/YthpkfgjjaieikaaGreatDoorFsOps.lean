/-
  What Remove, Rename, SetFault and Restart of package simfs return and change, for every file system.
-/
import Derived.Test.YthpkfgjjaieikaaGreatDoorFsAppend
namespace Go.Proofs.YthpkfgjjaieikaaGreatDoor
open Go.RowKit Go.Shelf Go.Lib Go.Maps

theorem length_delE (p : List UInt8) (es : List Ent) : (delE p es).length ≤ es.length := List.length_filter_le _ _
theorem length_putE (x : Ent) (es : List Ent) : (putE x es).length ≤ es.length + 1 := by
  unfold putE
  rw [length_insE]
  exact Nat.succ_le_succ (length_delE _ _)
/-- 'delete(m, p)' -/
theorem wpList_del (w : World) {ops : Array Oper} {rest : List Oper} {o : Oper} {a : Act} {Q : Exit → Act → World → Prop} (hg : o.guard = none) (m x : Operand) (hop : o.op = Op.call { callee := Callee.builtin Builtin.delete, args := #[m, x], argTypes := #[68, 9] })
    (bm : Nat) (es : List Ent) (p : List UInt8) (hm : a.eval m = .map (some bm)) (hown : w.ownsMap Tryz.prog 9 heldR bm es.length (toD es)) (hx : a.eval x = str p) (hk : keyOf Tryz.prog 9 (str p) = some (.string p))
    (hK : ∀ w', w'.ownsMap Tryz.prog 9 heldR bm (delE p es).length (toD (delE p es)) → Touch (fun k => k = bm) w w' → wpList Tryz.prog ops Q rest (a.put o.dst (.tuple #[])) w') : wpList Tryz.prog ops Q (o :: rest) a w := by
  refine wpList_delete_own (P := Tryz.prog) (w := w) hg m x _ _ hop 30 law Tryz.underlying68 heldR bm es.length (toD es) hm hown _ _ hx hk ?_
  intro w' h1 h2
  refine hK w' ?_ ?_
  · rw [toD_del] at h1
    have := map_tight h1
    rwa [toD_size] at this
  · exact Touch.of_grown h2.grown fun k hk => by cases hk; rfl
/-- 'm[p] = v' -/
theorem wpList_putM (w : World) {ops : Array Oper} {rest : List Oper} {o : Oper} {a : Act} {Q : Exit → Act → World → Prop} (hg : o.guard = none) (m y z : Operand) (hop : o.op = Op.mapUpdate 68 m y z) (bm : Nat) (es : List Ent) (x : Ent) (hm : a.eval m = .map (some bm)) (hy : a.eval y = str x.path) (hz : a.eval z = x.val)
    (hown : w.ownsMap Tryz.prog 9 heldR bm es.length (toD es)) (hlen : es.length ≤ 1000000) (hk : keyOf Tryz.prog 9 (str x.path) = some (.string x.path))
    (hK : ∀ w', w'.ownsMap Tryz.prog 9 heldR bm (putE x es).length (toD (putE x es)) → Touch (fun k => k = bm) w w' → wpList Tryz.prog ops Q rest (a.put o.dst undef) w') : wpList Tryz.prog ops Q (o :: rest) a w := by
  refine wpList_plain hg fun K hK' => ?_
  obtain ⟨w', hrun, r1, r2⟩ := run_map_put w bm es x hown hlen hk
  unfold Oper.wp
  simp [execOp, hop, hm, hy, hz, hrun, Result.andThen]
  exact hK' _ _ (hK w' r1 (Touch.of_grown r2 fun k hk => by cases hk; rfl))

theorem FsAt.two {w : World} {FP : Nat → Prop} {b bm : Nat} {es : List Ent} {s : St} (h : FsAt w FP b bm es s) : b ≠ bm := fun e => by
  obtain ⟨mes, clock, hmo, _⟩ := h.files.map
  have := h.cells
  rw [e, hmo] at this
  cases this
theorem FsAt.remap {w w' : World} {FP : Nat → Prop} {b bm : Nat} {es es' : List Ent} {s : St} (h : FsAt w FP b bm es s) (hm : w'.ownsMap Tryz.prog 9 heldR bm es'.length (toD es')) (ht : Touch (fun k => k = bm) w w')
    (hsub : ∀ x ∈ es', ∃ y ∈ es, x.val = y.val ∧ x.data = y.data) (hinj : ∀ x ∈ es', ∀ y ∈ es', x.path ≠ y.path → ∃ x' ∈ es, ∃ y' ∈ es, x'.path ≠ y'.path ∧ x.val = x'.val ∧ y.val = y'.val) (hsm : ∀ x ∈ es', x.path.length ≤ 1024) : FsAt w' FP b bm es' s := by
  obtain ⟨mes, clock, hmo, _⟩ := h.files.map
  have hb : b ≠ bm := fun e => by have := h.cells; rw [e, hmo] at this; cases this
  refine ⟨(ht.block b h.lt hb).trans h.cells, h.own, h.ownm, hm, fun x hx => ?_, fun x hx y hy hne => ?_, fun x hx => ?_⟩
  · obtain ⟨y, hy, e1, e2⟩ := hsub x hx
    rw [e1, e2]
    refine ⟨(h.files.rows y hy).1.same fun k hk => ht.block k ((h.files.rows y hy).1.block k hk) fun e => ?_, (h.files.rows y hy).2⟩
    obtain ⟨cur, hc⟩ := row_cells (h.files.rows y hy).1 k hk
    rw [e, hmo] at hc; cases hc
  · obtain ⟨x', hx', y', hy', hne', e1, e2⟩ := hinj x hx y hy hne
    rw [e1, e2]
    exact h.files.apart x' hx' y' hy' hne'
  · obtain ⟨y, hy, e1, e2⟩ := hsub x hx
    rw [e2]
    exact ⟨hsm x hx, (h.files.small y hy).2⟩

def removeP (es : List Ent) (s : St) (p : List UInt8) : Int × List Ent × St :=
  if (startP s (goodP p)).1 ≠ 0 then ((startP s (goodP p)).1, es, (startP s (goodP p)).2)
  else if lookP es p ≠ 0 then (lookP es p, es, (startP s (goodP p)).2)
  else (0, delE p es, (startP s (goodP p)).2)
def OpPost (w : World) (FP : Nat → Prop) (b bm : Nat) (r : Int × List Ent × St) (e : Ending) (w' : World) : Prop :=
  e = .returned (.int .i64 r.1) ∧ FsAt w' FP b bm r.2.1 r.2.2 ∧ Touch FP w w'

set_option maxRecDepth 100000 in
set_option maxHeartbeats 1000000 in
theorem remove_any (w : World) (FP : Nat → Prop) (b bm : Nat) (es : List Ent) (s : St) (p : List UInt8) (h : FsAt w FP b bm es s) (ho : StOk s) (hc : s.calls ≤ 4000000000000000000) :
    Calls Tryz.prog 39 #[.pointer (some ⟨b, 0, none⟩), str p] w (OpPost w FP b bm (removeP es s p)) := by
  have CG := Lib.hid (good_any p w)
  have CS := Lib.hid (fun (W : World) (hW : Below w.heap.size w W) => start_any W FP b bm es s (goodP p) (h.below hW) ho hc)
  have HOWN := Lib.hid h.own
  have HOWM := Lib.hid h.ownm
  clear h ho hc
  unfold removeP
  generalize startP s (goodP p) = r at CS ⊢
  obtain ⟨e1, s1⟩ := r
  have CK := Lib.hid (fun (W : World) (hW : FsAt W FP b bm es s1) => lookup_any W FP b bm es s1 p hW)
  by_cases h1 : e1 = 0
  · subst h1
    by_cases h2 : lookP es p = 0
    · obtain ⟨hg, x, hx⟩ := lookP_found h2
      rw [if_neg (fun h => h rfl), if_neg (fun h => h h2)]
      rw [h2] at CK
      have HK := Lib.hid (keyStr p (good_short' hg))
      clear h2 hx hg
      go_enter Tryz.func39, Tryz.ntmps39
      go_wp2_with (first
        | (go_at_call 91; refine (CG.out).mono ?_; rintro e w1 ⟨rfl, hb1⟩)
        | (go_at_call 90; refine (CS.out _ hb1).mono ?_; rintro e w2 ⟨rfl, hF2, hT2⟩; have HF2 := Lib.hid hF2; have HT2 := Lib.hid hT2; clear hF2 hT2)
        | (go_at_call 92; refine (CK.out _ HF2.out).mono ?_; rintro e w3 ⟨rfl, hb3⟩; have hF3 := HF2.out.below hb3; have c3 := hF3.cell0; have HF3 := Lib.hid hF3; clear hF3)
        | (at_delete; refine wpList_del _ rfl _ _ rfl bm es p rfl HF3.out.files.map rfl HK.out ?_; intro w4 hm4 ht4; have HM4 := Lib.hid hm4; have HT4 := Lib.hid ht4; clear hm4 ht4))
      go_ret
      refine ⟨rfl, HF3.out.remap HM4.out HT4.out (fun x hx => ⟨x, (mem_delE.1 hx).1, rfl, rfl⟩) (fun x hx y hy hne => ⟨x, (mem_delE.1 hx).1, y, (mem_delE.1 hy).1, hne, rfl, rfl⟩) (fun x hx => (HF3.out.files.small x (mem_delE.1 hx).1).1), ?_⟩
      exact ((touch_own (((Touch.of_below hb1).trans HT2.out).trans (Touch.of_below hb3)) HOWN.out).trans (HT4.out.mono fun _ _ e => e ▸ HOWM.out))
    · rw [if_neg (fun h => h rfl), if_pos h2]
      generalize lookP es p = k at *
      have hk : (k != 0) = true := by simpa using h2
      clear h2
      go_enter Tryz.func39, Tryz.ntmps39
      go_wp2_with (first
        | (go_at_call 91; refine (CG.out).mono ?_; rintro e w1 ⟨rfl, hb1⟩)
        | (go_at_call 90; refine (CS.out _ hb1).mono ?_; rintro e w2 ⟨rfl, hF2, hT2⟩; have HF2 := Lib.hid hF2; have HT2 := Lib.hid hT2; clear hF2 hT2)
        | (go_at_call 92; refine (CK.out _ HF2.out).mono ?_; rintro e w3 ⟨rfl, hb3⟩))
      go_ret
      exact ⟨rfl, HF2.out.below hb3, touch_own (((Touch.of_below hb1).trans HT2.out).trans (Touch.of_below hb3)) HOWN.out⟩
  · rw [if_pos h1]
    have hk : (e1 != 0) = true := by simpa using h1
    clear h1
    go_enter Tryz.func39, Tryz.ntmps39
    go_wp2_with (first
      | (go_at_call 91; refine (CG.out).mono ?_; rintro e w1 ⟨rfl, hb1⟩)
      | (go_at_call 90; refine (CS.out _ hb1).mono ?_; rintro e w2 ⟨rfl, hF2, hT2⟩; have HF2 := Lib.hid hF2; have HT2 := Lib.hid hT2; clear hF2 hT2))
    go_ret
    exact ⟨rfl, HF2.out, touch_own ((Touch.of_below hb1).trans HT2.out) HOWN.out⟩

theorem start_zero {s : St} {g : Bool} {s1 : St} (h : startP s g = (0, s1)) : g = true := by
  unfold startP at h
  by_cases hd : s.down = true
  · rw [if_pos hd] at h; simp at h
  · rw [if_neg hd] at h
    cases g with
    | false => simp at h
    | true => rfl
def renameP (es : List Ent) (s : St) (p q : List UInt8) : Int × List Ent × St :=
  if (startP s (goodP p && goodP q)).1 ≠ 0 then ((startP s (goodP p && goodP q)).1, es, (startP s (goodP p && goodP q)).2)
  else if lookP es p ≠ 0 then (lookP es p, es, (startP s (goodP p && goodP q)).2)
  else if (es.any fun x => blocks q p x.path) = true then (24, es, (startP s (goodP p && goodP q)).2)
  else (0, match findE es p with | some x => putE ⟨q, x.val, x.data⟩ (delE p es) | none => es, (startP s (goodP p && goodP q)).2)

set_option maxRecDepth 100000 in
set_option maxHeartbeats 2000000 in
theorem rename_any (w : World) (FP : Nat → Prop) (b bm : Nat) (es : List Ent) (s : St) (p q : List UInt8) (h : FsAt w FP b bm es s) (ho : StOk s) (hc : s.calls ≤ 4000000000000000000) (hlen : es.length ≤ 1000000) :
    Calls Tryz.prog 37 #[.pointer (some ⟨b, 0, none⟩), str p, str q] w (OpPost w FP b bm (renameP es s p q)) := by
  have CG := Lib.hid (good_any p w)
  have HOWN := Lib.hid h.own
  have HOWM := Lib.hid h.ownm
  have HLEN := Lib.hid hlen
  unfold renameP
  cases hgp : goodP p with
  | false =>
    have CS := Lib.hid (fun (W : World) (hW : Below w.heap.size w W) => start_any W FP b bm es s false (h.below hW) ho hc)
    rw [hgp] at CG
    rw [Bool.false_and]
    clear h ho hc hgp hlen
    cases hr : startP s false with
    | mk e1 s1 =>
    have h1 : e1 ≠ 0 := fun e => by subst e; have := start_zero hr; cases this
    rw [hr] at CS
    rw [if_pos h1]
    have hk : (e1 != 0) = true := by simpa using h1
    clear h1 hr
    go_enter Tryz.func37, Tryz.ntmps37
    go_wp2_with (first
      | (go_at_call 91; (with_reducible refine (CG.out).mono ?_); rintro e w1 ⟨rfl, hb1⟩; have HB1 := Lib.hid hb1; clear hb1)
      | (go_at_call 90; (with_reducible refine (CS.out _ HB1.out).mono ?_); rintro e w2 ⟨rfl, hF2, hT2⟩; have HF2 := Lib.hid hF2; have HT2 := Lib.hid hT2; clear hF2 hT2))
    go_ret
    exact ⟨rfl, HF2.out, touch_own ((Touch.of_below HB1.out).trans HT2.out) HOWN.out⟩
  | true =>
    have CH := Lib.hid (fun W : World => good_any q W)
    rw [hgp] at CG
    rw [Bool.true_and]
    generalize hgq : goodP q = gq at CH ⊢
    have CS := Lib.hid (fun (W : World) (hW : Below w.heap.size w W) => start_any W FP b bm es s gq (h.below hW) ho hc)
    clear h ho hc hlen
    cases hr : startP s gq with
    | mk e1 s1 =>
    rw [hr] at CS
    have CK := Lib.hid (fun (W : World) (hW : FsAt W FP b bm es s1) => lookup_any W FP b bm es s1 p hW)
    have CO := Lib.hid (fun (W : World) (hW : FsAt W FP b bm es s1) => obstructed_any W FP b bm es s1 q p hW)
    by_cases h1 : e1 = 0
    · subst h1
      have hg1 := start_zero hr
      subst hg1
      rw [if_neg (fun h => h rfl)]
      by_cases h2 : lookP es p = 0
      · rw [h2] at CK
        obtain ⟨_, x, hx⟩ := lookP_found h2
        rw [if_neg (fun h => h h2)]
        cases ho : es.any fun x => blocks q p x.path with
        | true =>
          rw [ho] at CO
          rw [if_pos rfl]
          clear h2 hx ho hr hgp hgq
          go_enter Tryz.func37, Tryz.ntmps37
          go_wp2_with (first
            | (go_at_call 90; (with_reducible refine (CS.out _ HB9.out).mono ?_); rintro e w2 ⟨rfl, hF2, hT2⟩; have HF2 := Lib.hid hF2; have HT2 := Lib.hid hT2; clear hF2 hT2)
            | (go_at_call 91; (with_reducible refine (CG.out).mono ?_); rintro e w1 ⟨rfl, hb1⟩; have HB1 := Lib.hid hb1; clear hb1)
            | (go_at_call 91; (with_reducible refine (CH.out _).mono ?_); rintro e w9 ⟨rfl, hb9⟩; have HB9 := Lib.hid (HB1.out.trans (hb9.mono HB1.out.size)); clear hb9)
            | (go_at_call 92; refine (CK.out _ HF2.out).mono ?_; rintro e w3 ⟨rfl, hb3⟩; have hF3 := HF2.out.below hb3; have c3 := hF3.cell0; have HF3 := Lib.hid hF3; have HB3 := Lib.hid hb3; clear hF3 hb3)
            | (go_at_call 102; refine (CO.out _ HF3.out).mono ?_; rintro e w4 ⟨rfl, hb4⟩; have hF4 := HF3.out.below hb4; have c4 := hF4.cell0; have HF4 := Lib.hid hF4; have HB4 := Lib.hid hb4; clear hF4 hb4))
          go_ret
          exact ⟨rfl, HF4.out, touch_own ((((Touch.of_below HB9.out).trans HT2.out).trans (Touch.of_below HB3.out)).trans (Touch.of_below HB4.out)) HOWN.out⟩
        | false =>
          rw [ho] at CO
          rw [if_neg (by simp), hx]
          have HKP := Lib.hid (keyStr p (good_short' hgp))
          have HKQ := Lib.hid (keyStr q (good_short' hgq))
          have HGQ := Lib.hid (goodP_len hgq)
          have HX := Lib.hid hx
          clear h2 hx ho hr hgp hgq
          go_enter Tryz.func37, Tryz.ntmps37
          go_wp2_with (first
            | (go_at_call 90; (with_reducible refine (CS.out _ HB9.out).mono ?_); rintro e w2 ⟨rfl, hF2, hT2⟩; have HF2 := Lib.hid hF2; have HT2 := Lib.hid hT2; clear hF2 hT2)
            | (go_at_call 91; (with_reducible refine (CG.out).mono ?_); rintro e w1 ⟨rfl, hb1⟩; have HB1 := Lib.hid hb1; clear hb1)
            | (go_at_call 91; (with_reducible refine (CH.out _).mono ?_); rintro e w9 ⟨rfl, hb9⟩; have HB9 := Lib.hid (HB1.out.trans (hb9.mono HB1.out.size)); clear hb9)
            | (go_at_call 92; refine (CK.out _ HF2.out).mono ?_; rintro e w3 ⟨rfl, hb3⟩; have hF3 := HF2.out.below hb3; have c3 := hF3.cell0; have HF3 := Lib.hid hF3; have HB3 := Lib.hid hb3; clear hF3 hb3)
            | (go_at_call 102; refine (CO.out _ HF3.out).mono ?_; rintro e w4 ⟨rfl, hb4⟩; have hF4 := HF3.out.below hb4; have c4 := hF4.cell0; have HF4 := Lib.hid hF4; have HB4 := Lib.hid hb4; clear hF4 hb4)
            | (at_lookup; refine wpList_lookup_held _ rfl _ _ rfl bm es p x rfl HF4.out.files.map rfl HKP.out HX.out ?_)
            | (at_delete; refine wpList_del _ rfl _ _ rfl bm es p rfl HF4.out.files.map rfl HKP.out ?_; intro w5 hm5 ht5; have hne5 : b ≠ bm := HF4.out.two; have c5 := (ht5.cell (p := ⟨b, 0, none⟩) HF4.out.lt hne5).trans c4; have HM5 := Lib.hid hm5; have HT5 := Lib.hid ht5; clear hm5 ht5 hne5)
            | (at_mapUpdate; refine wpList_putM _ rfl _ _ _ rfl bm (delE p es) ⟨q, x.val, x.data⟩ rfl rfl rfl HM5.out (Nat.le_trans (length_delE _ _) HLEN.out) HKQ.out ?_; intro w6 hm6 ht6; have HM6 := Lib.hid hm6; have HT6 := Lib.hid ht6; clear hm6 ht6))
          go_ret
          refine ⟨rfl, HF4.out.remap HM6.out (HT5.out.trans HT6.out) ?_ ?_ ?_, ?_⟩
          · intro y hy
            rcases mem_putE.1 hy with rfl | ⟨hy, _⟩
            · exact ⟨x, (findE_mem HX.out).1, rfl, rfl⟩
            · exact ⟨y, (mem_delE.1 hy).1, rfl, rfl⟩
          · intro y hy z hz hne
            rcases mem_putE.1 hy with rfl | ⟨hy, hyq⟩ <;> rcases mem_putE.1 hz with rfl | ⟨hz, hzq⟩
            · exact absurd rfl hne
            · exact ⟨x, (findE_mem HX.out).1, z, (mem_delE.1 hz).1, by rw [(findE_mem HX.out).2]; exact fun e => (mem_delE.1 hz).2 e.symm, rfl, rfl⟩
            · exact ⟨y, (mem_delE.1 hy).1, x, (findE_mem HX.out).1, by rw [(findE_mem HX.out).2]; exact (mem_delE.1 hy).2, rfl, rfl⟩
            · exact ⟨y, (mem_delE.1 hy).1, z, (mem_delE.1 hz).1, hne, rfl, rfl⟩
          · intro y hy
            rcases mem_putE.1 hy with rfl | ⟨hy, _⟩
            · exact HGQ.out
            · exact (HF4.out.files.small y (mem_delE.1 hy).1).1
          · exact (touch_own ((((Touch.of_below HB9.out).trans HT2.out).trans (Touch.of_below HB3.out)).trans (Touch.of_below HB4.out)) HOWN.out).trans ((HT5.out.trans HT6.out).mono fun _ _ e => e ▸ HOWM.out)
      · rw [if_pos h2]
        generalize lookP es p = k at *
        have hk : (k != 0) = true := by simpa using h2
        clear h2 hr hgp hgq
        go_enter Tryz.func37, Tryz.ntmps37
        go_wp2_with (first
          | (go_at_call 90; (with_reducible refine (CS.out _ HB9.out).mono ?_); rintro e w2 ⟨rfl, hF2, hT2⟩; have HF2 := Lib.hid hF2; have HT2 := Lib.hid hT2; clear hF2 hT2)
          | (go_at_call 91; (with_reducible refine (CG.out).mono ?_); rintro e w1 ⟨rfl, hb1⟩; have HB1 := Lib.hid hb1; clear hb1)
          | (go_at_call 91; (with_reducible refine (CH.out _).mono ?_); rintro e w9 ⟨rfl, hb9⟩; have HB9 := Lib.hid (HB1.out.trans (hb9.mono HB1.out.size)); clear hb9)
          | (go_at_call 92; refine (CK.out _ HF2.out).mono ?_; rintro e w3 ⟨rfl, hb3⟩; have hF3 := HF2.out.below hb3; have c3 := hF3.cell0; have HF3 := Lib.hid hF3; have HB3 := Lib.hid hb3; clear hF3 hb3))
        go_ret
        exact ⟨rfl, HF3.out, touch_own (((Touch.of_below HB9.out).trans HT2.out).trans (Touch.of_below HB3.out)) HOWN.out⟩
    · rw [if_pos h1]
      have hk : (e1 != 0) = true := by simpa using h1
      clear h1 hr hgp hgq
      go_enter Tryz.func37, Tryz.ntmps37
      go_wp2_with (first
        | (go_at_call 90; (with_reducible refine (CS.out _ HB9.out).mono ?_); rintro e w2 ⟨rfl, hF2, hT2⟩; have HF2 := Lib.hid hF2; have HT2 := Lib.hid hT2; clear hF2 hT2)
        | (go_at_call 91; (with_reducible refine (CG.out).mono ?_); rintro e w1 ⟨rfl, hb1⟩; have HB1 := Lib.hid hb1; clear hb1)
        | (go_at_call 91; (with_reducible refine (CH.out _).mono ?_); rintro e w9 ⟨rfl, hb9⟩; have HB9 := Lib.hid (HB1.out.trans (hb9.mono HB1.out.size)); clear hb9))
      go_ret
      exact ⟨rfl, HF2.out, touch_own ((Touch.of_below HB9.out).trans HT2.out) HOWN.out⟩

def setP (s : St) (k i j : Int) : Int × St :=
  if k < 0 ∨ i < 0 ∨ 3 < i ∨ j < 0 then (1, s) else if s.down then (22, s) else (0, { s with left := k, kind := i, keep := j })

end Go.Proofs.YthpkfgjjaieikaaGreatDoor
