/-
  What the document's Rename returns and changes. Nothing is assumed.
-/
import Derived.Test.YthpkfgjjaieikaaGreatDoorFsRefD
namespace Go.Proofs.YthpkfgjjaieikaaGreatDoor
open Go.RowKit Go.Shelf Go.Lib Go.Maps

section
variable {w : World} {FR : Nat → Prop} {rb : Nat} {v : Value} {fs : List Ent} {r : RSt}
theorem touch_join {w w3 w4 : World} {FR : Nat → Prop} (h : Touch FR w w3) (ht : Touch (fun k => FR k ∨ w.heap.size ≤ k) w3 w4) : Touch FR w w4 :=
  ((h.mono fun _ _ h => .inl h).trans ht).mono fun k hk hT => hT.resolve_right (by omega)
theorem refPut_any (h : RefV w FR rb v fs r) (hrise : Rising fs) {p c : List UInt8} {u : Value} (hu : ∀ W, Touch (fun k => k = rb) w W → Reads W u c) (hc : c.length ≤ 1048576) (hroom : findE fs p = none → fs.length < 4096) (hp : p.length ≤ 1024) :
    Calls Tryz.prog 105 #[.pointer (some ⟨rb, 0, none⟩), str p, u] w (PutRPost w FR rb fs r p c) := by
  cases hx : findE fs p with
  | none => exact refPut_new h hx hu hc (hroom hx) hp
  | some x => exact refPut_found h hrise hx (hu w (Touch.refl _ _)) hc
theorem rising_del {fs : List Ent} (h : Rising fs) (p : List UInt8) : Rising (delE p fs) := List.Pairwise.filter _ h
theorem data_reads (h : RefV w FR rb v fs r) {x : Ent} (hx : x ∈ fs) : ∀ W, Touch (fun k => k = rb) w W → Reads W x.val x.data := fun W ht => by
  have hr := (h.datas x hx).1
  have hne : x.val.ownBlock ≠ some rb := own_kind hr h.cells (by decide)
  exact Reads.of_row (base := 0) (hr.same fun k hk => ht.block k (hr.block k hk) fun e => hne (by rw [hk, e]))

def RenRPost (w : World) (FR : Nat → Prop) (rb : Nat) (fs : List Ent) (p q : List UInt8) (res : Int × Option (List UInt8) × RSt) (e : Ending) (w' : World) : Prop :=
  ∃ v' fs', e = .returned (.int .i64 res.1) ∧ RefV w' (fun k => FR k ∨ w.heap.size ≤ k) rb v' fs' res.2.2 ∧ Touch FR w w' ∧ (match res.2.1 with | none => fs' = fs | some d => ∃ dv, fs' = putE ⟨q, dv, d⟩ (delE p fs))

set_option maxRecDepth 100000 in
set_option maxHeartbeats 8000000 in
theorem refRename_any (h : RefV w FR rb v fs r) (hrise : Rising fs) (ho : ROk r) (p q : List UInt8) :
    Calls Tryz.prog 38 #[.pointer (some ⟨rb, 0, none⟩), str p, str q] w (RenRPost w FR rb fs p q (renameR fs r p q)) := by
  have hR : renameR fs r p q = if (startL r (looksR r [p, q])).1 ≠ 0 then ((startL r (looksR r [p, q])).1, none, (startL r (looksR r [p, q])).2) else if fileR fs p ≠ 0 then (fileR fs p, none, (startL r (looksR r [p, q])).2) else if freeR (delE p fs) q ≠ 0 then (freeR (delE p fs) q, none, (startL r (looksR r [p, q])).2) else (0, lookR fs p, (startL r (looksR r [p, q])).2) := by
    rw [← start_looks2]; rfl
  have CL := Lib.hid (refLooks2_any h p q)
  obtain ⟨w1, hw1⟩ : ∃ w1, w1 = w.alloc (.cells #[str p, str q] 9) := ⟨_, rfl⟩
  have h1 : RefV w1 FR rb v fs r := by rw [hw1]; exact h.alloc _
  have T1 : Touch (fun k => k = rb) w w1 := by rw [hw1]; exact Touch.alloc _ _ _
  rw [← hw1] at CL
  have CC := Lib.hid (refCall_any h1 ho)
  have HF1 := Lib.hid h1
  have HT1 := Lib.hid T1
  have HW1 := Lib.hid hw1
  have HOWN := Lib.hid h.own
  have HRISE := Lib.hid hrise
  have hlk : looksR r [p, q] = 0 → goodP p = true ∧ goodP q = true := fun e => by have := (looks_good e).2; simpa using this
  unfold startL at hR
  generalize hl : looksR r [p, q] = l at CL hR hlk
  generalize hcr : callR r = kr at CC hR
  obtain ⟨k, r1⟩ := kr
  clear h h1 T1 hl hcr hw1 hrise
  by_cases hl0 : l = 0
  · subst hl0
    obtain ⟨hg, hgq⟩ := hlk rfl
    have hpl : p.length ≤ maxLen := good_short' hg
    by_cases hk0 : k = 0
    · subst hk0
      simp only [ne_eq, not_true_eq_false, if_false] at hR
      by_cases hf0 : fileR fs p = 0
      · rw [if_neg (fun e => e hf0)] at hR
        have HPL := Lib.hid hpl
        have HGQ := Lib.hid hgq
        have hfd : ∃ x, findE fs p = some x := by
          have hf := hf0
          unfold fileR at hf
          split at hf
          · cases hf
          · split at hf
            · next hs => exact Option.isSome_iff_exists.1 hs
            · cases hf
        obtain ⟨x, hx⟩ := hfd
        have hlook : lookR fs p = some x.data := by unfold lookR; rw [hx]; rfl
        rw [hlook] at hR
        have HR := Lib.hid hR
        have HX := Lib.hid hx
        have HF0 := Lib.hid hf0
        clear hR hpl hlk hg hgq hf0 hlook hx
        go_enter Tryz.func38, Tryz.ntmps38
        go_wp2_with (first
          | (go_at_call 96; rw [← HW1.out]; refine (CL.out).mono ?_; rintro e w' ⟨rfl, rfl⟩)
          | (go_at_call 97; refine (CC.out).mono ?_; rintro e w2 ⟨rfl, hF, hT⟩; have HF2 := Lib.hid hF; have HT2 := Lib.hid (HT1.out.trans hT); clear hF hT)
          | (go_at_call 99; refine (refFile_any HF2.out p HPL.out).mono ?_; rw [HF0.out]; rintro e w' ⟨rfl, rfl⟩))
        have hF2 := HF2.out
        have CF := refFind_any hF2.drew p
        have hi : findR fs p = (idxE fs p : Int) := by
          unfold findR
          rw [if_pos (by rw [HX.out]; rfl)]
        rw [hi] at CF
        obtain ⟨hlt, hxi⟩ := idx_some HX.out
        have hxi' : fs[idxE fs p]? = some x := by rw [← hxi]; exact List.getElem?_eq_getElem hlt
        generalize idxE fs p = i at CF hlt hxi'
        have hn := hF2.short
        obtain ⟨A, cap, rfl, hcap, _, hat⟩ := hF2.form
        obtain ⟨g, rfl, hg, _, cd, fd⟩ := hat i x hxi'
        have hmem := List.mem_of_getElem? hxi'
        have hrowx := (hF2.datas x hmem).1
        have hsm := (hF2.small x hmem).2
        obtain ⟨A5, cap5, hx5, _⟩ := own_form hrowx
        rw [hx5] at cd
        have c0 := hF2.cell0
        have i0 : (0 : Int) ≤ (i : Int) := by omega
        have i1 : (i : Int) < (fs.length : Int) := by omega
        have CF := Lib.hid CF
        have HSM := Lib.hid hsm
        have HMEM := Lib.hid hmem
        have HX5 := Lib.hid hx5
        have HROOM := Lib.hid (show (delE p fs).length < 4096 by have := length_del_found HX.out; omega)
        clear hF2 hi hxi hxi' hat hrowx fd hmem hsm hx5
        go_region_law (go_simp; go_at_call 100; refine (CF.out).mono ?_; rintro e w' ⟨rfl, rfl⟩)
        all_goals
          have CD := Lib.hid (refDrop_any HF2.out.drew HRISE.out HX.out)
          have HT2d := Lib.hid (HT2.out.drew)
          by_cases hfr : freeR (delE p fs) q = 0
          · have HFR := Lib.hid hfr
            clear hfr
            go_wp2_with (first
              | (go_at_call 103; refine (CD.out).mono ?_; rintro e w3 ⟨v3, rfl, hF, hT⟩; have HF3 := Lib.hid hF; have HT3 := Lib.hid hT; have c3 := hF.cell0; clear hF hT)
              | (go_at_call 104; refine (refFree_any HF3.out q (good_short' HGQ.out)).mono ?_; rw [HFR.out]; rintro e w' ⟨rfl, rfl⟩)
              | (go_at_call 105; refine (refPut_any HF3.out (rising_del HRISE.out p) (c := x.data) (fun W hW => by rw [← HX5.out]; exact data_reads HF2.out.drew HMEM.out W (HT3.out.trans hW)) HSM.out (fun _ => HROOM.out) (goodP_len HGQ.out)).mono ?_; rintro e w4 ⟨v4, dv, rfl, hF, hT⟩; have HF4 := Lib.hid hF; have HT4 := Lib.hid hT; clear hF hT))
            go_ret
            have hb := HT2.out.size
            have hb3 : w2.heap.size ≤ w3.heap.size := HT3.out.size
            rw [HR.out, if_neg (fun e => e HFR.out)]
            refine ⟨_, _, rfl, HF4.out.more fun j hj => ?_, ?_, _, rfl⟩
            · rcases hj with (hj | hj) | hj
              · exact .inl hj
              · exact .inr (Nat.le_trans hb hj)
              · exact .inr (by omega)
            · refine touch_join (rb_own HOWN.out (HT2d.out.trans HT3.out)) (HT4.out.mono fun j _ hj => hj.imp id fun hj => Nat.le_trans hb hj)
          · have hq1 : (freeR (delE p fs) q == 0) = false := by simpa using hfr
            have hq2 : (freeR (delE p fs) q != 0) = true := by simpa using hfr
            have HFE := Lib.hid (fun (W : World) (F : Nat → Prop) (u : Value) (hW : RefV W F rb u (delE p fs) r1) => refFree_any hW q (good_short' HGQ.out))
            have HR2 := HR.out
            rw [if_pos hfr] at HR2
            have HR2 := Lib.hid HR2
            clear hfr
            generalize freeR (delE p fs) q = f at hq1 hq2 HFE HR2
            go_wp2_with (first
              | (go_at_call 103; refine (CD.out).mono ?_; rintro e w3 ⟨v3, rfl, hF, hT⟩; have HF3 := Lib.hid hF; have HT3 := Lib.hid hT; have c3 := hF.cell0; have f3 := hF.frozen 0; clear hF hT)
              | (go_at_call 104; refine (HFE.out _ _ _ HF3.out).mono ?_; rintro e w' ⟨rfl, rfl⟩))
            go_ret
            rw [HR2.out]
            refine ⟨_, fs, rfl, RefV.more (HF2.out.drew.turn (r' := r1) ?_ fun j hj hne => ?_) fun j hj => .inl hj, rb_own HOWN.out ((HT2d.out.trans HT3.out).trans (touch_rb _ _ _ _)), rfl⟩
            · exact heap_setCell_same w3 rb 0 _ _ _ HF3.out.cells
            · exact (Below.heap_setCell w3 _ _ j (fun e => hne e)).trans (HT3.out.block j hj hne)
      · rw [if_pos hf0] at hR
        have HR := Lib.hid hR
        have hq1 : (fileR fs p == 0) = false := by simpa using hf0
        have hq2 : (fileR fs p != 0) = true := by simpa using hf0
        have HFL := Lib.hid (fun (W : World) (hW : RefV W FR rb v fs r1) => refFile_any hW p hpl)
        clear hR hpl hlk hg hgq hf0
        generalize fileR fs p = f at HFL hq1 hq2 HR
        go_enter Tryz.func38, Tryz.ntmps38
        go_wp2_with (first
          | (go_at_call 96; rw [← HW1.out]; refine (CL.out).mono ?_; rintro e w' ⟨rfl, rfl⟩)
          | (go_at_call 97; refine (CC.out).mono ?_; rintro e w2 ⟨rfl, hF, hT⟩; have HF2 := Lib.hid hF; have HT2 := Lib.hid (HT1.out.trans hT); clear hF hT)
          | (go_at_call 99; refine (HFL.out _ HF2.out).mono ?_; rintro e w' ⟨rfl, rfl⟩))
        go_ret
        rw [HR.out]
        exact ⟨_, _, rfl, HF2.out.more fun j hj => .inl hj, rb_own HOWN.out HT2.out, rfl⟩
    · simp only [ne_eq, not_true_eq_false, if_false, hk0, not_false_eq_true, if_true] at hR
      have hq1 : (k == 0) = false := by simpa using hk0
      have hq2 : (k != 0) = true := by simpa using hk0
      rw [if_pos (goes_ne k r1)] at hR
      have HR := Lib.hid hR
      clear hR hpl hlk hg hgq hk0
      go_enter Tryz.func38, Tryz.ntmps38
      go_wp2_with (first
        | (go_at_call 96; rw [← HW1.out]; refine (CL.out).mono ?_; rintro e w' ⟨rfl, rfl⟩)
        | (go_at_call 97; refine (CC.out).mono ?_; rintro e w2 ⟨rfl, hF, hT⟩; have HF2 := Lib.hid hF; have HT2 := Lib.hid (HT1.out.trans hT); clear hF hT)
        | (go_at_call 98; refine (refGoes_any HF2.out k).mono ?_; rintro e w3 ⟨rfl, hF, hT⟩; have HF3 := Lib.hid hF; have HT3 := Lib.hid (HT2.out.trans hT); clear hF hT))
      go_ret
      rw [HR.out]
      exact ⟨_, _, rfl, HF3.out.more fun j hj => .inl hj, rb_own HOWN.out HT3.out, rfl⟩
  · have hq1 : (l == 0) = false := by simpa using hl0
    have hq2 : (l != 0) = true := by simpa using hl0
    rw [if_pos hl0, if_pos hl0] at hR
    have HR := Lib.hid hR
    clear hR hlk hl0
    go_enter Tryz.func38, Tryz.ntmps38
    go_wp2_with (go_at_call 96; rw [← HW1.out]; refine (CL.out).mono ?_; rintro e w' ⟨rfl, rfl⟩)
    go_ret
    rw [HR.out]
    exact ⟨_, _, rfl, HF1.out.more fun j hj => .inl hj, rb_own HOWN.out HT1.out, rfl⟩
end

end Go.Proofs.YthpkfgjjaieikaaGreatDoor
