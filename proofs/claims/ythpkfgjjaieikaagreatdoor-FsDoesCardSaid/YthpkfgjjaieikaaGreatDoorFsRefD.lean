/-
  What the document's Read and Remove return and change. Nothing is assumed.
-/
import Derived.Test.YthpkfgjjaieikaaGreatDoorFsRefC
namespace Go.Proofs.YthpkfgjjaieikaaGreatDoor
open Go.RowKit Go.Shelf Go.Lib Go.Maps

def startL (r : RSt) (l : Int) : Int × RSt := if l ≠ 0 then (l, r) else if (callR r).1 ≠ 0 then goesR (callR r).1 (callR r).2 else (0, (callR r).2)
theorem start_looks (r : RSt) (ps : List (List UInt8)) : startR r (ps.all goodP) = startL r (looksR r ps) := by
  unfold startR startL looksR
  cases r.down with
  | true => simp
  | false => cases ps.all goodP <;> simp
theorem start_looks1 (r : RSt) (p : List UInt8) : startR r (goodP p) = startL r (looksR r [p]) := by
  have := start_looks r [p]
  simpa using this
theorem start_looks2 (r : RSt) (p q : List UInt8) : startR r (goodP p && goodP q) = startL r (looksR r [p, q]) := by
  have := start_looks r [p, q]
  simpa using this
theorem looks_good {r : RSt} {ps : List (List UInt8)} (h : looksR r ps = 0) : r.down = false ∧ ps.all goodP = true := by
  unfold looksR at h
  cases hd : r.down with
  | true => rw [hd] at h; cases h
  | false =>
    rw [hd] at h
    cases hg : ps.all goodP with
    | true => exact ⟨rfl, rfl⟩
    | false => rw [hg] at h; cases h

section
variable {w : World} {FR : Nat → Prop} {rb : Nat} {v : Value} {fs : List Ent} {r : RSt}
theorem RefV.drew (h : RefV w FR rb v fs r) : RefV w.drew FR rb v fs r := h.same fun _ _ _ => rfl
theorem RefV.alloc (h : RefV w FR rb v fs r) (o : Obj) : RefV (w.alloc o) FR rb v fs r := h.below ((Below.refl _ _).alloc (Nat.le_refl _) _)
/-- looks at one path, in a new row -/
theorem refLooks1_any (h : RefV w FR rb v fs r) (p : List UInt8) :
    Calls Tryz.prog 96 #[.pointer (some ⟨rb, 0, none⟩), .slice (some ⟨w.heap.size, 0, none⟩) 1 1] (w.alloc (.cells #[str p] 9)) fun e w' => e = .returned (.int .i64 (looksR r [p])) ∧ w.alloc (.cells #[str p] 9) = w' :=
  refLooks_any (h.alloc _) w.heap.size 1 [p] (by simp) (fun k x hx => by
    cases k with
    | zero => simp at hx; subst hx; exact cell_of_row _ _ 0 _ _ _ (World.alloc_heap_new w _)
    | succ k => simp at hx)
theorem refLooks2_any (h : RefV w FR rb v fs r) (p q : List UInt8) :
    Calls Tryz.prog 96 #[.pointer (some ⟨rb, 0, none⟩), .slice (some ⟨w.heap.size, 0, none⟩) 2 2] (w.alloc (.cells #[str p, str q] 9)) fun e w' => e = .returned (.int .i64 (looksR r [p, q])) ∧ w.alloc (.cells #[str p, str q] 9) = w' :=
  refLooks_any (h.alloc _) w.heap.size 2 [p, q] (by simp) (fun k x hx => by
    match k with
    | 0 => simp at hx; subst hx; exact cell_of_row _ _ 0 _ _ _ (World.alloc_heap_new w _)
    | 1 => simp at hx; subst hx; exact cell_of_row _ _ 1 _ _ _ (World.alloc_heap_new w _)
    | k + 2 => simp at hx)

def ReadRPost (w : World) (FR : Nat → Prop) (rb : Nat) (v : Value) (fs : List Ent) (res : List UInt8 × Int × RSt) (e : Ending) (w' : World) : Prop :=
  ∃ u, e = .returned (.tuple #[u, .int .i64 res.2.1]) ∧ w'.ownsRow w.heap.size 5 1 u res.1.length (byteVals res.1) ∧ RefV w' FR rb v fs res.2.2 ∧ Touch (fun k => k = rb) w w'

set_option maxRecDepth 100000 in
set_option maxHeartbeats 4000000 in
theorem refRead_any (h : RefV w FR rb v fs r) (ho : ROk r) (p : List UInt8) :
    Calls Tryz.prog 33 #[.pointer (some ⟨rb, 0, none⟩), str p] w (ReadRPost w FR rb v fs (readR fs r p)) := by
  have hR : readR fs r p = if (startL r (looksR r [p])).1 ≠ 0 then ([], startL r (looksR r [p])) else if fileR fs p ≠ 0 then ([], fileR fs p, (startL r (looksR r [p])).2) else ((lookR fs p).getD [], 0, (startL r (looksR r [p])).2) := by
    rw [← start_looks1]; rfl
  have CL := Lib.hid (refLooks1_any h p)
  obtain ⟨w1, hw1⟩ : ∃ w1, w1 = w.alloc (.cells #[str p] 9) := ⟨_, rfl⟩
  have h1 : RefV w1 FR rb v fs r := by rw [hw1]; exact h.alloc _
  have T1 : Touch (fun k => k = rb) w w1 := by rw [hw1]; exact Touch.alloc _ _ _
  rw [← hw1] at CL
  have CC := Lib.hid (refCall_any h1 ho)
  have HF1 := Lib.hid h1
  have HT1 := Lib.hid T1
  have HW1 := Lib.hid hw1
  have hlk : looksR r [p] = 0 → goodP p = true := fun e => by have := (looks_good e).2; simpa using this
  unfold startL at hR
  generalize hl : looksR r [p] = l at CL hR hlk
  generalize hcr : callR r = kr at CC hR
  obtain ⟨k, r1⟩ := kr
  clear h h1 T1 hl hcr hw1
  by_cases hl0 : l = 0
  · subst hl0
    have hg := hlk rfl
    have hpl : p.length ≤ maxLen := good_short' hg
    by_cases hk0 : k = 0
    · subst hk0
      simp only [ne_eq, not_true_eq_false, if_false] at hR
      by_cases hf0 : fileR fs p = 0
      · rw [if_neg (fun e => e hf0)] at hR
        have HR := Lib.hid hR
        have HPL := Lib.hid hpl
        have HF0 := Lib.hid hf0
        clear hR hpl hlk hg hf0
        go_enter Tryz.func33, Tryz.ntmps33
        go_wp2_with (first
          | (go_at_call 96; rw [← HW1.out]; refine (CL.out).mono ?_; rintro e w' ⟨rfl, rfl⟩)
          | (go_at_call 97; refine (CC.out).mono ?_; rintro e w2 ⟨rfl, hF, hT⟩; have HF2 := Lib.hid hF; have HT2 := Lib.hid (HT1.out.trans hT); clear hF hT)
          | (go_at_call 99; refine (refFile_any HF2.out p HPL.out).mono ?_; rw [HF0.out]; rintro e w' ⟨rfl, rfl⟩))
        have hF2 := HF2.out
        have hfd : ∃ x, findE fs p = some x := by
          have hf := HF0.out
          unfold fileR at hf
          split at hf
          · cases hf
          · split at hf
            · next hs => exact Option.isSome_iff_exists.1 hs
            · cases hf
        obtain ⟨x, hx⟩ := hfd
        have hlook : lookR fs p = some x.data := by unfold lookR; rw [hx]; rfl
        rw [hlook] at HR
        have CF := refFind_any hF2.drew p
        have hi : findR fs p = (idxE fs p : Int) := by
          unfold findR
          rw [if_pos (by rw [hx]; rfl)]
        rw [hi] at CF
        obtain ⟨hlt, hxi⟩ := idx_some hx
        have hxi' : fs[idxE fs p]? = some x := by rw [← hxi]; exact List.getElem?_eq_getElem hlt
        generalize idxE fs p = i at CF hlt hxi'
        have hn := hF2.short
        obtain ⟨A, cap, hv, hcap, _, hat⟩ := hF2.form
        obtain ⟨g, rfl, hg, _, cd, fd⟩ := hat i x hxi'
        have hrowx := (hF2.datas x (List.mem_of_getElem? hxi')).1
        have hsm := (hF2.small x (List.mem_of_getElem? hxi')).2
        have hnone := World.ownsRow_nil w2.drew w.heap.size 5 1
        obtain ⟨A5, cap5, hx5, _⟩ := own_form hrowx
        obtain ⟨v5, w5, run5, own5, g5, _⟩ := append_bytes w2.drew w.heap.size (.slice none 0 0) [] hnone (u := x.val) x.data (Reads.of_row (base := 0) (w := w2.drew) hrowx) (by simp; omega) HT2.out.size 30
        rw [List.nil_append] at own5
        have B5 : Below w2.heap.size w2 w5 := below_drew (grown_below g5 (Nat.le_refl _) (fun k e => by cases e))
        rw [hx5] at run5 cd
        have c0 := hF2.cell0
        rw [hv] at c0
        have c0' : w5.cell? ⟨rb, 0, none⟩ = some (.slice (some ⟨g, 0, none⟩) fs.length cap) := (B5.cell (p := ⟨rb, 0, none⟩) hF2.lt).trans c0
        have i0 : (0 : Int) ≤ (i : Int) := by omega
        have i1 : (i : Int) < (fs.length : Int) := by omega
        have HOWN := Lib.hid own5
        have HF5 := Lib.hid (hF2.below B5)
        have HT5 := Lib.hid (HT2.out.trans (Touch.of_below B5))
        have CF := Lib.hid CF
        obtain ⟨B5', cb5, rfl⟩ : ∃ A1 cap1, v5 = .slice A1 x.data.length cap1 := by obtain ⟨A1, cap1, e, _⟩ := own_form own5; exact ⟨A1, cap1, e⟩
        clear hF2 hx hlook hi hxi hxi' hat hrowx hnone own5 g5 B5 hv hx5 fd
        go_region_law (first
          | (go_simp; go_at_call 100; refine (CF.out).mono ?_; rintro e w' ⟨rfl, rfl⟩)
          | (refine step_append_run run5 (by rfl) _ _ (by rfl) (by rfl) (by rfl) (by rfl) ?_))
        all_goals
          go_wp2_with fail
          go_ret2
          rw [HR.out]
          exact ⟨_, rfl, HOWN.out, HF5.out, HT5.out⟩
      · rw [if_pos hf0] at hR
        have HR := Lib.hid hR
        have HPL := Lib.hid hpl
        have hq1 : (fileR fs p == 0) = false := by simpa using hf0
        have hq2 : (fileR fs p != 0) = true := by simpa using hf0
        have HFL := Lib.hid (fun (W : World) (hW : RefV W FR rb v fs r1) => refFile_any hW p hpl)
        clear hR hpl hlk hg hf0
        generalize fileR fs p = f at HFL hq1 hq2 HR
        go_enter Tryz.func33, Tryz.ntmps33
        go_wp2_with (first
          | (go_at_call 96; rw [← HW1.out]; refine (CL.out).mono ?_; rintro e w' ⟨rfl, rfl⟩)
          | (go_at_call 97; refine (CC.out).mono ?_; rintro e w2 ⟨rfl, hF, hT⟩; have HF2 := Lib.hid hF; have HT2 := Lib.hid (HT1.out.trans hT); clear hF hT)
          | (go_at_call 99; refine (HFL.out _ HF2.out).mono ?_; rintro e w' ⟨rfl, rfl⟩))
        go_ret2
        rw [HR.out]
        exact ⟨_, rfl, World.ownsRow_nil _ _ _ _, HF2.out, HT2.out⟩
    · simp only [ne_eq, not_true_eq_false, if_false, hk0, not_false_eq_true, if_true] at hR
      have hq1 : (k == 0) = false := by simpa using hk0
      have hq2 : (k != 0) = true := by simpa using hk0
      have hgn : (goesR k r1).1 ≠ 0 := by unfold goesR; split <;> (try split) <;> simp
      rw [if_pos hgn] at hR
      have HR := Lib.hid hR
      clear hR hpl hlk hg hk0 hgn
      go_enter Tryz.func33, Tryz.ntmps33
      go_wp2_with (first
        | (go_at_call 96; rw [← HW1.out]; refine (CL.out).mono ?_; rintro e w' ⟨rfl, rfl⟩)
        | (go_at_call 97; refine (CC.out).mono ?_; rintro e w2 ⟨rfl, hF, hT⟩; have HF2 := Lib.hid hF; have HT2 := Lib.hid (HT1.out.trans hT); clear hF hT)
        | (go_at_call 98; refine (refGoes_any HF2.out k).mono ?_; rintro e w3 ⟨rfl, hF, hT⟩; have HF3 := Lib.hid hF; have HT3 := Lib.hid (HT2.out.trans hT); clear hF hT))
      go_ret2
      rw [HR.out]
      exact ⟨_, rfl, World.ownsRow_nil _ _ _ _, HF3.out, HT3.out⟩
  · have hq1 : (l == 0) = false := by simpa using hl0
    have hq2 : (l != 0) = true := by simpa using hl0
    rw [if_pos hl0, if_pos hl0] at hR
    have HR := Lib.hid hR
    clear hR hlk hl0
    go_enter Tryz.func33, Tryz.ntmps33
    go_wp2_with (go_at_call 96; rw [← HW1.out]; refine (CL.out).mono ?_; rintro e w' ⟨rfl, rfl⟩)
    go_ret2
    rw [HR.out]
    exact ⟨_, rfl, World.ownsRow_nil _ _ _ _, HF1.out, HT1.out⟩

def RemRPost (w : World) (FR : Nat → Prop) (rb : Nat) (res : Int × List Ent × RSt) (e : Ending) (w' : World) : Prop :=
  ∃ v', e = .returned (.int .i64 res.1) ∧ RefV w' (fun k => FR k ∨ w.heap.size ≤ k) rb v' res.2.1 res.2.2 ∧ Touch FR w w'
theorem rb_own {FR : Nat → Prop} {rb : Nat} (ho : FR rb) {w w' : World} (h : Touch (fun k => k = rb) w w') : Touch FR w w' := h.mono fun _ _ e => e ▸ ho
theorem goes_ne (k : Int) (r : RSt) : (goesR k r).1 ≠ 0 := by unfold goesR; split <;> (try split) <;> simp

set_option maxRecDepth 100000 in
set_option maxHeartbeats 4000000 in
theorem refRemove_any (h : RefV w FR rb v fs r) (hrise : Rising fs) (ho : ROk r) (p : List UInt8) :
    Calls Tryz.prog 40 #[.pointer (some ⟨rb, 0, none⟩), str p] w (RemRPost w FR rb (removeR fs r p)) := by
  have hR : removeR fs r p = if (startL r (looksR r [p])).1 ≠ 0 then ((startL r (looksR r [p])).1, fs, (startL r (looksR r [p])).2) else if fileR fs p ≠ 0 then (fileR fs p, fs, (startL r (looksR r [p])).2) else (0, delE p fs, (startL r (looksR r [p])).2) := by
    rw [← start_looks1]; rfl
  have CL := Lib.hid (refLooks1_any h p)
  obtain ⟨w1, hw1⟩ : ∃ w1, w1 = w.alloc (.cells #[str p] 9) := ⟨_, rfl⟩
  have h1 : RefV w1 FR rb v fs r := by rw [hw1]; exact h.alloc _
  have T1 : Touch (fun k => k = rb) w w1 := by rw [hw1]; exact Touch.alloc _ _ _
  rw [← hw1] at CL
  have CC := Lib.hid (refCall_any h1 ho)
  have HF1 := Lib.hid h1
  have HT1 := Lib.hid T1
  have HW1 := Lib.hid hw1
  have HOWN := Lib.hid h.own
  have HRISE := Lib.hid hrise
  have hlk : looksR r [p] = 0 → goodP p = true := fun e => by have := (looks_good e).2; simpa using this
  unfold startL at hR
  generalize hl : looksR r [p] = l at CL hR hlk
  generalize hcr : callR r = kr at CC hR
  obtain ⟨k, r1⟩ := kr
  clear h h1 T1 hl hcr hw1 hrise
  by_cases hl0 : l = 0
  · subst hl0
    have hg := hlk rfl
    have hpl : p.length ≤ maxLen := good_short' hg
    by_cases hk0 : k = 0
    · subst hk0
      simp only [ne_eq, not_true_eq_false, if_false] at hR
      by_cases hf0 : fileR fs p = 0
      · rw [if_neg (fun e => e hf0)] at hR
        have HR := Lib.hid hR
        have HPL := Lib.hid hpl
        have hfd : ∃ x, findE fs p = some x := by
          have hf := hf0
          unfold fileR at hf
          split at hf
          · cases hf
          · split at hf
            · next hs => exact Option.isSome_iff_exists.1 hs
            · cases hf
        obtain ⟨x, hx⟩ := hfd
        have HX := Lib.hid hx
        have HF0 := Lib.hid hf0
        clear hR hpl hlk hg hf0 hx
        go_enter Tryz.func40, Tryz.ntmps40
        go_wp2_with (first
          | (go_at_call 96; rw [← HW1.out]; refine (CL.out).mono ?_; rintro e w' ⟨rfl, rfl⟩)
          | (go_at_call 97; refine (CC.out).mono ?_; rintro e w2 ⟨rfl, hF, hT⟩; have HF2 := Lib.hid hF; have HT2 := Lib.hid (HT1.out.trans hT); clear hF hT)
          | (go_at_call 99; refine (refFile_any HF2.out p HPL.out).mono ?_; rw [HF0.out]; rintro e w' ⟨rfl, rfl⟩)
          | (go_at_call 103; refine (refDrop_any HF2.out HRISE.out HX.out).mono ?_; rintro e w3 ⟨v3, rfl, hF, hT⟩; have HF3 := Lib.hid hF; have HT3 := Lib.hid (HT2.out.trans hT); clear hF hT))
        go_ret
        rw [HR.out]
        exact ⟨_, rfl, HF3.out.more fun j hj => hj.imp id fun hj => Nat.le_trans HT2.out.size hj, rb_own HOWN.out HT3.out⟩
      · rw [if_pos hf0] at hR
        have HR := Lib.hid hR
        have hq1 : (fileR fs p == 0) = false := by simpa using hf0
        have hq2 : (fileR fs p != 0) = true := by simpa using hf0
        have HFL := Lib.hid (fun (W : World) (hW : RefV W FR rb v fs r1) => refFile_any hW p hpl)
        clear hR hpl hlk hg hf0
        generalize fileR fs p = f at HFL hq1 hq2 HR
        go_enter Tryz.func40, Tryz.ntmps40
        go_wp2_with (first
          | (go_at_call 96; rw [← HW1.out]; refine (CL.out).mono ?_; rintro e w' ⟨rfl, rfl⟩)
          | (go_at_call 97; refine (CC.out).mono ?_; rintro e w2 ⟨rfl, hF, hT⟩; have HF2 := Lib.hid hF; have HT2 := Lib.hid (HT1.out.trans hT); clear hF hT)
          | (go_at_call 99; refine (HFL.out _ HF2.out).mono ?_; rintro e w' ⟨rfl, rfl⟩))
        go_ret
        rw [HR.out]
        exact ⟨_, rfl, HF2.out.more fun j hj => .inl hj, rb_own HOWN.out HT2.out⟩
    · simp only [ne_eq, not_true_eq_false, if_false, hk0, not_false_eq_true, if_true] at hR
      have hq1 : (k == 0) = false := by simpa using hk0
      have hq2 : (k != 0) = true := by simpa using hk0
      rw [if_pos (goes_ne k r1)] at hR
      have HR := Lib.hid hR
      clear hR hpl hlk hg hk0
      go_enter Tryz.func40, Tryz.ntmps40
      go_wp2_with (first
        | (go_at_call 96; rw [← HW1.out]; refine (CL.out).mono ?_; rintro e w' ⟨rfl, rfl⟩)
        | (go_at_call 97; refine (CC.out).mono ?_; rintro e w2 ⟨rfl, hF, hT⟩; have HF2 := Lib.hid hF; have HT2 := Lib.hid (HT1.out.trans hT); clear hF hT)
        | (go_at_call 98; refine (refGoes_any HF2.out k).mono ?_; rintro e w3 ⟨rfl, hF, hT⟩; have HF3 := Lib.hid hF; have HT3 := Lib.hid (HT2.out.trans hT); clear hF hT))
      go_ret
      rw [HR.out]
      exact ⟨_, rfl, HF3.out.more fun j hj => .inl hj, rb_own HOWN.out HT3.out⟩
  · have hq1 : (l == 0) = false := by simpa using hl0
    have hq2 : (l != 0) = true := by simpa using hl0
    rw [if_pos hl0, if_pos hl0] at hR
    have HR := Lib.hid hR
    clear hR hlk hl0
    go_enter Tryz.func40, Tryz.ntmps40
    go_wp2_with (go_at_call 96; rw [← HW1.out]; refine (CL.out).mono ?_; rintro e w' ⟨rfl, rfl⟩)
    go_ret
    rw [HR.out]
    exact ⟨_, rfl, HF1.out.more fun j hj => .inl hj, rb_own HOWN.out HT1.out⟩
end

end Go.Proofs.YthpkfgjjaieikaaGreatDoor
