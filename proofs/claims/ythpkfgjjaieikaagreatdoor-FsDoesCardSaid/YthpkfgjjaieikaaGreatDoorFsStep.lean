/-
  What one operation of a script does to both file systems: the same answers, and both go on alike. Nothing is assumed.
-/
import Derived.Test.YthpkfgjjaieikaaGreatDoorFsBoth
import Derived.Deep.RegionHeld3
import Derived.Deep.DrawnRows
namespace Go.Proofs.YthpkfgjjaieikaaGreatDoor
open Go.RowKit Go.Shelf Go.Lib Go.Maps
attribute [local go_sem ↓] Go.wp_at_zero Go.wp_at_succ

def StepPost (w : World) (FP FR : Nat → Prop) (rb : Nat) (s : St) (e : Ending) (w' : World) : Prop :=
  ∃ b', e = .returned (.tuple #[.pointer (some ⟨b', 0, none⟩), .bool true]) ∧ StepR w FP FR rb s b' w'
theorem pe_alike {es es' fs : List Ent} {p : List UInt8} {d d2 : Option (List UInt8)} {fs' : List Ent} (ha : Alike es fs) (h : PutEs es p d es') (h2 : match d2 with | none => fs' = fs | some d => ∃ dv, fs' = putE ⟨p, dv, d⟩ fs) (hd : d2 = d) : Alike es' fs' := by
  subst hd
  cases d2 with
  | none => rw [show es' = es from h, show fs' = fs from h2]; exact ha
  | some d =>
    obtain ⟨v, rfl⟩ := h
    obtain ⟨dv, rfl⟩ := h2
    exact ha.put rfl
theorem one_inv4 {es : List Ent} {s : St} {p : List UInt8} (hi : Inv es) : Inv (removeP es s p).2.1 := by
  unfold removeP
  split
  · exact hi
  · split
    · exact hi
    · exact inv_del hi _
theorem one_len4 {es : List Ent} {s : St} {p : List UInt8} (hl : es.length ≤ 4096) : (removeP es s p).2.1.length ≤ 4096 := by
  unfold removeP
  split
  · exact hl
  · split
    · exact hl
    · exact Nat.le_trans (length_delE _ _) hl
theorem one_inv3 {es : List Ent} {s : St} {p q : List UInt8} (hi : Inv es) : Inv (renameP es s p q).2.1 :=
  inv_one (o := ⟨3, p, q, .slice none 0 0, [], 0, 0, 0⟩) (s := s) (r := (renameP es s p q).1) (s' := (renameP es s p q).2.2) hi (by simp [OneRes])
theorem one_len3 {es : List Ent} {s : St} {p q : List UInt8} (hl : es.length ≤ 4096) : (renameP es s p q).2.1.length ≤ 4096 :=
  one_len (o := ⟨3, p, q, .slice none 0 0, [], 0, 0, 0⟩) (s := s) (r := (renameP es s p q).1) (s' := (renameP es s p q).2.2) (by simp [OneRes]) hl
theorem set_next {s : St} {k i j : Int} (ho : StOk s) (hkj : k ≤ 9223372036854775807 ∧ j ≤ 9223372036854775807) : StNext s (setP s k i j).2 := by
  unfold setP
  split
  · exact next_refl ho
  · split
    · exact next_refl ho
    · obtain ⟨h1, h2, h3, h4, h5, h6, h7, h8⟩ := ho
      exact ⟨⟨by show 0 ≤ k; omega, hkj.1, by show 0 ≤ i; omega, by show i ≤ 3; omega, by show 0 ≤ j; omega, hkj.2, h7, h8⟩, by show s.calls ≤ s.calls + 1; omega⟩
theorem ren_alike {es es' fs fs' : List Ent} {p q : List UInt8} {d : Option (List UInt8)} (ha : Alike es fs) (h : (match d with | none => es' = es | some d => ∃ v, es' = putE ⟨q, v, d⟩ (delE p es)) ∧ (match d with | none => fs' = fs | some d => ∃ dv, fs' = putE ⟨q, dv, d⟩ (delE p fs))) : Alike es' fs' := by
  obtain ⟨h1, h2⟩ := h
  cases d with
  | none => rw [show es' = es from h1, show fs' = fs from h2]; exact ha
  | some d =>
    obtain ⟨v, rfl⟩ := h1
    obtain ⟨dv, rfl⟩ := h2
    exact (ha.del p).put rfl

section
variable {w : World} {FP FR : Nat → Prop} {b bm rb : Nat} {es : List Ent} {s : St} {v : Value} {fs : List Ent} {r : RSt}
theorem StepR.later {w w1 w2 : World} {FP FR : Nat → Prop} {rb b' : Nat} {s : St} (hT : Touch (fun k => FP k ∨ FR k) w w1) (h : StepR w1 FP FR rb s b' w2) : StepR w FP FR rb s b' w2 := by
  obtain ⟨FP', FR', bm', es', s', v', fs', r', h1, h2, h3, h4, h5⟩ := h
  exact ⟨FP', FR', bm', es', s', v', fs', r', h1, h2, hT.trans h3, fun k hk => (h4 k hk).imp id fun e => Nat.le_trans hT.size e, fun k hk => (h5 k hk).imp id fun e => Nat.le_trans hT.size e⟩

set_option maxRecDepth 100000 in
set_option maxHeartbeats 4000000 in
theorem step_1 (h : Both w FP FR b bm rb es s v fs r) (hc : s.calls ≤ 4000000000000000000) (p q c : List UInt8) (A9 : Option Addr) (cap9 : Nat) (k i j : Int) (hv : ∀ W, Touch (fun k => FP k ∨ FR k) w W → Reads W (.slice A9 c.length cap9) c) (hcl : c.length ≤ 140737488355328) :
    Calls Tryz.prog 9 #[.pointer (some ⟨b, 0, none⟩), .pointer (some ⟨rb, 0, none⟩), .agg #[.int .i64 1, str p, str q, .slice A9 c.length cap9, .int .i64 k, .int .i64 i, .int .i64 j]] w (StepPost w FP FR rb s) := by
  obtain ⟨w1, hw1⟩ : ∃ w1, w1 = w.alloc (.cells #[.int .i64 1, str p, str q, .slice A9 c.length cap9, .int .i64 k, .int .i64 i, .int .i64 j] 32) := ⟨_, rfl⟩
  have hbox : w1.heap[w.heap.size]? = some (.cells #[.int .i64 1, str p, str q, .slice A9 c.length cap9, .int .i64 k, .int .i64 i, .int .i64 j] 32 (0, 0)) := by rw [hw1]; exact World.alloc_heap_new w _
  have T1 : Touch (fun k => FP k ∨ FR k) w w1.drew := by rw [hw1]; exact (Touch.alloc _ _ _).drew
  have hd : Both w1.drew FP FR b bm rb es s v fs r := by rw [hw1]; exact (h.below ((Below.refl _ _).alloc (Nat.le_refl _) _)).drew
  have CW := Lib.hid (write_any w1.drew FP b bm es s p c _ hd.prog hd.ok hc (fun W hW => hv W (T1.trans (hW.mono fun _ _ h => .inl h))) hcl hd.len)
  have HD := Lib.hid hd
  have HT1 := Lib.hid T1
  have HW1 := Lib.hid hw1
  have HV := Lib.hid hv
  have HC := Lib.hid hc
  have HNP : Hid (¬ FP w.heap.size ∧ ¬ FR w.heap.size) := Lib.hid ⟨fun e => by have := h.tightP _ e; omega, fun e => by have := h.tightR _ e; omega⟩
  have HBX := Lib.hid hbox
  have hB9 : (Value.slice A9 c.length cap9).oneCell' = true := rfl
  have HREL := Lib.hid (put_rel h.inv h.alike h.rel h.ok p c false)
  obtain ⟨n, hn⟩ : ∃ n, (putP es s p c false).1 = n := ⟨_, rfl⟩
  have HN1 := Lib.hid hn
  have HN2 := Lib.hid (HREL.out.1.trans hn)
  have HSR : Hid (∀ w2 w3 es' v' fs', FsAt w2 (fun k => FP k ∨ w1.drew.heap.size ≤ k) b bm es' (putP es s p c false).2.2 → Touch FP w1.drew w2 → PutEs es p (putP es s p c false).2.1 es' → RefV w3 (fun k => FR k ∨ w2.heap.size ≤ k) rb v' fs' (writesR fs r p c false).2.2 → Touch FR w2 w3 → (match (writesR fs r p c false).2.1 with | none => fs' = fs | some d => ∃ dv, fs' = putE ⟨p, dv, d⟩ fs) → StepR w FP FR rb s b w3) := Lib.hid fun w2 w3 es' v' fs' hF hT hP hR hU hM =>
    StepR.later T1 (StepR.mk hd hF hT hR hU (inv_puts h.inv hP) (pe_alike h.alike hP hM HREL.out.2.1) HREL.out.2.2 (by rw [put_st]; exact count_next _ h.ok hc) (put_len hP h.len))
  clear hn
  clear h hc hv T1 hd hw1 hbox
  go_enter Tryz.func9, Tryz.ntmps9
  go_wp2_with fail
  rw [← HW1.out]
  have k1 : w1.cell? ⟨w.heap.size, 1, none⟩ = some (str p) := cell_of_row _ _ 1 _ _ _ HBX.out
  have k3 : w1.cell? ⟨w.heap.size, 3, none⟩ = some (.slice A9 c.length cap9) := cell_of_row _ _ 3 _ _ _ HBX.out
  go_region_held3 (fun w' => w'.cell? ⟨w.heap.size, 1, none⟩ = some (str p) ∧ w'.cell? ⟨w.heap.size, 3, none⟩ = some (.slice A9 c.length cap9)) (first | go_keep | (refine ⟨?_, ?_⟩ <;> assumption)) (first
    | (go_at_call 30; refine (CW.out).mono ?_; rintro e w2 ⟨es', rfl, hF, hT, hP⟩; rw [HN1.out]; have hbx2 := (hT.block _ (Array.getElem?_eq_some_iff.1 HBX.out).1 HNP.out.1).trans HBX.out; have k1' : w2.cell? ⟨w.heap.size, 1, none⟩ = some (str p) := cell_of_row _ _ 1 _ _ _ hbx2; have k3' : w2.cell? ⟨w.heap.size, 3, none⟩ = some (.slice A9 c.length cap9) := cell_of_row _ _ 3 _ _ _ hbx2; have HB2 := Lib.hid hbx2; have HF := Lib.hid hF; have HT := Lib.hid hT; have HP := Lib.hid hP; clear hF hT hP hbx2)
    | (go_at_call 34; refine (refWrite_any (HD.out.refAfter HT.out) HD.out.rising (HD.out.rok HC.out) p c A9 cap9 (fun W hW => HV.out W ((HT1.out.trans (HT.out.mono fun _ _ h => .inl h)).trans (hW.mono fun _ _ h => .inr h))) hcl).mono ?_; rintro e w3 ⟨v', fs', rfl, hR, hU, hM⟩; rw [HN2.out]; have hbx3 := (hU.block _ (Array.getElem?_eq_some_iff.1 HB2.out).1 HNP.out.2).trans HB2.out; have k1'' : w3.cell? ⟨w.heap.size, 1, none⟩ = some (str p) := cell_of_row _ _ 1 _ _ _ hbx3; have k3'' : w3.cell? ⟨w.heap.size, 3, none⟩ = some (.slice A9 c.length cap9) := cell_of_row _ _ 3 _ _ _ hbx3; have HR := Lib.hid hR; have HU := Lib.hid hU; have HM := Lib.hid hM; clear hR hU hM hbx3))
  all_goals
    go_wp2_with fail
    go_ret2
    exact ⟨b, rfl, HSR.out _ _ _ _ _ HF.out HT.out HP.out HR.out HU.out HM.out⟩

set_option maxRecDepth 100000 in
set_option maxHeartbeats 4000000 in
theorem step_2 (h : Both w FP FR b bm rb es s v fs r) (hc : s.calls ≤ 4000000000000000000) (p q c : List UInt8) (A9 : Option Addr) (cap9 : Nat) (k i j : Int) (hv : ∀ W, Touch (fun k => FP k ∨ FR k) w W → Reads W (.slice A9 c.length cap9) c) (hcl : c.length ≤ 140737488355328) :
    Calls Tryz.prog 9 #[.pointer (some ⟨b, 0, none⟩), .pointer (some ⟨rb, 0, none⟩), .agg #[.int .i64 2, str p, str q, .slice A9 c.length cap9, .int .i64 k, .int .i64 i, .int .i64 j]] w (StepPost w FP FR rb s) := by
  obtain ⟨w1, hw1⟩ : ∃ w1, w1 = w.alloc (.cells #[.int .i64 2, str p, str q, .slice A9 c.length cap9, .int .i64 k, .int .i64 i, .int .i64 j] 32) := ⟨_, rfl⟩
  have hbox : w1.heap[w.heap.size]? = some (.cells #[.int .i64 2, str p, str q, .slice A9 c.length cap9, .int .i64 k, .int .i64 i, .int .i64 j] 32 (0, 0)) := by rw [hw1]; exact World.alloc_heap_new w _
  have T1 : Touch (fun k => FP k ∨ FR k) w w1.drew := by rw [hw1]; exact (Touch.alloc _ _ _).drew
  have hd : Both w1.drew FP FR b bm rb es s v fs r := by rw [hw1]; exact (h.below ((Below.refl _ _).alloc (Nat.le_refl _) _)).drew
  have CW := Lib.hid (append_any w1.drew FP b bm es s p c _ hd.prog hd.ok hc (fun W hW => hv W (T1.trans (hW.mono fun _ _ h => .inl h))) hcl hd.len)
  have HD := Lib.hid hd
  have HT1 := Lib.hid T1
  have HW1 := Lib.hid hw1
  have HV := Lib.hid hv
  have HC := Lib.hid hc
  have HNP : Hid (¬ FP w.heap.size ∧ ¬ FR w.heap.size) := Lib.hid ⟨fun e => by have := h.tightP _ e; omega, fun e => by have := h.tightR _ e; omega⟩
  have HBX := Lib.hid hbox
  have hB9 : (Value.slice A9 c.length cap9).oneCell' = true := rfl
  have HREL := Lib.hid (put_rel h.inv h.alike h.rel h.ok p c true)
  obtain ⟨n, hn⟩ : ∃ n, (putP es s p c true).1 = n := ⟨_, rfl⟩
  have HN1 := Lib.hid hn
  have HN2 := Lib.hid (HREL.out.1.trans hn)
  have HSR : Hid (∀ w2 w3 es' v' fs', FsAt w2 (fun k => FP k ∨ w1.drew.heap.size ≤ k) b bm es' (putP es s p c true).2.2 → Touch FP w1.drew w2 → PutEs es p (putP es s p c true).2.1 es' → RefV w3 (fun k => FR k ∨ w2.heap.size ≤ k) rb v' fs' (writesR fs r p c true).2.2 → Touch FR w2 w3 → (match (writesR fs r p c true).2.1 with | none => fs' = fs | some d => ∃ dv, fs' = putE ⟨p, dv, d⟩ fs) → StepR w FP FR rb s b w3) := Lib.hid fun w2 w3 es' v' fs' hF hT hP hR hU hM =>
    StepR.later T1 (StepR.mk hd hF hT hR hU (inv_puts h.inv hP) (pe_alike h.alike hP hM HREL.out.2.1) HREL.out.2.2 (by rw [put_st]; exact count_next _ h.ok hc) (put_len hP h.len))
  clear hn
  clear h hc hv T1 hd hw1 hbox
  go_enter Tryz.func9, Tryz.ntmps9
  go_wp2_with fail
  rw [← HW1.out]
  have k1 : w1.cell? ⟨w.heap.size, 1, none⟩ = some (str p) := cell_of_row _ _ 1 _ _ _ HBX.out
  have k3 : w1.cell? ⟨w.heap.size, 3, none⟩ = some (.slice A9 c.length cap9) := cell_of_row _ _ 3 _ _ _ HBX.out
  go_region_held3 (fun w' => w'.cell? ⟨w.heap.size, 1, none⟩ = some (str p) ∧ w'.cell? ⟨w.heap.size, 3, none⟩ = some (.slice A9 c.length cap9)) (first | go_keep | (refine ⟨?_, ?_⟩ <;> assumption)) (first
    | (go_at_call 35; refine (CW.out).mono ?_; rintro e w2 ⟨es', rfl, hF, hT, hP⟩; rw [HN1.out]; have hbx2 := (hT.block _ (Array.getElem?_eq_some_iff.1 HBX.out).1 HNP.out.1).trans HBX.out; have k1' : w2.cell? ⟨w.heap.size, 1, none⟩ = some (str p) := cell_of_row _ _ 1 _ _ _ hbx2; have k3' : w2.cell? ⟨w.heap.size, 3, none⟩ = some (.slice A9 c.length cap9) := cell_of_row _ _ 3 _ _ _ hbx2; have HB2 := Lib.hid hbx2; have HF := Lib.hid hF; have HT := Lib.hid hT; have HP := Lib.hid hP; clear hF hT hP hbx2)
    | (go_at_call 36; refine (refAppend_any (HD.out.refAfter HT.out) HD.out.rising (HD.out.rok HC.out) p c A9 cap9 (fun W hW => HV.out W ((HT1.out.trans (HT.out.mono fun _ _ h => .inl h)).trans (hW.mono fun _ _ h => .inr h))) hcl).mono ?_; rintro e w3 ⟨v', fs', rfl, hR, hU, hM⟩; rw [HN2.out]; have hbx3 := (hU.block _ (Array.getElem?_eq_some_iff.1 HB2.out).1 HNP.out.2).trans HB2.out; have k1'' : w3.cell? ⟨w.heap.size, 1, none⟩ = some (str p) := cell_of_row _ _ 1 _ _ _ hbx3; have k3'' : w3.cell? ⟨w.heap.size, 3, none⟩ = some (.slice A9 c.length cap9) := cell_of_row _ _ 3 _ _ _ hbx3; have HR := Lib.hid hR; have HU := Lib.hid hU; have HM := Lib.hid hM; clear hR hU hM hbx3))
  all_goals
    go_wp2_with fail
    go_ret2
    exact ⟨b, rfl, HSR.out _ _ _ _ _ HF.out HT.out HP.out HR.out HU.out HM.out⟩

set_option maxRecDepth 100000 in
set_option maxHeartbeats 4000000 in
theorem step_4 (h : Both w FP FR b bm rb es s v fs r) (hc : s.calls ≤ 4000000000000000000) (p q c : List UInt8) (A9 : Option Addr) (cap9 : Nat) (k i j : Int) :
    Calls Tryz.prog 9 #[.pointer (some ⟨b, 0, none⟩), .pointer (some ⟨rb, 0, none⟩), .agg #[.int .i64 4, str p, str q, .slice A9 c.length cap9, .int .i64 k, .int .i64 i, .int .i64 j]] w (StepPost w FP FR rb s) := by
  obtain ⟨w1, hw1⟩ : ∃ w1, w1 = w.alloc (.cells #[.int .i64 4, str p, str q, .slice A9 c.length cap9, .int .i64 k, .int .i64 i, .int .i64 j] 32) := ⟨_, rfl⟩
  have hbox : w1.heap[w.heap.size]? = some (.cells #[.int .i64 4, str p, str q, .slice A9 c.length cap9, .int .i64 k, .int .i64 i, .int .i64 j] 32 (0, 0)) := by rw [hw1]; exact World.alloc_heap_new w _
  have T1 : Touch (fun k => FP k ∨ FR k) w w1.drew := by rw [hw1]; exact (Touch.alloc _ _ _).drew
  have hd : Both w1.drew FP FR b bm rb es s v fs r := by rw [hw1]; exact (h.below ((Below.refl _ _).alloc (Nat.le_refl _) _)).drew
  have CW := Lib.hid (remove_any w1.drew FP b bm es s p hd.prog hd.ok hc)
  have HD := Lib.hid hd
  have HT1 := Lib.hid T1
  have HW1 := Lib.hid hw1
  have HC := Lib.hid hc
  have HNP : Hid (¬ FP w.heap.size ∧ ¬ FR w.heap.size) := Lib.hid ⟨fun e => by have := h.tightP _ e; omega, fun e => by have := h.tightR _ e; omega⟩
  have HBX := Lib.hid hbox
  have hB9 : (Value.slice A9 c.length cap9).oneCell' = true := rfl
  have HREL := Lib.hid (remove_rel h.inv h.alike h.rel h.ok p)
  obtain ⟨n, hn⟩ : ∃ n, (removeP es s p).1 = n := ⟨_, rfl⟩
  have HN1 := Lib.hid hn
  have HN2 := Lib.hid (HREL.out.1.trans hn)
  have HSR : Hid (∀ w2 w3 v', FsAt w2 FP b bm (removeP es s p).2.1 (removeP es s p).2.2 → Touch FP w1.drew w2 → RefV w3 (fun k => FR k ∨ w2.heap.size ≤ k) rb v' (removeR fs r p).2.1 (removeR fs r p).2.2 → Touch FR w2 w3 → StepR w FP FR rb s b w3) := Lib.hid fun w2 w3 v' hF hT hR hU => StepR.later T1 (StepR.mk hd (hF.more fun _ h => .inl h) hT hR hU (one_inv4 h.inv) HREL.out.2.1 HREL.out.2.2 (by rw [remove_st]; exact start_next _ h.ok hc) (one_len4 h.len))
  clear hn
  clear h hc T1 hd hw1 hbox
  go_enter Tryz.func9, Tryz.ntmps9
  go_wp2_with fail
  rw [← HW1.out]
  have k1 : w1.cell? ⟨w.heap.size, 1, none⟩ = some (str p) := cell_of_row _ _ 1 _ _ _ HBX.out
  go_region_held3 (fun w' => w'.cell? ⟨w.heap.size, 1, none⟩ = some (str p)) (first | go_keep | assumption) (first
    | (go_at_call 39; refine (CW.out).mono ?_; rintro e w2 ⟨rfl, hF, hT⟩; rw [HN1.out]; have hbx2 := (hT.block _ (Array.getElem?_eq_some_iff.1 HBX.out).1 HNP.out.1).trans HBX.out; have k1' : w2.cell? ⟨w.heap.size, 1, none⟩ = some (str p) := cell_of_row _ _ 1 _ _ _ hbx2; have HB2 := Lib.hid hbx2; have HF := Lib.hid hF; have HT := Lib.hid hT; clear hF hT hbx2)
    | (go_at_call 40; refine (refRemove_any (HD.out.refAfter HT.out) HD.out.rising (HD.out.rok HC.out) p).mono ?_; rintro e w3 ⟨v', rfl, hR, hU⟩; rw [HN2.out]; have hbx3 := (hU.block _ (Array.getElem?_eq_some_iff.1 HB2.out).1 (HNP.out.2)).trans HB2.out; have k1'' : w3.cell? ⟨w.heap.size, 1, none⟩ = some (str p) := cell_of_row _ _ 1 _ _ _ hbx3; have HR := Lib.hid hR; have HU := Lib.hid hU; clear hR hU hbx3))
  all_goals
    go_wp2_with fail
    go_ret2
    exact ⟨b, rfl, HSR.out _ _ _ HF.out HT.out HR.out HU.out⟩

set_option maxRecDepth 100000 in
set_option maxHeartbeats 4000000 in
theorem step_3 (h : Both w FP FR b bm rb es s v fs r) (hc : s.calls ≤ 4000000000000000000) (p q c : List UInt8) (A9 : Option Addr) (cap9 : Nat) (k i j : Int) :
    Calls Tryz.prog 9 #[.pointer (some ⟨b, 0, none⟩), .pointer (some ⟨rb, 0, none⟩), .agg #[.int .i64 3, str p, str q, .slice A9 c.length cap9, .int .i64 k, .int .i64 i, .int .i64 j]] w (StepPost w FP FR rb s) := by
  obtain ⟨w1, hw1⟩ : ∃ w1, w1 = w.alloc (.cells #[.int .i64 3, str p, str q, .slice A9 c.length cap9, .int .i64 k, .int .i64 i, .int .i64 j] 32) := ⟨_, rfl⟩
  have hbox : w1.heap[w.heap.size]? = some (.cells #[.int .i64 3, str p, str q, .slice A9 c.length cap9, .int .i64 k, .int .i64 i, .int .i64 j] 32 (0, 0)) := by rw [hw1]; exact World.alloc_heap_new w _
  have T1 : Touch (fun k => FP k ∨ FR k) w w1.drew := by rw [hw1]; exact (Touch.alloc _ _ _).drew
  have hd : Both w1.drew FP FR b bm rb es s v fs r := by rw [hw1]; exact (h.below ((Below.refl _ _).alloc (Nat.le_refl _) _)).drew
  have CW := Lib.hid (rename_any w1.drew FP b bm es s p q hd.prog hd.ok hc (by have := hd.len; omega))
  have HD := Lib.hid hd
  have HT1 := Lib.hid T1
  have HW1 := Lib.hid hw1
  have HC := Lib.hid hc
  have HNP : Hid (¬ FP w.heap.size ∧ ¬ FR w.heap.size) := Lib.hid ⟨fun e => by have := h.tightP _ e; omega, fun e => by have := h.tightR _ e; omega⟩
  have HBX := Lib.hid hbox
  have hB9 : (Value.slice A9 c.length cap9).oneCell' = true := rfl
  have HREL := Lib.hid (rename_rel h.inv h.alike h.rel h.ok p q)
  obtain ⟨n, hn⟩ : ∃ n, (renameP es s p q).1 = n := ⟨_, rfl⟩
  have HN1 := Lib.hid hn
  have HN2 := Lib.hid (HREL.out.1.trans hn)
  have HSR : Hid (∀ w2 w3 v' fs', FsAt w2 FP b bm (renameP es s p q).2.1 (renameP es s p q).2.2 → Touch FP w1.drew w2 → RefV w3 (fun k => FR k ∨ w2.heap.size ≤ k) rb v' fs' (renameR fs r p q).2.2 → Touch FR w2 w3 → (match (renameR fs r p q).2.1 with | none => fs' = fs | some d => ∃ dv, fs' = putE ⟨q, dv, d⟩ (delE p fs)) → StepR w FP FR rb s b w3) := Lib.hid fun w2 w3 v' fs' hF hT hR hU hM => StepR.later T1 (StepR.mk hd (hF.more fun _ h => .inl h) hT hR hU (one_inv3 h.inv) (ren_alike h.alike ⟨HREL.out.2.2, hM⟩) HREL.out.2.1 (by rw [rename_st]; exact start_next _ h.ok hc) (one_len3 h.len))
  clear hn
  clear h hc T1 hd hw1 hbox
  go_enter Tryz.func9, Tryz.ntmps9
  go_wp2_with fail
  rw [← HW1.out]
  have k1 : w1.cell? ⟨w.heap.size, 1, none⟩ = some (str p) := cell_of_row _ _ 1 _ _ _ HBX.out
  have k2 : w1.cell? ⟨w.heap.size, 2, none⟩ = some (str q) := cell_of_row _ _ 2 _ _ _ HBX.out
  go_region_held3 (fun w' => w'.cell? ⟨w.heap.size, 1, none⟩ = some (str p) ∧ w'.cell? ⟨w.heap.size, 2, none⟩ = some (str q)) (first | go_keep | (refine ⟨?_, ?_⟩ <;> assumption)) (first
    | (go_at_call 37; refine (CW.out).mono ?_; rintro e w2 ⟨rfl, hF, hT⟩; rw [HN1.out]; have hbx2 := (hT.block _ (Array.getElem?_eq_some_iff.1 HBX.out).1 HNP.out.1).trans HBX.out; have k1' : w2.cell? ⟨w.heap.size, 1, none⟩ = some (str p) := cell_of_row _ _ 1 _ _ _ hbx2; have k2' : w2.cell? ⟨w.heap.size, 2, none⟩ = some (str q) := cell_of_row _ _ 2 _ _ _ hbx2; have HB2 := Lib.hid hbx2; have HF := Lib.hid hF; have HT := Lib.hid hT; clear hF hT hbx2)
    | (go_at_call 38; refine (refRename_any (HD.out.refAfter HT.out) HD.out.rising (HD.out.rok HC.out) p q).mono ?_; rintro e w3 ⟨v', fs', rfl, hR, hU, hM⟩; rw [HN2.out]; have hbx3 := (hU.block _ (Array.getElem?_eq_some_iff.1 HB2.out).1 (HNP.out.2)).trans HB2.out; have k1'' : w3.cell? ⟨w.heap.size, 1, none⟩ = some (str p) := cell_of_row _ _ 1 _ _ _ hbx3; have k2'' : w3.cell? ⟨w.heap.size, 2, none⟩ = some (str q) := cell_of_row _ _ 2 _ _ _ hbx3; have HR := Lib.hid hR; have HU := Lib.hid hU; have HM := Lib.hid hM; clear hR hU hM hbx3))
  all_goals
    go_wp2_with fail
    go_ret2
    exact ⟨b, rfl, HSR.out _ _ _ _ HF.out HT.out HR.out HU.out HM.out⟩

set_option maxRecDepth 100000 in
set_option maxHeartbeats 4000000 in
theorem step_6 (h : Both w FP FR b bm rb es s v fs r) (hc : s.calls ≤ 4000000000000000000) (p q c : List UInt8) (A9 : Option Addr) (cap9 : Nat) (k i j : Int) (hkj : k ≤ 9223372036854775807 ∧ j ≤ 9223372036854775807) :
    Calls Tryz.prog 9 #[.pointer (some ⟨b, 0, none⟩), .pointer (some ⟨rb, 0, none⟩), .agg #[.int .i64 6, str p, str q, .slice A9 c.length cap9, .int .i64 k, .int .i64 i, .int .i64 j]] w (StepPost w FP FR rb s) := by
  obtain ⟨w1, hw1⟩ : ∃ w1, w1 = w.alloc (.cells #[.int .i64 6, str p, str q, .slice A9 c.length cap9, .int .i64 k, .int .i64 i, .int .i64 j] 32) := ⟨_, rfl⟩
  have hbox : w1.heap[w.heap.size]? = some (.cells #[.int .i64 6, str p, str q, .slice A9 c.length cap9, .int .i64 k, .int .i64 i, .int .i64 j] 32 (0, 0)) := by rw [hw1]; exact World.alloc_heap_new w _
  have T1 : Touch (fun k => FP k ∨ FR k) w w1.drew := by rw [hw1]; exact (Touch.alloc _ _ _).drew
  have hd : Both w1.drew FP FR b bm rb es s v fs r := by rw [hw1]; exact (h.below ((Below.refl _ _).alloc (Nat.le_refl _) _)).drew
  have CW := Lib.hid (setFault_any w1.drew FP b bm es s k i j hd.prog)
  have HD := Lib.hid hd
  have HT1 := Lib.hid T1
  have HW1 := Lib.hid hw1
  have HC := Lib.hid hc
  have HNP : Hid (¬ FP w.heap.size ∧ ¬ FR w.heap.size) := Lib.hid ⟨fun e => by have := h.tightP _ e; omega, fun e => by have := h.tightR _ e; omega⟩
  have HBX := Lib.hid hbox
  have hB9 : (Value.slice A9 c.length cap9).oneCell' = true := rfl
  have HREL := Lib.hid (setR_rel h.rel k i j)
  obtain ⟨n, hn⟩ : ∃ n, (setP s k i j).1 = n := ⟨_, rfl⟩
  have HN1 := Lib.hid hn
  have HN2 := Lib.hid (HREL.out.1.trans hn)
  have HSR : Hid (∀ w2 w3, FsAt w2 FP b bm es (setP s k i j).2 → Touch FP w1.drew w2 → RefV w3 FR rb v fs (setR r k i j).2 → Touch (fun k => k = rb) w2 w3 → StepR w FP FR rb s b w3) := Lib.hid fun w2 w3 hF hT hR hU => StepR.later T1 (StepR.mk hd (hF.more fun _ h => .inl h) hT (hR.more fun _ h => .inl h) (rb_own h.ref.own hU) h.inv h.alike HREL.out.2 (set_next h.ok hkj) h.len)
  clear hn
  have hkj1 := hkj.1
  clear h hc T1 hd hw1 hbox
  go_enter Tryz.func9, Tryz.ntmps9
  go_wp2_with fail
  rw [← HW1.out]
  have k4 : w1.cell? ⟨w.heap.size, 4, none⟩ = some (.int .i64 k) := cell_of_row _ _ 4 _ _ _ HBX.out
  have k5 : w1.cell? ⟨w.heap.size, 5, none⟩ = some (.int .i64 i) := cell_of_row _ _ 5 _ _ _ HBX.out
  have k6 : w1.cell? ⟨w.heap.size, 6, none⟩ = some (.int .i64 j) := cell_of_row _ _ 6 _ _ _ HBX.out
  go_region_held3 (fun w' => w'.cell? ⟨w.heap.size, 4, none⟩ = some (.int .i64 k) ∧ w'.cell? ⟨w.heap.size, 5, none⟩ = some (.int .i64 i) ∧ w'.cell? ⟨w.heap.size, 6, none⟩ = some (.int .i64 j)) (first | go_keep | (refine ⟨?_, ?_, ?_⟩ <;> assumption)) (first
    | (go_at_call 43; refine (CW.out).mono ?_; rintro e w2 ⟨rfl, hF, hT⟩; rw [HN1.out]; have hbx2 := (hT.block _ (Array.getElem?_eq_some_iff.1 HBX.out).1 HNP.out.1).trans HBX.out; have k4' : w2.cell? ⟨w.heap.size, 4, none⟩ = some (.int .i64 k) := cell_of_row _ _ 4 _ _ _ hbx2; have k5' : w2.cell? ⟨w.heap.size, 5, none⟩ = some (.int .i64 i) := cell_of_row _ _ 5 _ _ _ hbx2; have k6' : w2.cell? ⟨w.heap.size, 6, none⟩ = some (.int .i64 j) := cell_of_row _ _ 6 _ _ _ hbx2; have HB2 := Lib.hid hbx2; have HF := Lib.hid hF; have HT := Lib.hid hT; clear hF hT hbx2)
    | (go_at_call 44; refine (refSet_any (HD.out.refAfter HT.out) k i j).mono ?_; rintro e w3 ⟨rfl, hR, hU⟩; rw [HN2.out]; have hbx3 := (hU.block _ (Array.getElem?_eq_some_iff.1 HB2.out).1 (fun e => HNP.out.2 (by rw [e]; exact HD.out.ref.own))).trans HB2.out; have k4'' : w3.cell? ⟨w.heap.size, 4, none⟩ = some (.int .i64 k) := cell_of_row _ _ 4 _ _ _ hbx3; have k5'' : w3.cell? ⟨w.heap.size, 5, none⟩ = some (.int .i64 i) := cell_of_row _ _ 5 _ _ _ hbx3; have k6'' : w3.cell? ⟨w.heap.size, 6, none⟩ = some (.int .i64 j) := cell_of_row _ _ 6 _ _ _ hbx3; have HR := Lib.hid hR; have HU := Lib.hid hU; clear hR hU hbx3))
  all_goals
    go_wp2_with fail
    go_ret2
    exact ⟨b, rfl, HSR.out _ _ HF.out HT.out HR.out HU.out⟩

end

end Go.Proofs.YthpkfgjjaieikaaGreatDoor
