/-
  What the document's Write and Append return and change. Nothing is assumed.
-/
import Derived.Test.YthpkfgjjaieikaaGreatDoorFsRefF
namespace Go.Proofs.YthpkfgjjaieikaaGreatDoor
open Go.RowKit Go.Shelf Go.Lib Go.Maps

section
variable {w : World} {FR : Nat → Prop} {rb : Nat} {v : Value} {fs : List Ent} {r : RSt}

set_option maxRecDepth 100000 in
set_option maxHeartbeats 4000000 in
theorem wr_st_1any (h : RefV w FR rb v fs r) (hrise : Rising fs) (ho : ROk r) {p c : List UInt8} {A9 : Option Addr} {cap9 : Nat} (hv : ∀ W, Touch FR w W → Reads W (.slice A9 c.length cap9) c) (hcl : c.length ≤ 140737488355328) (hl : looksR r [p] = 0) {k : Int} {r1 : RSt} (hcr : callR r = (k, r1)) {x : Ent} (hx : findE fs p = some x) (hk : k = 1) {f : Int} :
    Calls Tryz.prog 101 #[.pointer (some ⟨rb, 0, none⟩), str p, .slice A9 c.length cap9, .bool true] w (WrRPost w FR rb fs p (WR r c f x.data k r1)) := by
  have CL := refLooks1_any h p
  rw [hl] at CL
  obtain ⟨w1, hw1⟩ : ∃ w1, w1 = w.alloc (.cells #[str p] 9) := ⟨_, rfl⟩
  have h1 : RefV w1 FR rb v fs r := by rw [hw1]; exact h.alloc _
  have T1 : Touch (fun k => k = rb) w w1 := by rw [hw1]; exact Touch.alloc _ _ _
  rw [← hw1] at CL
  have CC := refCall_any h1 ho
  rw [hcr] at CC
  have hgp : goodP p = true := by have := (looks_good hl).2; simpa using this
  have CL := Lib.hid CL
  have CC := Lib.hid CC
  have HT1 := Lib.hid T1
  have HW1 := Lib.hid hw1
  have HOWN := Lib.hid h.own
  have HRISE := Lib.hid hrise
  have HV := Lib.hid hv
  have HPL := Lib.hid (good_short' hgp)
  have HPG := Lib.hid (goodP_len hgp)
  have hn := h.short
  have hi : findR fs p = (idxE fs p : Int) := by
    unfold findR
    rw [if_pos (by rw [hx]; rfl)]
  obtain ⟨hlt, hxi⟩ := idx_some hx
  have hxi' : fs[idxE fs p]? = some x := by rw [← hxi]; exact List.getElem?_eq_getElem hlt
  have CFI : Hid (∀ (W : World), RefV W FR rb v fs r1 → Calls Tryz.prog 100 #[.pointer (some ⟨rb, 0, none⟩), str p] W fun e w' => e = .returned (.int .i64 (idxE fs p : Int)) ∧ W = w') := Lib.hid fun W hW => by rw [← hi]; exact refFind_any hW p
  generalize idxE fs p = i at CFI hlt hxi'
  have hmem := List.mem_of_getElem? hxi'
  have hsm := (h.small x hmem).2
  obtain ⟨A5, cap5, hx5, _⟩ := own_form (h.datas x hmem).1
  have hov : x.val.oneCell' = true := data_one h x hmem
  have HMEM := Lib.hid hmem
  have HXI := Lib.hid hxi'
  have HX5 := Lib.hid hx5
  have HXX := Lib.hid hx
  have i0 : (0 : Int) ≤ (i : Int) := by omega
  have i1 : (i : Int) < (fs.length : Int) := by omega
  clear hi hxi hxi' hmem hx5 hx
  have CFR : Hid (∀ (W : World), RefV W FR rb v fs r1 → Calls Tryz.prog 104 #[.pointer (some ⟨rb, 0, none⟩), str p] W fun e w' => e = .returned (.int .i64 (freeR fs p)) ∧ W = w') := Lib.hid fun W hW => refFree_any hW p HPL.out
  generalize freeR fs p = fr at CFR
  subst hk
  have HWR := Lib.hid (show WR r c f x.data 1 r1 = (20, none, r1) from rfl)
  have hsm0 : (0 : Int) ≤ (x.data.length : Int) := by omega
  clear h hrise hv h1 T1 hw1 hcr hl hgp
  have HO := Lib.hid ho
  clear ho
  go_enter Tryz.func101, Tryz.ntmps101
  go_wp2_with (first
    | (go_at_call 96; rw [← HW1.out]; refine (CL.out).mono ?_; rintro e w' ⟨rfl, rfl⟩)
    | (go_at_call 97; refine (CC.out).mono ?_; rintro e w2 ⟨rfl, hF, hT'⟩; have c0 := hF.cell0; have c3 := hF.cell3; obtain ⟨A, cap, hvv, hcap, _, hat⟩ := hF.form; subst hvv; obtain ⟨g, hAg, hg, _, cd, _⟩ := hat i x HXI.out; subst hAg; rw [HX5.out] at cd; clear hat; have HF2 := Lib.hid hF; have HT2 := Lib.hid (HT1.out.trans hT'); clear hF hT')
    | (go_at_call 104; refine (CFR.out _ HF2.out).mono ?_; rintro e w' ⟨rfl, rfl⟩)
    | (go_at_call 100; refine (CFI.out _ HF2.out).mono ?_; rintro e w' ⟨rfl, rfl⟩))
  all_goals
    go_ret
    rw [HWR.out]
    exact ⟨_, _, rfl, HF2.out.more fun j hj => .inl hj, rb_own HOWN.out HT2.out, rfl⟩

set_option maxRecDepth 100000 in
set_option maxHeartbeats 4000000 in
theorem wr_st_0dir (h : RefV w FR rb v fs r) (hrise : Rising fs) (ho : ROk r) {p c : List UInt8} {A9 : Option Addr} {cap9 : Nat} (hv : ∀ W, Touch FR w W → Reads W (.slice A9 c.length cap9) c) (hcl : c.length ≤ 140737488355328) (hl : looksR r [p] = 0) {k : Int} {r1 : RSt} (hcr : callR r = (k, r1)) {x : Ent} (hx : findE fs p = some x) (hk : k = 0) (hfr : freeR fs p = 24) :
    Calls Tryz.prog 101 #[.pointer (some ⟨rb, 0, none⟩), str p, .slice A9 c.length cap9, .bool true] w (WrRPost w FR rb fs p (WR r c 24 x.data k r1)) := by
  have CL := refLooks1_any h p
  rw [hl] at CL
  obtain ⟨w1, hw1⟩ : ∃ w1, w1 = w.alloc (.cells #[str p] 9) := ⟨_, rfl⟩
  have h1 : RefV w1 FR rb v fs r := by rw [hw1]; exact h.alloc _
  have T1 : Touch (fun k => k = rb) w w1 := by rw [hw1]; exact Touch.alloc _ _ _
  rw [← hw1] at CL
  have CC := refCall_any h1 ho
  rw [hcr] at CC
  have hgp : goodP p = true := by have := (looks_good hl).2; simpa using this
  have CL := Lib.hid CL
  have CC := Lib.hid CC
  have HT1 := Lib.hid T1
  have HW1 := Lib.hid hw1
  have HOWN := Lib.hid h.own
  have HRISE := Lib.hid hrise
  have HV := Lib.hid hv
  have HPL := Lib.hid (good_short' hgp)
  have HPG := Lib.hid (goodP_len hgp)
  have hn := h.short
  have hi : findR fs p = (idxE fs p : Int) := by
    unfold findR
    rw [if_pos (by rw [hx]; rfl)]
  obtain ⟨hlt, hxi⟩ := idx_some hx
  have hxi' : fs[idxE fs p]? = some x := by rw [← hxi]; exact List.getElem?_eq_getElem hlt
  have CFI : Hid (∀ (W : World), RefV W FR rb v fs r1 → Calls Tryz.prog 100 #[.pointer (some ⟨rb, 0, none⟩), str p] W fun e w' => e = .returned (.int .i64 (idxE fs p : Int)) ∧ W = w') := Lib.hid fun W hW => by rw [← hi]; exact refFind_any hW p
  generalize idxE fs p = i at CFI hlt hxi'
  have hmem := List.mem_of_getElem? hxi'
  have hsm := (h.small x hmem).2
  obtain ⟨A5, cap5, hx5, _⟩ := own_form (h.datas x hmem).1
  have hov : x.val.oneCell' = true := data_one h x hmem
  have HMEM := Lib.hid hmem
  have HXI := Lib.hid hxi'
  have HX5 := Lib.hid hx5
  have HXX := Lib.hid hx
  have i0 : (0 : Int) ≤ (i : Int) := by omega
  have i1 : (i : Int) < (fs.length : Int) := by omega
  clear hi hxi hxi' hmem hx5 hx
  have CFR : Hid (∀ (W : World), RefV W FR rb v fs r1 → Calls Tryz.prog 104 #[.pointer (some ⟨rb, 0, none⟩), str p] W fun e w' => e = .returned (.int .i64 24) ∧ W = w') := Lib.hid fun W hW => by have := refFree_any hW p HPL.out; rwa [hfr] at this
  clear hfr
  subst hk
  have HWR := Lib.hid (show WR r c 24 x.data 0 r1 = (24, none, r1) by unfold WR; simp)
  have hsm0 : (0 : Int) ≤ (x.data.length : Int) := by omega
  clear h hrise hv h1 T1 hw1 hcr hl hgp
  have HO := Lib.hid ho
  clear ho
  go_enter Tryz.func101, Tryz.ntmps101
  go_wp2_with (first
    | (go_at_call 96; rw [← HW1.out]; refine (CL.out).mono ?_; rintro e w' ⟨rfl, rfl⟩)
    | (go_at_call 97; refine (CC.out).mono ?_; rintro e w2 ⟨rfl, hF, hT'⟩; have c0 := hF.cell0; have c3 := hF.cell3; obtain ⟨A, cap, hvv, hcap, _, hat⟩ := hF.form; subst hvv; obtain ⟨g, hAg, hg, _, cd, _⟩ := hat i x HXI.out; subst hAg; rw [HX5.out] at cd; clear hat; have HF2 := Lib.hid hF; have HT2 := Lib.hid (HT1.out.trans hT'); clear hF hT')
    | (go_at_call 104; refine (CFR.out _ HF2.out).mono ?_; rintro e w' ⟨rfl, rfl⟩)
    | (go_at_call 100; refine (CFI.out _ HF2.out).mono ?_; rintro e w' ⟨rfl, rfl⟩))
  all_goals
    go_ret
    rw [HWR.out]
    exact ⟨_, _, rfl, HF2.out.more fun j hj => .inl hj, rb_own HOWN.out HT2.out, rfl⟩

set_option maxRecDepth 100000 in
set_option maxHeartbeats 4000000 in
theorem wr_st_0big (h : RefV w FR rb v fs r) (hrise : Rising fs) (ho : ROk r) {p c : List UInt8} {A9 : Option Addr} {cap9 : Nat} (hv : ∀ W, Touch FR w W → Reads W (.slice A9 c.length cap9) c) (hcl : c.length ≤ 140737488355328) (hl : looksR r [p] = 0) {k : Int} {r1 : RSt} (hcr : callR r = (k, r1)) {x : Ent} (hx : findE fs p = some x) (hk : k = 0) (hfr : freeR fs p = 0) (hbig : (1048576 : Int) - (x.data.length : Int) < (c.length : Int)) :
    Calls Tryz.prog 101 #[.pointer (some ⟨rb, 0, none⟩), str p, .slice A9 c.length cap9, .bool true] w (WrRPost w FR rb fs p (WR r c 3 x.data k r1)) := by
  have CL := refLooks1_any h p
  rw [hl] at CL
  obtain ⟨w1, hw1⟩ : ∃ w1, w1 = w.alloc (.cells #[str p] 9) := ⟨_, rfl⟩
  have h1 : RefV w1 FR rb v fs r := by rw [hw1]; exact h.alloc _
  have T1 : Touch (fun k => k = rb) w w1 := by rw [hw1]; exact Touch.alloc _ _ _
  rw [← hw1] at CL
  have CC := refCall_any h1 ho
  rw [hcr] at CC
  have hgp : goodP p = true := by have := (looks_good hl).2; simpa using this
  have CL := Lib.hid CL
  have CC := Lib.hid CC
  have HT1 := Lib.hid T1
  have HW1 := Lib.hid hw1
  have HOWN := Lib.hid h.own
  have HRISE := Lib.hid hrise
  have HV := Lib.hid hv
  have HPL := Lib.hid (good_short' hgp)
  have HPG := Lib.hid (goodP_len hgp)
  have hn := h.short
  have hi : findR fs p = (idxE fs p : Int) := by
    unfold findR
    rw [if_pos (by rw [hx]; rfl)]
  obtain ⟨hlt, hxi⟩ := idx_some hx
  have hxi' : fs[idxE fs p]? = some x := by rw [← hxi]; exact List.getElem?_eq_getElem hlt
  have CFI : Hid (∀ (W : World), RefV W FR rb v fs r1 → Calls Tryz.prog 100 #[.pointer (some ⟨rb, 0, none⟩), str p] W fun e w' => e = .returned (.int .i64 (idxE fs p : Int)) ∧ W = w') := Lib.hid fun W hW => by rw [← hi]; exact refFind_any hW p
  generalize idxE fs p = i at CFI hlt hxi'
  have hmem := List.mem_of_getElem? hxi'
  have hsm := (h.small x hmem).2
  obtain ⟨A5, cap5, hx5, _⟩ := own_form (h.datas x hmem).1
  have hov : x.val.oneCell' = true := data_one h x hmem
  have HMEM := Lib.hid hmem
  have HXI := Lib.hid hxi'
  have HX5 := Lib.hid hx5
  have HXX := Lib.hid hx
  have i0 : (0 : Int) ≤ (i : Int) := by omega
  have i1 : (i : Int) < (fs.length : Int) := by omega
  clear hi hxi hxi' hmem hx5 hx
  have CFR : Hid (∀ (W : World), RefV W FR rb v fs r1 → Calls Tryz.prog 104 #[.pointer (some ⟨rb, 0, none⟩), str p] W fun e w' => e = .returned (.int .i64 0) ∧ W = w') := Lib.hid fun W hW => by have := refFree_any hW p HPL.out; rwa [hfr] at this
  clear hfr
  subst hk
  have HWR := Lib.hid (show WR r c 3 x.data 0 r1 = (3, none, r1) by unfold WR; simp)
  have hsm0 : (0 : Int) ≤ (x.data.length : Int) := by omega
  clear h hrise hv h1 T1 hw1 hcr hl hgp
  have HO := Lib.hid ho
  clear ho
  go_enter Tryz.func101, Tryz.ntmps101
  go_wp2_with (first
    | (go_at_call 96; rw [← HW1.out]; refine (CL.out).mono ?_; rintro e w' ⟨rfl, rfl⟩)
    | (go_at_call 97; refine (CC.out).mono ?_; rintro e w2 ⟨rfl, hF, hT'⟩; have c0 := hF.cell0; have c3 := hF.cell3; obtain ⟨A, cap, hvv, hcap, _, hat⟩ := hF.form; subst hvv; obtain ⟨g, hAg, hg, _, cd, _⟩ := hat i x HXI.out; subst hAg; rw [HX5.out] at cd; clear hat; have HF2 := Lib.hid hF; have HT2 := Lib.hid (HT1.out.trans hT'); clear hF hT')
    | (go_at_call 104; refine (CFR.out _ HF2.out).mono ?_; rintro e w' ⟨rfl, rfl⟩)
    | (go_at_call 100; refine (CFI.out _ HF2.out).mono ?_; rintro e w' ⟨rfl, rfl⟩))
  all_goals
    go_ret
    rw [HWR.out]
    exact ⟨_, _, rfl, HF2.out.more fun j hj => .inl hj, rb_own HOWN.out HT2.out, rfl⟩

set_option maxRecDepth 100000 in
set_option maxHeartbeats 4000000 in
theorem wr_st_0ok (h : RefV w FR rb v fs r) (hrise : Rising fs) (ho : ROk r) {p c : List UInt8} {A9 : Option Addr} {cap9 : Nat} (hv : ∀ W, Touch FR w W → Reads W (.slice A9 c.length cap9) c) (hcl : c.length ≤ 140737488355328) (hl : looksR r [p] = 0) {k : Int} {r1 : RSt} (hcr : callR r = (k, r1)) {x : Ent} (hx : findE fs p = some x) (hk : k = 0) (hfr : freeR fs p = 0) (hbig : ¬ ((1048576 : Int) - (x.data.length : Int) < (c.length : Int))) :
    Calls Tryz.prog 101 #[.pointer (some ⟨rb, 0, none⟩), str p, .slice A9 c.length cap9, .bool true] w (WrRPost w FR rb fs p (WR r c 0 x.data k r1)) := by
  have CL := refLooks1_any h p
  rw [hl] at CL
  obtain ⟨w1, hw1⟩ : ∃ w1, w1 = w.alloc (.cells #[str p] 9) := ⟨_, rfl⟩
  have h1 : RefV w1 FR rb v fs r := by rw [hw1]; exact h.alloc _
  have T1 : Touch (fun k => k = rb) w w1 := by rw [hw1]; exact Touch.alloc _ _ _
  rw [← hw1] at CL
  have CC := refCall_any h1 ho
  rw [hcr] at CC
  have hgp : goodP p = true := by have := (looks_good hl).2; simpa using this
  have CL := Lib.hid CL
  have CC := Lib.hid CC
  have HT1 := Lib.hid T1
  have HW1 := Lib.hid hw1
  have HOWN := Lib.hid h.own
  have HRISE := Lib.hid hrise
  have HV := Lib.hid hv
  have HPL := Lib.hid (good_short' hgp)
  have HPG := Lib.hid (goodP_len hgp)
  have hn := h.short
  have hi : findR fs p = (idxE fs p : Int) := by
    unfold findR
    rw [if_pos (by rw [hx]; rfl)]
  obtain ⟨hlt, hxi⟩ := idx_some hx
  have hxi' : fs[idxE fs p]? = some x := by rw [← hxi]; exact List.getElem?_eq_getElem hlt
  have CFI : Hid (∀ (W : World), RefV W FR rb v fs r1 → Calls Tryz.prog 100 #[.pointer (some ⟨rb, 0, none⟩), str p] W fun e w' => e = .returned (.int .i64 (idxE fs p : Int)) ∧ W = w') := Lib.hid fun W hW => by rw [← hi]; exact refFind_any hW p
  generalize idxE fs p = i at CFI hlt hxi'
  have hmem := List.mem_of_getElem? hxi'
  have hsm := (h.small x hmem).2
  obtain ⟨A5, cap5, hx5, _⟩ := own_form (h.datas x hmem).1
  have hov : x.val.oneCell' = true := data_one h x hmem
  have HMEM := Lib.hid hmem
  have HXI := Lib.hid hxi'
  have HX5 := Lib.hid hx5
  have HXX := Lib.hid hx
  have i0 : (0 : Int) ≤ (i : Int) := by omega
  have i1 : (i : Int) < (fs.length : Int) := by omega
  clear hi hxi hxi' hmem hx5 hx
  have CFR : Hid (∀ (W : World), RefV W FR rb v fs r1 → Calls Tryz.prog 104 #[.pointer (some ⟨rb, 0, none⟩), str p] W fun e w' => e = .returned (.int .i64 0) ∧ W = w') := Lib.hid fun W hW => by have := refFree_any hW p HPL.out; rwa [hfr] at this
  clear hfr
  subst hk
  have HWR := Lib.hid (show WR r c 0 x.data 0 r1 = (0, some (x.data ++ c), r1) by unfold WR; simp [cutR])
  have hsm0 : (0 : Int) ≤ (x.data.length : Int) := by omega
  clear h hrise hv h1 T1 hw1 hcr hl hgp
  have HO := Lib.hid ho
  clear ho
  have hT := Tryz.underlying30
  have tok1 : True := trivial
  go_enter Tryz.func101, Tryz.ntmps101
  go_wp2_with (first
    | (go_at_call 96; rw [← HW1.out]; refine (CL.out).mono ?_; rintro e w' ⟨rfl, rfl⟩)
    | (go_at_call 97; refine (CC.out).mono ?_; rintro e w2 ⟨rfl, hF, hT'⟩; have c0 := hF.cell0; have c3 := hF.cell3; obtain ⟨A, cap, hvv, hcap, _, hat⟩ := hF.form; subst hvv; obtain ⟨g, hAg, hg, _, cd, _⟩ := hat i x HXI.out; subst hAg; rw [HX5.out] at cd; clear hat; have hr2 := HV.out w2 ((rb_own HOWN.out HT1.out).trans (rb_own HOWN.out hT')); have hrx := Reads.of_row (base := 0) (hF.datas x HMEM.out).1; rw [HX5.out] at hrx; obtain ⟨va, wa, runa, owna, ga, _⟩ := append_bytes w2 w2.heap.size (.slice none 0 0) [] (World.ownsRow_nil _ _ _ _) x.data hrx (by simp only [List.length_nil, Nat.zero_add]; omega) (Nat.le_refl _) 30; rw [List.nil_append] at owna; have Ba : Below w2.heap.size w2 wa := grown_below ga (Nat.le_refl _) (fun k e => by cases e); obtain ⟨vb, wb, runb, ownb, gb, _⟩ := append_bytes wa w2.heap.size va x.data owna (c) (hr2.below Ba) (by omega) Ba.size 30; have Bb : Below w2.heap.size w2 wb := Ba.trans (grown_below gb Ba.size fun k e => (owna.lt k e).1); obtain ⟨Xa, ca, hva, _⟩ := own_form owna; obtain ⟨Xb, cb, hvb, _⟩ := own_form ownb; obtain ⟨N, hN⟩ : ∃ N, N = (x.data ++ c).length := ⟨_, rfl⟩; rw [← hN] at ownb hvb; have HN := Lib.hid hN; clear hN; subst hva hvb; have HFB := Lib.hid (hF.below Bb); have HOB := Lib.hid ownb; have HTB := Lib.hid (HT1.out.trans (hT'.trans (Touch.of_below Bb))); have HSB := Lib.hid (Nat.le_trans HT1.out.size (Nat.le_trans hT'.size Bb.size)); clear owna ga Ba ownb gb Bb hr2 hrx; have HF2 := Lib.hid hF; have HT2 := Lib.hid (HT1.out.trans hT'); clear hF hT')
    | (go_at_call 104; refine (CFR.out _ HF2.out).mono ?_; rintro e w' ⟨rfl, rfl⟩)
    | (go_at_call 100; refine (CFI.out _ HF2.out).mono ?_; rintro e w' ⟨rfl, rfl⟩)
    | (at_builtin; have tk := tok1; clear tk; refine wpList_append_run runa (by rfl) _ _ (by rfl) (by rfl) (by rfl) (by rfl) ?_; clear tok1)
    | (at_builtin; refine wpList_append_run runb (by rfl) _ _ (by rfl) (by rfl) (by rfl) (by rfl) ?_)
    | (go_at_call 105; refine (refPut_any HFB.out HRISE.out (c := x.data ++ c) (row_touch HFB.out HN.out HOB.out) (by rw [List.length_append]; omega) (fun e => by rw [HXX.out] at e; cases e) HPG.out).mono ?_; rintro e w4 ⟨v4, dv, rfl, hF, hT'⟩; have HF4 := Lib.hid hF; have HT4 := Lib.hid hT'; clear hF hT'))
  all_goals
    go_ret
    rw [HWR.out]
    have hsb := HSB.out
    refine ⟨_, _, rfl, HF4.out.more fun j hj => hj.imp id fun hj => Nat.le_trans hsb hj, (rb_own HOWN.out HTB.out).trans HT4.out, dv, ?_⟩
    rfl

set_option maxRecDepth 100000 in
set_option maxHeartbeats 4000000 in
theorem wr_st_ndir (h : RefV w FR rb v fs r) (hrise : Rising fs) (ho : ROk r) {p c : List UInt8} {A9 : Option Addr} {cap9 : Nat} (hv : ∀ W, Touch FR w W → Reads W (.slice A9 c.length cap9) c) (hcl : c.length ≤ 140737488355328) (hl : looksR r [p] = 0) {k : Int} {r1 : RSt} (hcr : callR r = (k, r1)) {x : Ent} (hx : findE fs p = some x) (hk0 : k ≠ 0) (hk1 : k ≠ 1) (hfr : freeR fs p = 24) :
    Calls Tryz.prog 101 #[.pointer (some ⟨rb, 0, none⟩), str p, .slice A9 c.length cap9, .bool true] w (WrRPost w FR rb fs p (WR r c 24 x.data k r1)) := by
  have CL := refLooks1_any h p
  rw [hl] at CL
  obtain ⟨w1, hw1⟩ : ∃ w1, w1 = w.alloc (.cells #[str p] 9) := ⟨_, rfl⟩
  have h1 : RefV w1 FR rb v fs r := by rw [hw1]; exact h.alloc _
  have T1 : Touch (fun k => k = rb) w w1 := by rw [hw1]; exact Touch.alloc _ _ _
  rw [← hw1] at CL
  have CC := refCall_any h1 ho
  rw [hcr] at CC
  have hgp : goodP p = true := by have := (looks_good hl).2; simpa using this
  have CL := Lib.hid CL
  have CC := Lib.hid CC
  have HT1 := Lib.hid T1
  have HW1 := Lib.hid hw1
  have HOWN := Lib.hid h.own
  have HRISE := Lib.hid hrise
  have HV := Lib.hid hv
  have HPL := Lib.hid (good_short' hgp)
  have HPG := Lib.hid (goodP_len hgp)
  have hn := h.short
  have hi : findR fs p = (idxE fs p : Int) := by
    unfold findR
    rw [if_pos (by rw [hx]; rfl)]
  obtain ⟨hlt, hxi⟩ := idx_some hx
  have hxi' : fs[idxE fs p]? = some x := by rw [← hxi]; exact List.getElem?_eq_getElem hlt
  have CFI : Hid (∀ (W : World), RefV W FR rb v fs r1 → Calls Tryz.prog 100 #[.pointer (some ⟨rb, 0, none⟩), str p] W fun e w' => e = .returned (.int .i64 (idxE fs p : Int)) ∧ W = w') := Lib.hid fun W hW => by rw [← hi]; exact refFind_any hW p
  generalize idxE fs p = i at CFI hlt hxi'
  have hmem := List.mem_of_getElem? hxi'
  have hsm := (h.small x hmem).2
  obtain ⟨A5, cap5, hx5, _⟩ := own_form (h.datas x hmem).1
  have hov : x.val.oneCell' = true := data_one h x hmem
  have HMEM := Lib.hid hmem
  have HXI := Lib.hid hxi'
  have HX5 := Lib.hid hx5
  have HXX := Lib.hid hx
  have i0 : (0 : Int) ≤ (i : Int) := by omega
  have i1 : (i : Int) < (fs.length : Int) := by omega
  clear hi hxi hxi' hmem hx5 hx
  have CFR : Hid (∀ (W : World), RefV W FR rb v fs r1 → Calls Tryz.prog 104 #[.pointer (some ⟨rb, 0, none⟩), str p] W fun e w' => e = .returned (.int .i64 24) ∧ W = w') := Lib.hid fun W hW => by have := refFree_any hW p HPL.out; rwa [hfr] at this
  clear hfr
  have q0 : (k == 0) = false := by simpa using hk0
  have q0' : (k != 0) = true := by simpa using hk0
  have q1 : (k == 1) = false := by simpa using hk1
  have HWR := Lib.hid (show WR r c 24 x.data k r1 = ((goesR k r1).1, none, (goesR k r1).2) by unfold WR; rw [if_neg hk1]; simp [hk0])
  clear hk0 hk1
  have hsm0 : (0 : Int) ≤ (x.data.length : Int) := by omega
  clear h hrise hv h1 T1 hw1 hcr hl hgp
  have HO := Lib.hid ho
  clear ho
  go_enter Tryz.func101, Tryz.ntmps101
  go_wp2_with (first
    | (go_at_call 96; rw [← HW1.out]; refine (CL.out).mono ?_; rintro e w' ⟨rfl, rfl⟩)
    | (go_at_call 97; refine (CC.out).mono ?_; rintro e w2 ⟨rfl, hF, hT'⟩; have c0 := hF.cell0; have c3 := hF.cell3; obtain ⟨A, cap, hvv, hcap, _, hat⟩ := hF.form; subst hvv; obtain ⟨g, hAg, hg, _, cd, _⟩ := hat i x HXI.out; subst hAg; rw [HX5.out] at cd; clear hat; have HF2 := Lib.hid hF; have HT2 := Lib.hid (HT1.out.trans hT'); clear hF hT')
    | (go_at_call 104; refine (CFR.out _ HF2.out).mono ?_; rintro e w' ⟨rfl, rfl⟩)
    | (go_at_call 100; refine (CFI.out _ HF2.out).mono ?_; rintro e w' ⟨rfl, rfl⟩)
    | (go_at_call 98; refine (refGoes_any HF2.out k).mono ?_; rintro e w5 ⟨rfl, hF, hT'⟩; have HF5 := Lib.hid hF; have HT5 := Lib.hid hT'; clear hF hT'))
  all_goals
    go_ret
    rw [HWR.out]
    exact ⟨_, _, rfl, HF5.out.more fun j hj => .inl hj, rb_own HOWN.out (HT2.out.trans HT5.out), rfl⟩

set_option maxRecDepth 100000 in
set_option maxHeartbeats 4000000 in
theorem wr_st_nbig (h : RefV w FR rb v fs r) (hrise : Rising fs) (ho : ROk r) {p c : List UInt8} {A9 : Option Addr} {cap9 : Nat} (hv : ∀ W, Touch FR w W → Reads W (.slice A9 c.length cap9) c) (hcl : c.length ≤ 140737488355328) (hl : looksR r [p] = 0) {k : Int} {r1 : RSt} (hcr : callR r = (k, r1)) {x : Ent} (hx : findE fs p = some x) (hk0 : k ≠ 0) (hk1 : k ≠ 1) (hfr : freeR fs p = 0) (hbig : (1048576 : Int) - (x.data.length : Int) < (c.length : Int)) :
    Calls Tryz.prog 101 #[.pointer (some ⟨rb, 0, none⟩), str p, .slice A9 c.length cap9, .bool true] w (WrRPost w FR rb fs p (WR r c 3 x.data k r1)) := by
  have CL := refLooks1_any h p
  rw [hl] at CL
  obtain ⟨w1, hw1⟩ : ∃ w1, w1 = w.alloc (.cells #[str p] 9) := ⟨_, rfl⟩
  have h1 : RefV w1 FR rb v fs r := by rw [hw1]; exact h.alloc _
  have T1 : Touch (fun k => k = rb) w w1 := by rw [hw1]; exact Touch.alloc _ _ _
  rw [← hw1] at CL
  have CC := refCall_any h1 ho
  rw [hcr] at CC
  have hgp : goodP p = true := by have := (looks_good hl).2; simpa using this
  have CL := Lib.hid CL
  have CC := Lib.hid CC
  have HT1 := Lib.hid T1
  have HW1 := Lib.hid hw1
  have HOWN := Lib.hid h.own
  have HRISE := Lib.hid hrise
  have HV := Lib.hid hv
  have HPL := Lib.hid (good_short' hgp)
  have HPG := Lib.hid (goodP_len hgp)
  have hn := h.short
  have hi : findR fs p = (idxE fs p : Int) := by
    unfold findR
    rw [if_pos (by rw [hx]; rfl)]
  obtain ⟨hlt, hxi⟩ := idx_some hx
  have hxi' : fs[idxE fs p]? = some x := by rw [← hxi]; exact List.getElem?_eq_getElem hlt
  have CFI : Hid (∀ (W : World), RefV W FR rb v fs r1 → Calls Tryz.prog 100 #[.pointer (some ⟨rb, 0, none⟩), str p] W fun e w' => e = .returned (.int .i64 (idxE fs p : Int)) ∧ W = w') := Lib.hid fun W hW => by rw [← hi]; exact refFind_any hW p
  generalize idxE fs p = i at CFI hlt hxi'
  have hmem := List.mem_of_getElem? hxi'
  have hsm := (h.small x hmem).2
  obtain ⟨A5, cap5, hx5, _⟩ := own_form (h.datas x hmem).1
  have hov : x.val.oneCell' = true := data_one h x hmem
  have HMEM := Lib.hid hmem
  have HXI := Lib.hid hxi'
  have HX5 := Lib.hid hx5
  have HXX := Lib.hid hx
  have i0 : (0 : Int) ≤ (i : Int) := by omega
  have i1 : (i : Int) < (fs.length : Int) := by omega
  clear hi hxi hxi' hmem hx5 hx
  have CFR : Hid (∀ (W : World), RefV W FR rb v fs r1 → Calls Tryz.prog 104 #[.pointer (some ⟨rb, 0, none⟩), str p] W fun e w' => e = .returned (.int .i64 0) ∧ W = w') := Lib.hid fun W hW => by have := refFree_any hW p HPL.out; rwa [hfr] at this
  clear hfr
  have q0 : (k == 0) = false := by simpa using hk0
  have q0' : (k != 0) = true := by simpa using hk0
  have q1 : (k == 1) = false := by simpa using hk1
  have HWR := Lib.hid (show WR r c 3 x.data k r1 = ((goesR k r1).1, none, (goesR k r1).2) by unfold WR; rw [if_neg hk1]; simp [hk0])
  clear hk0 hk1
  have hsm0 : (0 : Int) ≤ (x.data.length : Int) := by omega
  clear h hrise hv h1 T1 hw1 hcr hl hgp
  have HO := Lib.hid ho
  clear ho
  go_enter Tryz.func101, Tryz.ntmps101
  go_wp2_with (first
    | (go_at_call 96; rw [← HW1.out]; refine (CL.out).mono ?_; rintro e w' ⟨rfl, rfl⟩)
    | (go_at_call 97; refine (CC.out).mono ?_; rintro e w2 ⟨rfl, hF, hT'⟩; have c0 := hF.cell0; have c3 := hF.cell3; obtain ⟨A, cap, hvv, hcap, _, hat⟩ := hF.form; subst hvv; obtain ⟨g, hAg, hg, _, cd, _⟩ := hat i x HXI.out; subst hAg; rw [HX5.out] at cd; clear hat; have HF2 := Lib.hid hF; have HT2 := Lib.hid (HT1.out.trans hT'); clear hF hT')
    | (go_at_call 104; refine (CFR.out _ HF2.out).mono ?_; rintro e w' ⟨rfl, rfl⟩)
    | (go_at_call 100; refine (CFI.out _ HF2.out).mono ?_; rintro e w' ⟨rfl, rfl⟩)
    | (go_at_call 98; refine (refGoes_any HF2.out k).mono ?_; rintro e w5 ⟨rfl, hF, hT'⟩; have HF5 := Lib.hid hF; have HT5 := Lib.hid hT'; clear hF hT'))
  all_goals
    go_ret
    rw [HWR.out]
    exact ⟨_, _, rfl, HF5.out.more fun j hj => .inl hj, rb_own HOWN.out (HT2.out.trans HT5.out), rfl⟩

set_option maxRecDepth 100000 in
set_option maxHeartbeats 4000000 in
theorem wr_st_nokN (h : RefV w FR rb v fs r) (hrise : Rising fs) (ho : ROk r) {p c : List UInt8} {A9 : Option Addr} {cap9 : Nat} (hv : ∀ W, Touch FR w W → Reads W (.slice A9 c.length cap9) c) (hcl : c.length ≤ 140737488355328) (hl : looksR r [p] = 0) {k : Int} {r1 : RSt} (hcr : callR r = (k, r1)) {x : Ent} (hx : findE fs p = some x) (hk0 : k ≠ 0) (hk1 : k ≠ 1) (hfr : freeR fs p = 0) (hbig : ¬ ((1048576 : Int) - (x.data.length : Int) < (c.length : Int))) (hcut : ¬ (r.keep < (c.length : Int))) :
    Calls Tryz.prog 101 #[.pointer (some ⟨rb, 0, none⟩), str p, .slice A9 c.length cap9, .bool true] w (WrRPost w FR rb fs p (WR r c 0 x.data k r1)) := by
  have CL := refLooks1_any h p
  rw [hl] at CL
  obtain ⟨w1, hw1⟩ : ∃ w1, w1 = w.alloc (.cells #[str p] 9) := ⟨_, rfl⟩
  have h1 : RefV w1 FR rb v fs r := by rw [hw1]; exact h.alloc _
  have T1 : Touch (fun k => k = rb) w w1 := by rw [hw1]; exact Touch.alloc _ _ _
  rw [← hw1] at CL
  have CC := refCall_any h1 ho
  rw [hcr] at CC
  have hgp : goodP p = true := by have := (looks_good hl).2; simpa using this
  have CL := Lib.hid CL
  have CC := Lib.hid CC
  have HT1 := Lib.hid T1
  have HW1 := Lib.hid hw1
  have HOWN := Lib.hid h.own
  have HRISE := Lib.hid hrise
  have HV := Lib.hid hv
  have HPL := Lib.hid (good_short' hgp)
  have HPG := Lib.hid (goodP_len hgp)
  have hn := h.short
  have hi : findR fs p = (idxE fs p : Int) := by
    unfold findR
    rw [if_pos (by rw [hx]; rfl)]
  obtain ⟨hlt, hxi⟩ := idx_some hx
  have hxi' : fs[idxE fs p]? = some x := by rw [← hxi]; exact List.getElem?_eq_getElem hlt
  have CFI : Hid (∀ (W : World), RefV W FR rb v fs r1 → Calls Tryz.prog 100 #[.pointer (some ⟨rb, 0, none⟩), str p] W fun e w' => e = .returned (.int .i64 (idxE fs p : Int)) ∧ W = w') := Lib.hid fun W hW => by rw [← hi]; exact refFind_any hW p
  generalize idxE fs p = i at CFI hlt hxi'
  have hmem := List.mem_of_getElem? hxi'
  have hsm := (h.small x hmem).2
  obtain ⟨A5, cap5, hx5, _⟩ := own_form (h.datas x hmem).1
  have hov : x.val.oneCell' = true := data_one h x hmem
  have HMEM := Lib.hid hmem
  have HXI := Lib.hid hxi'
  have HX5 := Lib.hid hx5
  have HXX := Lib.hid hx
  have i0 : (0 : Int) ≤ (i : Int) := by omega
  have i1 : (i : Int) < (fs.length : Int) := by omega
  clear hi hxi hxi' hmem hx5 hx
  have CFR : Hid (∀ (W : World), RefV W FR rb v fs r1 → Calls Tryz.prog 104 #[.pointer (some ⟨rb, 0, none⟩), str p] W fun e w' => e = .returned (.int .i64 0) ∧ W = w') := Lib.hid fun W hW => by have := refFree_any hW p HPL.out; rwa [hfr] at this
  clear hfr
  have q0 : (k == 0) = false := by simpa using hk0
  have q0' : (k != 0) = true := by simpa using hk0
  have q1 : (k == 1) = false := by simpa using hk1
  have HWR := Lib.hid (show WR r c 0 x.data k r1 = ((goesR k r1).1, some (x.data ++ cutR k r.keep c), (goesR k r1).2) by unfold WR; rw [if_neg hk1]; simp [hk0])
  have hkeep : r1.keep = r.keep := by have := call_keep r; rw [hcr] at this; exact this
  obtain ⟨m, hm⟩ : ∃ m : Nat, r.keep = (m : Int) := ⟨r.keep.toNat, by have := ho.2.2.2.2.1; omega⟩
  have HCUT : Hid (cutR k r.keep c = c) := Lib.hid (by unfold cutR; rw [hm] at hcut ⊢; rw [if_neg (fun e => hcut e.2)])
  rw [hm] at hcut
  clear hk0 hk1
  have hsm0 : (0 : Int) ≤ (x.data.length : Int) := by omega
  clear h hrise hv h1 T1 hw1 hcr hl hgp
  have HO := Lib.hid ho
  clear ho
  have hT := Tryz.underlying30
  have tok1 : True := trivial
  go_enter Tryz.func101, Tryz.ntmps101
  go_wp2_with (first
    | (go_at_call 96; rw [← HW1.out]; refine (CL.out).mono ?_; rintro e w' ⟨rfl, rfl⟩)
    | (go_at_call 97; refine (CC.out).mono ?_; rintro e w2 ⟨rfl, hF, hT'⟩; have c0 := hF.cell0; have c3 := hF.cell3; obtain ⟨A, cap, hvv, hcap, _, hat⟩ := hF.form; subst hvv; obtain ⟨g, hAg, hg, _, cd, _⟩ := hat i x HXI.out; subst hAg; rw [HX5.out] at cd; clear hat; have hr2 := HV.out w2 ((rb_own HOWN.out HT1.out).trans (rb_own HOWN.out hT')); rw [hkeep, hm] at c3; have hrx := Reads.of_row (base := 0) (hF.datas x HMEM.out).1; rw [HX5.out] at hrx; obtain ⟨va, wa, runa, owna, ga, _⟩ := append_bytes w2 w2.heap.size (.slice none 0 0) [] (World.ownsRow_nil _ _ _ _) x.data hrx (by simp only [List.length_nil, Nat.zero_add]; omega) (Nat.le_refl _) 30; rw [List.nil_append] at owna; have Ba : Below w2.heap.size w2 wa := grown_below ga (Nat.le_refl _) (fun k e => by cases e); obtain ⟨vb, wb, runb, ownb, gb, _⟩ := append_bytes wa w2.heap.size va x.data owna (c) (hr2.below Ba) (by omega) Ba.size 30; have Bb : Below w2.heap.size w2 wb := Ba.trans (grown_below gb Ba.size fun k e => (owna.lt k e).1); obtain ⟨Xa, ca, hva, _⟩ := own_form owna; obtain ⟨Xb, cb, hvb, _⟩ := own_form ownb; obtain ⟨N, hN⟩ : ∃ N, N = (x.data ++ c).length := ⟨_, rfl⟩; rw [← hN] at ownb hvb; have HN := Lib.hid hN; clear hN; subst hva hvb; have HFB := Lib.hid (hF.below Bb); have HOB := Lib.hid ownb; have HTB := Lib.hid (HT1.out.trans (hT'.trans (Touch.of_below Bb))); have HSB := Lib.hid (Nat.le_trans HT1.out.size (Nat.le_trans hT'.size Bb.size)); clear owna ga Ba ownb gb Bb hr2 hrx; have HF2 := Lib.hid hF; have HT2 := Lib.hid (HT1.out.trans hT'); clear hF hT')
    | (go_at_call 104; refine (CFR.out _ HF2.out).mono ?_; rintro e w' ⟨rfl, rfl⟩)
    | (go_at_call 100; refine (CFI.out _ HF2.out).mono ?_; rintro e w' ⟨rfl, rfl⟩)
    | (go_at_call 98; refine (refGoes_any HF4.out k).mono ?_; rintro e w5 ⟨rfl, hF, hT'⟩; have HF5 := Lib.hid hF; have HT5 := Lib.hid hT'; clear hF hT')
    | (at_builtin; have tk := tok1; clear tk; refine wpList_append_run runa (by rfl) _ _ (by rfl) (by rfl) (by rfl) (by rfl) ?_; clear tok1)
    | (at_builtin; refine wpList_append_run runb (by rfl) _ _ (by rfl) (by rfl) (by rfl) (by rfl) ?_)
    | (go_at_call 105; refine (refPut_any HFB.out HRISE.out (c := x.data ++ c) (row_touch HFB.out HN.out HOB.out) (by rw [List.length_append]; omega) (fun e => by rw [HXX.out] at e; cases e) HPG.out).mono ?_; rintro e w4 ⟨v4, dv, rfl, hF, hT'⟩; have HF4 := Lib.hid hF; have HT4 := Lib.hid hT'; clear hF hT'))
  all_goals
    go_ret
    rw [HWR.out]
    have hsb := HSB.out
    refine ⟨_, _, rfl, HF5.out.more fun j hj => hj.imp id fun hj => Nat.le_trans hsb hj, (rb_own HOWN.out HTB.out).trans ((HT4.out).trans (HT5.out.mono fun j _ e => by subst e; exact HOWN.out)), dv, ?_⟩
    rw [HCUT.out]

set_option maxRecDepth 100000 in
set_option maxHeartbeats 4000000 in
theorem wr_st_nokC (h : RefV w FR rb v fs r) (hrise : Rising fs) (ho : ROk r) {p c : List UInt8} {A9 : Option Addr} {cap9 : Nat} (hv : ∀ W, Touch FR w W → Reads W (.slice A9 c.length cap9) c) (hcl : c.length ≤ 140737488355328) (hl : looksR r [p] = 0) {k : Int} {r1 : RSt} (hcr : callR r = (k, r1)) {x : Ent} (hx : findE fs p = some x) (hk0 : k ≠ 0) (hk1 : k ≠ 1) (hfr : freeR fs p = 0) (hbig : ¬ ((1048576 : Int) - (x.data.length : Int) < (c.length : Int))) (hcut : r.keep < (c.length : Int)) :
    Calls Tryz.prog 101 #[.pointer (some ⟨rb, 0, none⟩), str p, .slice A9 c.length cap9, .bool true] w (WrRPost w FR rb fs p (WR r c 0 x.data k r1)) := by
  have CL := refLooks1_any h p
  rw [hl] at CL
  obtain ⟨w1, hw1⟩ : ∃ w1, w1 = w.alloc (.cells #[str p] 9) := ⟨_, rfl⟩
  have h1 : RefV w1 FR rb v fs r := by rw [hw1]; exact h.alloc _
  have T1 : Touch (fun k => k = rb) w w1 := by rw [hw1]; exact Touch.alloc _ _ _
  rw [← hw1] at CL
  have CC := refCall_any h1 ho
  rw [hcr] at CC
  have hgp : goodP p = true := by have := (looks_good hl).2; simpa using this
  have CL := Lib.hid CL
  have CC := Lib.hid CC
  have HT1 := Lib.hid T1
  have HW1 := Lib.hid hw1
  have HOWN := Lib.hid h.own
  have HRISE := Lib.hid hrise
  have HV := Lib.hid hv
  have HPL := Lib.hid (good_short' hgp)
  have HPG := Lib.hid (goodP_len hgp)
  have hn := h.short
  have hi : findR fs p = (idxE fs p : Int) := by
    unfold findR
    rw [if_pos (by rw [hx]; rfl)]
  obtain ⟨hlt, hxi⟩ := idx_some hx
  have hxi' : fs[idxE fs p]? = some x := by rw [← hxi]; exact List.getElem?_eq_getElem hlt
  have CFI : Hid (∀ (W : World), RefV W FR rb v fs r1 → Calls Tryz.prog 100 #[.pointer (some ⟨rb, 0, none⟩), str p] W fun e w' => e = .returned (.int .i64 (idxE fs p : Int)) ∧ W = w') := Lib.hid fun W hW => by rw [← hi]; exact refFind_any hW p
  generalize idxE fs p = i at CFI hlt hxi'
  have hmem := List.mem_of_getElem? hxi'
  have hsm := (h.small x hmem).2
  obtain ⟨A5, cap5, hx5, _⟩ := own_form (h.datas x hmem).1
  have hov : x.val.oneCell' = true := data_one h x hmem
  have HMEM := Lib.hid hmem
  have HXI := Lib.hid hxi'
  have HX5 := Lib.hid hx5
  have HXX := Lib.hid hx
  have i0 : (0 : Int) ≤ (i : Int) := by omega
  have i1 : (i : Int) < (fs.length : Int) := by omega
  clear hi hxi hxi' hmem hx5 hx
  have CFR : Hid (∀ (W : World), RefV W FR rb v fs r1 → Calls Tryz.prog 104 #[.pointer (some ⟨rb, 0, none⟩), str p] W fun e w' => e = .returned (.int .i64 0) ∧ W = w') := Lib.hid fun W hW => by have := refFree_any hW p HPL.out; rwa [hfr] at this
  clear hfr
  have q0 : (k == 0) = false := by simpa using hk0
  have q0' : (k != 0) = true := by simpa using hk0
  have q1 : (k == 1) = false := by simpa using hk1
  have HWR := Lib.hid (show WR r c 0 x.data k r1 = ((goesR k r1).1, some (x.data ++ cutR k r.keep c), (goesR k r1).2) by unfold WR; rw [if_neg hk1]; simp [hk0])
  have hkeep : r1.keep = r.keep := by have := call_keep r; rw [hcr] at this; exact this
  obtain ⟨m, hm⟩ : ∃ m : Nat, r.keep = (m : Int) := ⟨r.keep.toNat, by have := ho.2.2.2.2.1; omega⟩
  have HCUT : Hid (cutR k r.keep c = c.take m) := Lib.hid (by unfold cutR; rw [hm] at hcut ⊢; rw [if_pos ⟨hk0, hcut⟩]; rfl)
  rw [hm] at hcut
  clear hk0 hk1
  have hsm0 : (0 : Int) ≤ (x.data.length : Int) := by omega
  clear h hrise hv h1 T1 hw1 hcr hl hgp
  have HO := Lib.hid ho
  clear ho
  have hT := Tryz.underlying30
  have tok1 : True := trivial
  go_enter Tryz.func101, Tryz.ntmps101
  go_wp2_with (first
    | (go_at_call 96; rw [← HW1.out]; refine (CL.out).mono ?_; rintro e w' ⟨rfl, rfl⟩)
    | (go_at_call 97; refine (CC.out).mono ?_; rintro e w2 ⟨rfl, hF, hT'⟩; have c0 := hF.cell0; have c3 := hF.cell3; obtain ⟨A, cap, hvv, hcap, _, hat⟩ := hF.form; subst hvv; obtain ⟨g, hAg, hg, _, cd, _⟩ := hat i x HXI.out; subst hAg; rw [HX5.out] at cd; clear hat; have hr2 := HV.out w2 ((rb_own HOWN.out HT1.out).trans (rb_own HOWN.out hT')); rw [hkeep, hm] at c3; have hr2' := Reads.take (m := m) hr2 (by omega); have hcap9 := reads_cap hr2; have sh := slice_head (P := Tryz.prog) 30 5 Tryz.underlying30 1 size_u8 A9 c.length cap9 m (by omega); clear hr2; have hr2 := hr2'; clear hr2'; have hrx := Reads.of_row (base := 0) (hF.datas x HMEM.out).1; rw [HX5.out] at hrx; obtain ⟨va, wa, runa, owna, ga, _⟩ := append_bytes w2 w2.heap.size (.slice none 0 0) [] (World.ownsRow_nil _ _ _ _) x.data hrx (by simp only [List.length_nil, Nat.zero_add]; omega) (Nat.le_refl _) 30; rw [List.nil_append] at owna; have Ba : Below w2.heap.size w2 wa := grown_below ga (Nat.le_refl _) (fun k e => by cases e); obtain ⟨vb, wb, runb, ownb, gb, _⟩ := append_bytes wa w2.heap.size va x.data owna (c.take m) (hr2.below Ba) (by rw [List.length_take]; omega) Ba.size 30; have Bb : Below w2.heap.size w2 wb := Ba.trans (grown_below gb Ba.size fun k e => (owna.lt k e).1); obtain ⟨Xa, ca, hva, _⟩ := own_form owna; obtain ⟨Xb, cb, hvb, _⟩ := own_form ownb; obtain ⟨N, hN⟩ : ∃ N, N = (x.data ++ c.take m).length := ⟨_, rfl⟩; rw [← hN] at ownb hvb; have HN := Lib.hid hN; clear hN; subst hva hvb; have HFB := Lib.hid (hF.below Bb); have HOB := Lib.hid ownb; have HTB := Lib.hid (HT1.out.trans (hT'.trans (Touch.of_below Bb))); have HSB := Lib.hid (Nat.le_trans HT1.out.size (Nat.le_trans hT'.size Bb.size)); clear owna ga Ba ownb gb Bb hr2 hrx; have HF2 := Lib.hid hF; have HT2 := Lib.hid (HT1.out.trans hT'); clear hF hT')
    | (go_at_call 104; refine (CFR.out _ HF2.out).mono ?_; rintro e w' ⟨rfl, rfl⟩)
    | (go_at_call 100; refine (CFI.out _ HF2.out).mono ?_; rintro e w' ⟨rfl, rfl⟩)
    | (go_at_call 98; refine (refGoes_any HF4.out k).mono ?_; rintro e w5 ⟨rfl, hF, hT'⟩; have HF5 := Lib.hid hF; have HT5 := Lib.hid hT'; clear hF hT')
    | (at_builtin; have tk := tok1; clear tk; refine wpList_append_run runa (by rfl) _ _ (by rfl) (by rfl) (by rfl) (by rfl) ?_; clear tok1)
    | (at_builtin; refine wpList_append_run runb (by rfl) _ _ (by rfl) (by rfl) (by rfl) (by rfl) ?_)
    | (refine wpList_slice_run sh hT (by rfl) _ _ _ (by rfl) (by rfl) (by rfl) (by rfl) ?_)
    | (go_at_call 105; refine (refPut_any HFB.out HRISE.out (c := x.data ++ c.take m) (row_touch HFB.out HN.out HOB.out) (by rw [List.length_append, List.length_take]; omega) (fun e => by rw [HXX.out] at e; cases e) HPG.out).mono ?_; rintro e w4 ⟨v4, dv, rfl, hF, hT'⟩; have HF4 := Lib.hid hF; have HT4 := Lib.hid hT'; clear hF hT'))
  all_goals
    go_ret
    rw [HWR.out]
    have hsb := HSB.out
    refine ⟨_, _, rfl, HF5.out.more fun j hj => hj.imp id fun hj => Nat.le_trans hsb hj, (rb_own HOWN.out HTB.out).trans ((HT4.out).trans (HT5.out.mono fun j _ e => by subst e; exact HOWN.out)), dv, ?_⟩
    rw [HCUT.out]

end

end Go.Proofs.YthpkfgjjaieikaaGreatDoor

