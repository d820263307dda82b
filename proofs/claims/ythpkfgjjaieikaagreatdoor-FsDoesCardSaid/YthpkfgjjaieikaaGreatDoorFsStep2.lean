/-
  The other operations of a script: the same answers, and both go on alike. Nothing is assumed.
-/
import Derived.Test.YthpkfgjjaieikaaGreatDoorFsStep
import Derived.Deep.QuietTactic
import Derived.BigQuiet
namespace Go.Proofs.YthpkfgjjaieikaaGreatDoor
open Go.RowKit Go.Shelf Go.Lib Go.Maps

def TextsI (w : World) (n : Nat) (i : Value) (W : World) : Prop := ∃ k m : Nat, k ≤ n ∧ i = .int .i64 k ∧ W = w.drewN m
set_option maxRecDepth 100000 in
set_option maxHeartbeats 1000000 in
/-- the same texts -/
theorem texts_same (w : World) (b1 b2 : Nat) (v1 v2 : Value) (l : List (List UInt8)) (h1 : w.ownsRow b1 9 1 v1 l.length (l.map str)) (h2 : w.ownsRow b2 9 1 v2 l.length (l.map str)) (hl : l.length ≤ 1000000) :
    Calls Tryz.prog 42 #[v1, v2] w fun e w' => e = .returned (.bool true) ∧ ∃ m, w' = w.drewN m := by
  obtain ⟨A1, c1, rfl, _⟩ := own_form h1
  obtain ⟨A2, c2, rfl, _⟩ := own_form h2
  have HA := Lib.hid (texts_at h1)
  have HB := Lib.hid (texts_at h2)
  clear h1 h2
  have hnn : ((l.length : Int) != (l.length : Int)) = false := by simp
  go_enter Tryz.func42, Tryz.ntmps42
  go_wp2_with fail
  clear hnn
  go_loopw [5, 13] (fun _ i W => TextsI w l.length i W) (fun _ i _ => l.length - (intOf i).toNat)
  case atStart => exact ⟨0, 0, Nat.zero_le _, rfl, rfl⟩
  case round =>
    obtain ⟨k, m, hk, rfl, rfl⟩ := hrel
    by_cases hlt : k < l.length
    · obtain ⟨x, hx⟩ : ∃ x, l[k]? = some x := ⟨_, List.getElem?_eq_getElem hlt⟩
      obtain ⟨g1, rfl, cx⟩ := HA.out k x hx
      obtain ⟨g2, rfl, cy⟩ := HB.out k x hx
      have hxx : (x != x) = false := by simp
      have i0 : (0 : Int) ≤ (k : Int) := by omega
      have i1 : (k : Int) < (l.length : Int) := by omega
      clear hx
      go_wp2_with fail
      go_quiet (fail)
      go_wp2_with fail
      go_roundw
      case rel => exact ⟨k + 1, _, by omega, by go_num, rfl⟩
      case measure => simp [intOf]; omega
    · have hge : l.length ≤ k := by omega
      go_wp2_with fail
      go_ret
      exact ⟨rfl, m, rfl⟩
theorem own_touch {w w' : World} {FR : Nat → Prop} {rb base size n : Nat} {e : TypeId} {v u : Value} {fs : List Ent} {r : RSt} {xs : List Value} (h : RefV w FR rb v fs r) (hr : w.ownsRow base e size u n xs) (hne : e ≠ 28) (ht : Touch (fun k => k = rb) w w') : w'.ownsRow base e size u n xs := by
  have hk := own_kind hr h.cells hne
  obtain ⟨h1, h2⟩ := hr
  refine ⟨h1, ?_⟩
  rcases h2 with h2 | ⟨g, cap, cur, hv, hg, hh, rr⟩
  · exact .inl h2
  · exact .inr ⟨g, cap, cur, hv, hg, (ht.block g (Array.getElem?_eq_some_iff.1 hh).1 fun e => hk (by rw [hv, ← e]; rfl)).trans hh, rr⟩

section
variable {w : World} {FP FR : Nat → Prop} {b bm rb : Nat} {es : List Ent} {s : St} {v : Value} {fs : List Ent} {r : RSt}

set_option maxRecDepth 100000 in
set_option maxHeartbeats 2000000 in
theorem refIs_all (h : RefV w FR rb v fs r) (p : List UInt8) :
    Calls Tryz.prog 48 #[.pointer (some ⟨rb, 0, none⟩), str p] w fun e w' => e = .returned (.tuple #[.bool (isR fs p).1, .bool (isR fs p).2]) ∧ w = w' := by
  by_cases hq : (p == [47] || goodP p) = true
  · refine refIs_any h p ?_
    rw [Bool.or_eq_true] at hq
    rcases hq with e | e
    · have : p = [47] := by simpa using e
      rw [this]; simp [maxLen]
    · exact good_short' e
  · have hq' : (p == [47] || goodP p) = false := by simpa using hq
    rw [Bool.or_eq_false_iff] at hq'
    obtain ⟨hr, hg⟩ := hq'
    have CF := Lib.hid (refFind_any h p)
    have CG := refGood_any p w
    rw [hg] at CG
    have CG := Lib.hid CG
    have hneg := findR_neg fs p
    have hI1 : (isR fs p).1 = (findE fs p).isSome := rfl
    have hI2 : (isR fs p).2 = false := by unfold isR; rw [hr, hg]; rfl
    have hge : decide (0 ≤ findR fs p) = (findE fs p).isSome := by
      have : decide (0 ≤ findR fs p) = !decide (findR fs p < 0) := by
        by_cases hh : findR fs p < 0
        · rw [decide_eq_true hh, decide_eq_false (by omega)]; rfl
        · rw [decide_eq_false hh, decide_eq_true (by omega)]; rfl
      rw [this, hneg, Bool.not_not]
    clear hneg h hq hg
    generalize findR fs p = n at CF hge
    generalize (findE fs p).isSome = fd at hge hI1
    have HI1 := Lib.hid hI1
    have HI2 := Lib.hid hI2
    have HGE := Lib.hid hge
    clear hI1 hI2 hge
    go_enter Tryz.func48, Tryz.ntmps48
    go_wp2_with (first | (go_at_call 100; refine (CF.out).mono ?_; rintro e w' ⟨rfl, rfl⟩) | (go_at_call 106; refine (CG.out).mono ?_; rintro e w' ⟨rfl, rfl⟩))
    go_ret2
    exact ⟨by rw [HI1.out, HI2.out, ← HGE.out]; rfl, rfl⟩

set_option maxRecDepth 100000 in
set_option maxHeartbeats 4000000 in
theorem step_0 (h : Both w FP FR b bm rb es s v fs r) (hc : s.calls ≤ 4000000000000000000) (p q c : List UInt8) (A9 : Option Addr) (cap9 : Nat) (k i j : Int) :
    Calls Tryz.prog 9 #[.pointer (some ⟨b, 0, none⟩), .pointer (some ⟨rb, 0, none⟩), .agg #[.int .i64 0, str p, str q, .slice A9 c.length cap9, .int .i64 k, .int .i64 i, .int .i64 j]] w (StepPost w FP FR rb s) := by
  obtain ⟨w1, hw1⟩ : ∃ w1, w1 = w.alloc (.cells #[.int .i64 0, str p, str q, .slice A9 c.length cap9, .int .i64 k, .int .i64 i, .int .i64 j] 32) := ⟨_, rfl⟩
  have hbox : w1.heap[w.heap.size]? = some (.cells #[.int .i64 0, str p, str q, .slice A9 c.length cap9, .int .i64 k, .int .i64 i, .int .i64 j] 32 (0, 0)) := by rw [hw1]; exact World.alloc_heap_new w _
  have T1 : Touch (fun k => FP k ∨ FR k) w w1 := by rw [hw1]; exact Touch.alloc _ _ _
  have hd : Both w1 FP FR b bm rb es s v fs r := by rw [hw1]; exact h.below ((Below.refl _ _).alloc (Nat.le_refl _) _)
  have CW := Lib.hid (read_any w1 FP b bm es s p hd.prog hd.ok hc)
  have HD := Lib.hid hd
  have HT1 := Lib.hid T1
  have HW1 := Lib.hid hw1
  have HC := Lib.hid hc
  have HNP : Hid (¬ FP w.heap.size ∧ ¬ FR w.heap.size) := Lib.hid ⟨fun e => by have := h.tightP _ e; omega, fun e => by have := h.tightR _ e; omega⟩
  have HBX := Lib.hid hbox
  have hB9 : (Value.slice A9 c.length cap9).oneCell' = true := rfl
  have HREL := Lib.hid (read_rel h.inv h.alike h.rel h.ok p)
  obtain ⟨n, hn⟩ : ∃ n, (readP es s p).2.1 = n := ⟨_, rfl⟩
  obtain ⟨d, hdd⟩ : ∃ d, (readP es s p).1 = d := ⟨_, rfl⟩
  have HN1 := Lib.hid hn
  have HN2 := Lib.hid (HREL.out.2.1.trans hn)
  have HD1 := Lib.hid hdd
  have HD2 := Lib.hid (HREL.out.1.trans hdd)
  have HSR : Hid (∀ w2 w3, FsAt w2 FP b bm es (readP es s p).2.2 → Touch (fun k => k = b) w1 w2 → RefV w3 FR rb v fs (readR fs r p).2.2 → Touch (fun k => k = rb) w2 w3 → StepR w FP FR rb s b w3) := Lib.hid fun w2 w3 hF hT hR hU => StepR.later T1 (StepR.mk hd (hF.more fun _ h => .inl h) (touch_own hT h.prog.own) (hR.more fun _ h => .inl h) (rb_own h.ref.own hU) h.inv h.alike HREL.out.2.2 (by rw [read_st]; exact start_next _ h.ok hc) h.len)
  have HPO := Lib.hid h.prog.own
  clear h hc T1 hd hw1 hbox hn hdd
  go_enter Tryz.func9, Tryz.ntmps9
  have hdd : (d == d) = true := by simp
  go_wp2_with (rw [← HW1.out]; first
    | (go_at_call 31; refine (CW.out).mono ?_; rintro e w2 ⟨u, rfl, hr, hF, hT⟩; rw [HN1.out]; rw [HD1.out] at hr; have hbx2 := (hT.block _ (Array.getElem?_eq_some_iff.1 HBX.out).1 (fun e => HNP.out.1 (by rw [e]; exact HPO.out))).trans HBX.out; have k1' : w2.cell? ⟨w.heap.size, 1, none⟩ = some (str p) := cell_of_row _ _ 1 _ _ _ hbx2; have HR2 := Lib.hid hr; have HF := Lib.hid hF; have HT := Lib.hid hT; clear hF hT hbx2 hr))
  go_wp2_with (go_at_call 33; refine (refRead_any (HD.out.refAfter (touch_own HT.out HPO.out)) (HD.out.rok HC.out) p).mono ?_; rintro e w3 ⟨u2, rfl, hr, hR, hU⟩; rw [HN2.out]; rw [HD2.out] at hr; have hc2 := conv_reads (Reads.of_row hr); have hc1 := conv_reads (Reads.of_row (own_touch (HD.out.refAfter (touch_own HT.out HPO.out)) HR2.out (by decide) hU)); have HR := Lib.hid hR; have HU := Lib.hid hU; clear hR hU hr)
  go_ret2
  exact ⟨b, rfl, HSR.out _ _ HF.out HT.out HR.out HU.out⟩

set_option maxRecDepth 100000 in
set_option maxHeartbeats 4000000 in
theorem step_5 (h : Both w FP FR b bm rb es s v fs r) (hc : s.calls ≤ 4000000000000000000) (p q c : List UInt8) (A9 : Option Addr) (cap9 : Nat) (k i j : Int) :
    Calls Tryz.prog 9 #[.pointer (some ⟨b, 0, none⟩), .pointer (some ⟨rb, 0, none⟩), .agg #[.int .i64 5, str p, str q, .slice A9 c.length cap9, .int .i64 k, .int .i64 i, .int .i64 j]] w (StepPost w FP FR rb s) := by
  obtain ⟨w1, hw1⟩ : ∃ w1, w1 = w.alloc (.cells #[.int .i64 5, str p, str q, .slice A9 c.length cap9, .int .i64 k, .int .i64 i, .int .i64 j] 32) := ⟨_, rfl⟩
  have hbox : w1.heap[w.heap.size]? = some (.cells #[.int .i64 5, str p, str q, .slice A9 c.length cap9, .int .i64 k, .int .i64 i, .int .i64 j] 32 (0, 0)) := by rw [hw1]; exact World.alloc_heap_new w _
  have T1 : Touch (fun k => FP k ∨ FR k) w w1 := by rw [hw1]; exact Touch.alloc _ _ _
  have hd : Both w1 FP FR b bm rb es s v fs r := by rw [hw1]; exact h.below ((Below.refl _ _).alloc (Nat.le_refl _) _)
  have CW := Lib.hid (list_any w1 FP b bm es s p hd.prog hd.ok hc (by have := hd.len; omega))
  have HD := Lib.hid hd
  have HT1 := Lib.hid T1
  have HW1 := Lib.hid hw1
  have HC := Lib.hid hc
  have HNP : Hid (¬ FP w.heap.size ∧ ¬ FR w.heap.size) := Lib.hid ⟨fun e => by have := h.tightP _ e; omega, fun e => by have := h.tightR _ e; omega⟩
  have HBX := Lib.hid hbox
  have hB9 : (Value.slice A9 c.length cap9).oneCell' = true := rfl
  have HREL := Lib.hid (list_rel h.inv h.prog.rising h.alike h.rel h.ok p)
  obtain ⟨n, hn⟩ : ∃ n, (listP es s p).2.1 = n := ⟨_, rfl⟩
  obtain ⟨d, hdd⟩ : ∃ d, (listP es s p).1 = d := ⟨_, rfl⟩
  have hdl : d.length ≤ 1000000 := by
    rw [← hdd]
    have hle := h.len
    have hpo := pathsOf_length es
    unfold listP
    split
    · simp
    · split
      · simp
      · split
        · simp
        · have h1 := compact_le (namesOf p (pathsOf es))
          have h2 := namesOf_le p (pathsOf es)
          show (Lib.compact (namesOf p (pathsOf es))).length ≤ _
          omega
  have HN1 := Lib.hid hn
  have HN2 := Lib.hid (HREL.out.2.1.trans hn)
  have HD1 := Lib.hid hdd
  have HD2 := Lib.hid (HREL.out.1.trans hdd)
  have HSR : Hid (∀ w2 w3 m, FsAt w2 FP b bm es (listP es s p).2.2 → Touch (fun k => k = b) w1 w2 → RefV w3 FR rb v fs (listR fs r p).2.2 → Touch (fun k => k = rb) w2 w3 → StepR w FP FR rb s b (w3.drewN m)) := Lib.hid fun w2 w3 m hF hT hR hU => StepR.later T1 (StepR.mk hd (hF.more fun _ h => .inl h) (touch_own hT h.prog.own) ((hR.more fun _ h => .inl h).same fun _ _ _ => rfl) ((rb_own h.ref.own hU).trans (Touch.drewN _ _)) h.inv h.alike HREL.out.2.2 (by rw [list_st]; exact start_next _ h.ok hc) h.len)
  have HPO := Lib.hid h.prog.own
  clear h hc T1 hd hw1 hbox hn hdd
  go_enter Tryz.func9, Tryz.ntmps9
  go_wp2_with (rw [← HW1.out]; first
    | (go_at_call 32; refine (CW.out).mono ?_; rintro e w2 ⟨u, rfl, hr, hF, hT⟩; rw [HN1.out]; rw [HD1.out] at hr; have hbx2 := (hT.block _ (Array.getElem?_eq_some_iff.1 HBX.out).1 (fun e => HNP.out.1 (by rw [e]; exact HPO.out))).trans HBX.out; have k1' : w2.cell? ⟨w.heap.size, 1, none⟩ = some (str p) := cell_of_row _ _ 1 _ _ _ hbx2; have HR2 := Lib.hid hr; have HF := Lib.hid hF; have HT := Lib.hid hT; clear hF hT hbx2 hr))
  go_wp2_with (first
    | (go_at_call 41; refine (refList_any (HD.out.refAfter (touch_own HT.out HPO.out)) HD.out.good (HD.out.rok HC.out) p).mono ?_; rintro e w3 ⟨u2, rfl, hr, hR, hU⟩; rw [HN2.out]; rw [HD2.out] at hr; have HRR := Lib.hid hr; have HR1 := Lib.hid (own_touch (HD.out.refAfter (touch_own HT.out HPO.out)) HR2.out (by decide) hU); have HR := Lib.hid hR; have HU := Lib.hid hU; clear hR hU hr)
    | (go_at_call 42; refine (texts_same _ _ _ _ _ d HR1.out HRR.out hdl).mono ?_; rintro e w4 ⟨rfl, m, rfl⟩))
  go_ret2
  exact ⟨b, rfl, HSR.out _ _ _ HF.out HT.out HR.out HU.out⟩

set_option maxRecDepth 100000 in
set_option maxHeartbeats 4000000 in
theorem step_7 (h : Both w FP FR b bm rb es s v fs r) (hc : s.calls ≤ 4000000000000000000) (p q c : List UInt8) (A9 : Option Addr) (cap9 : Nat) (k i j : Int) :
    Calls Tryz.prog 9 #[.pointer (some ⟨b, 0, none⟩), .pointer (some ⟨rb, 0, none⟩), .agg #[.int .i64 7, str p, str q, .slice A9 c.length cap9, .int .i64 k, .int .i64 i, .int .i64 j]] w (StepPost w FP FR rb s) := by
  obtain ⟨w1, hw1⟩ : ∃ w1, w1 = w.alloc (.cells #[.int .i64 7, str p, str q, .slice A9 c.length cap9, .int .i64 k, .int .i64 i, .int .i64 j] 32) := ⟨_, rfl⟩
  have hbox : w1.heap[w.heap.size]? = some (.cells #[.int .i64 7, str p, str q, .slice A9 c.length cap9, .int .i64 k, .int .i64 i, .int .i64 j] 32 (0, 0)) := by rw [hw1]; exact World.alloc_heap_new w _
  have T1 : Touch (fun k => FP k ∨ FR k) w w1 := by rw [hw1]; exact Touch.alloc _ _ _
  have hd : Both w1 FP FR b bm rb es s v fs r := by rw [hw1]; exact h.below ((Below.refl _ _).alloc (Nat.le_refl _) _)
  have CW := Lib.hid (restart_any w1 FP b bm es s hd.prog)
  have HD := Lib.hid hd
  have HT1 := Lib.hid T1
  have HW1 := Lib.hid hw1
  have HC := Lib.hid hc
  have HNP : Hid (¬ FP w.heap.size ∧ ¬ FR w.heap.size) := Lib.hid ⟨fun e => by have := h.tightP _ e; omega, fun e => by have := h.tightR _ e; omega⟩
  have HBX := Lib.hid hbox
  have hB9 : (Value.slice A9 c.length cap9).oneCell' = true := rfl
  have HREL := Lib.hid (restart_rel h.rel)
  obtain ⟨n, hn⟩ : ∃ n, (restartP s).1 = n := ⟨_, rfl⟩
  have HN1 := Lib.hid hn
  have HN2 := Lib.hid (HREL.out.1.trans hn)
  have HSR : Hid (∀ w2 w3, FsAt w2 FP b bm es (restartP s).2 → Touch FP w1 w2 → RefV w3 FR rb v fs (restartR r).2 → Touch (fun k => k = rb) w2 w3 → StepR w FP FR rb s b w3) := Lib.hid fun w2 w3 hF hT hR hU => StepR.later T1 (StepR.mk hd (hF.more fun _ h => .inl h) hT (hR.more fun _ h => .inl h) (rb_own h.ref.own hU) h.inv h.alike HREL.out.2 (one_next (o := ⟨7, [], [], .slice none 0 0, [], 0, 0, 0⟩) (es := es) (es' := es) (r := (restartP s).1) (by simp [OneRes]) h.ok hc ⟨by simp, by simp⟩) h.len)
  clear h hc T1 hd hw1 hbox hn
  go_enter Tryz.func9, Tryz.ntmps9
  go_wp2_with (first
    | (rw [← HW1.out]; go_at_call 45; refine (CW.out).mono ?_; rintro e w2 ⟨rfl, hF, hT⟩; rw [HN1.out]; have HF := Lib.hid hF; have HT := Lib.hid hT; clear hF hT)
    | (go_at_call 46; refine (refRestart_any (HD.out.refAfter HT.out)).mono ?_; rintro e w3 ⟨rfl, hR, hU⟩; rw [HN2.out]; have HR := Lib.hid hR; have HU := Lib.hid hU; clear hR hU))
  go_ret2
  exact ⟨b, rfl, HSR.out _ _ HF.out HT.out HR.out HU.out⟩

set_option maxRecDepth 100000 in
set_option maxHeartbeats 4000000 in
theorem step_8 (h : Both w FP FR b bm rb es s v fs r) (hc : s.calls ≤ 4000000000000000000) (p q c : List UInt8) (A9 : Option Addr) (cap9 : Nat) (k i j : Int) :
    Calls Tryz.prog 9 #[.pointer (some ⟨b, 0, none⟩), .pointer (some ⟨rb, 0, none⟩), .agg #[.int .i64 8, str p, str q, .slice A9 c.length cap9, .int .i64 k, .int .i64 i, .int .i64 j]] w (StepPost w FP FR rb s) := by
  obtain ⟨w1, hw1⟩ : ∃ w1, w1 = w.alloc (.cells #[.int .i64 8, str p, str q, .slice A9 c.length cap9, .int .i64 k, .int .i64 i, .int .i64 j] 32) := ⟨_, rfl⟩
  have hbox : w1.heap[w.heap.size]? = some (.cells #[.int .i64 8, str p, str q, .slice A9 c.length cap9, .int .i64 k, .int .i64 i, .int .i64 j] 32 (0, 0)) := by rw [hw1]; exact World.alloc_heap_new w _
  have T1 : Touch (fun k => FP k ∨ FR k) w w1 := by rw [hw1]; exact Touch.alloc _ _ _
  have hd : Both w1 FP FR b bm rb es s v fs r := by rw [hw1]; exact h.below ((Below.refl _ _).alloc (Nat.le_refl _) _)
  have CW := Lib.hid (is_any w1 FP b bm es s p hd.prog)
  have HD := Lib.hid hd
  have HT1 := Lib.hid T1
  have HW1 := Lib.hid hw1
  have HC := Lib.hid hc
  have HNP : Hid (¬ FP w.heap.size ∧ ¬ FR w.heap.size) := Lib.hid ⟨fun e => by have := h.tightP _ e; omega, fun e => by have := h.tightR _ e; omega⟩
  have HBX := Lib.hid hbox
  have hB9 : (Value.slice A9 c.length cap9).oneCell' = true := rfl
  have HREL := Lib.hid (is_rel h.inv h.alike p)
  have HSR : Hid (∀ w2, Below w1.heap.size w1 w2 → StepR w FP FR rb s b w2) := Lib.hid fun w2 hb => StepR.later T1 (StepR.mk hd ((hd.prog.below hb).more fun _ h => .inl h) (Touch.of_below hb) ((hd.ref.below hb).more fun _ h => .inl h) (Touch.refl _ _) h.inv h.alike h.rel (next_refl h.ok) h.len)
  obtain ⟨q1, hq1⟩ : ∃ q1, (isP es p).1 = q1 := ⟨_, rfl⟩
  obtain ⟨q2, hq2⟩ : ∃ q2, (isP es p).2 = q2 := ⟨_, rfl⟩
  have HQ1 := Lib.hid hq1
  have HQ2 := Lib.hid hq2
  clear h hc T1 hd hw1 hbox hq1 hq2
  go_enter Tryz.func9, Tryz.ntmps9
  have e1 : (q1 == q1) = true := by simp
  have e2 : (q2 == q2) = true := by simp
  have CR : Hid (∀ W, RefV W FR rb v fs r → Calls Tryz.prog 48 #[.pointer (some ⟨rb, 0, none⟩), str p] W fun e w' => e = .returned (.tuple #[.bool q1, .bool q2]) ∧ W = w') := Lib.hid fun W hW => by
    have := refIs_all hW p
    rwa [HREL.out, HQ1.out, HQ2.out] at this
  have CW := CW.out
  rw [HQ1.out, HQ2.out] at CW
  have CW := Lib.hid CW
  go_wp2_with (first
    | (rw [← HW1.out]; go_at_call 47; refine (CW.out).mono ?_; rintro e w2 ⟨rfl, hb⟩; have hbx2 := (hb.block _ (Array.getElem?_eq_some_iff.1 HBX.out).1).trans HBX.out; have k1' : w2.cell? ⟨w.heap.size, 1, none⟩ = some (str p) := cell_of_row _ _ 1 _ _ _ hbx2; have HB := Lib.hid hb; clear hb hbx2)
    | (go_at_call 48; refine (CR.out _ (HD.out.ref.below HB.out)).mono ?_; rintro e w3 ⟨rfl, rfl⟩))
  go_ret2
  exact ⟨b, rfl, HSR.out _ HB.out⟩

set_option maxRecDepth 100000 in
set_option maxHeartbeats 4000000 in
theorem step_9 (h : Both w FP FR b bm rb es s v fs r) (hc : s.calls ≤ 1000000000000000) (p q c : List UInt8) (A9 : Option Addr) (cap9 : Nat) (k i j : Int) (hv : ∀ W, Touch (fun k => FP k ∨ FR k) w W → Reads W (.slice A9 c.length cap9) c) (hcl : c.length ≤ 140737488355328) :
    Calls Tryz.prog 9 #[.pointer (some ⟨b, 0, none⟩), .pointer (some ⟨rb, 0, none⟩), .agg #[.int .i64 9, str p, str q, .slice A9 c.length cap9, .int .i64 k, .int .i64 i, .int .i64 j]] w (StepPost w FP FR rb s) := by
  obtain ⟨w1, hw1⟩ : ∃ w1, w1 = w.alloc (.cells #[.int .i64 9, str p, str q, .slice A9 c.length cap9, .int .i64 k, .int .i64 i, .int .i64 j] 32) := ⟨_, rfl⟩
  have hbox : w1.heap[w.heap.size]? = some (.cells #[.int .i64 9, str p, str q, .slice A9 c.length cap9, .int .i64 k, .int .i64 i, .int .i64 j] 32 (0, 0)) := by rw [hw1]; exact World.alloc_heap_new w _
  have T1 : Touch (fun k => FP k ∨ FR k) w w1 := by rw [hw1]; exact Touch.alloc _ _ _
  have hs1 : w1.heap.size = w.heap.size + 1 := by rw [hw1]; simp
  have hd : Both w1 FP FR b bm rb es s v fs r := by rw [hw1]; exact h.below ((Below.refl _ _).alloc (Nat.le_refl _) _)
  have CW := Lib.hid (clone_fs w1 FP b bm es s hd.prog (by have := hd.len; omega))
  have HD := Lib.hid hd
  have HT1 := Lib.hid T1
  have HW1 := Lib.hid hw1
  have HC := Lib.hid hc
  have HV := Lib.hid hv
  have HS1 := Lib.hid hs1
  have HTP := Lib.hid h.tightP
  have HTR := Lib.hid h.tightR
  have HBX := Lib.hid hbox
  have hB9 : (Value.slice A9 c.length cap9).oneCell' = true := rfl
  clear h hc hv T1 hd hw1 hbox hs1
  go_enter Tryz.func9, Tryz.ntmps9
  go_wp2_with (rw [← HW1.out]; go_at_call 49; refine (CW.out).mono ?_; rintro e w2 ⟨b', bm', es', rfl, hF, hS, hl, hb⟩; have hbx2 := (hb.block _ (Array.getElem?_eq_some_iff.1 HBX.out).1).trans HBX.out; have k1' : w2.cell? ⟨w.heap.size, 1, none⟩ = some (str p) := cell_of_row _ _ 1 _ _ _ hbx2; have k3' : w2.cell? ⟨w.heap.size, 3, none⟩ = some (.slice A9 c.length cap9) := cell_of_row _ _ 3 _ _ _ hbx2; have HB2 := Lib.hid hbx2; have HF := Lib.hid hF.tight; have HS := Lib.hid hS; have HL := Lib.hid hl; have HB := Lib.hid hb; clear hF hS hl hb hbx2)
  have CWR := Lib.hid (write_any w2 FP b bm es s p c _ (HD.out.prog.below HB.out) HD.out.ok (by have := HC.out; omega) (fun W hW => HV.out W ((HT1.out.trans (Touch.of_below HB.out)).trans (hW.mono fun _ _ h => .inl h))) hcl HD.out.len)
  have hst2 := count_next (s := s) (goodP p) HD.out.ok (by have := HC.out; omega)
  rw [← put_st es s p c false] at hst2
  have HST2 := Lib.hid hst2
  clear hst2
  go_wp2_with (first
    | (go_at_call 30; refine (CWR.out).mono ?_; rintro e w3 ⟨es2, rfl, hF3, hT3, hP3⟩; have hbx3 := (hT3.block _ (Array.getElem?_eq_some_iff.1 HB2.out).1 (fun e => by have := HTP.out _ e; omega)).trans HB2.out; have k2' : w3.cell? ⟨w.heap.size, 2, none⟩ = some (str q) := cell_of_row _ _ 2 _ _ _ hbx3; have HF3 := Lib.hid hF3; have HT3 := Lib.hid hT3; clear hF3 hT3 hP3 hbx3)
    | (go_at_call 39; refine (remove_any _ _ b bm es2 _ q HF3.out HST2.out.1 (by have h1 := HST2.out.2; have h2 := HC.out; omega)).mono ?_; rintro e w4 ⟨rfl, hF4, hT4⟩; have HT4 := Lib.hid hT4; clear hF4 hT4))
  go_ret2
  have hal : Alike es' es := same_alike HD.out.prog.rising HF.out.rising HS.out
  have hsz := HB.out.size
  have hsz3 := HT3.out.size
  have hs1 := HS1.out
  have f3 := HF.out.same (w' := w3) fun k hk hFk => HT3.out.block k hk fun e => by have := HTP.out _ e; have := hFk.1; omega
  have f4 := f3.same (w' := w4) fun k hk hFk => HT4.out.block k hk fun e => by
    rcases e with e | e
    · have := HTP.out _ e; have := hFk.1; omega
    · have := hFk.2; omega
  have r2 := HD.out.ref.below HB.out
  have r3 := r2.same (w' := w3) fun k hk hr => HT3.out.block k hk fun e => HD.out.apart k e hr
  have r4 := r3.same (w' := w4) fun k hk hr => HT4.out.block k hk fun e => by
    rcases e with e | e
    · exact HD.out.apart k e hr
    · have := HTR.out _ hr; omega
  refine ⟨b', rfl, fun k => w1.heap.size ≤ k ∧ k < w2.heap.size, FR, bm', es', s, v, fs, r, ⟨f4, r4, fun k h1 h2 => by have := HTR.out _ h2; have := h1.1; omega, fun k hk => by have := hk.2; have := HT4.out.size; omega, fun k hk => by have := HTR.out _ hk; have := HT4.out.size; omega, Alike.inv (es := es) (Eq.symm hal) HD.out.inv, Eq.trans hal HD.out.alike, HD.out.rel, HD.out.ok, Nat.le_trans HL.out HD.out.len⟩, next_refl HD.out.ok, ?_, fun k hk => .inr (by have := hk.1; omega), fun k hk => .inl hk⟩
  have t1 : Touch (fun k => FP k ∨ FR k) w w3 := (HT1.out.trans (Touch.of_below HB.out)).trans (HT3.out.mono fun _ _ h => .inl h)
  exact touch_join t1 (HT4.out.mono fun j _ hj => by
    rcases hj with hj | hj
    · exact .inl (.inl hj)
    · exact .inr (by omega))

set_option maxRecDepth 100000 in
set_option maxHeartbeats 4000000 in
theorem step_else (h : Both w FP FR b bm rb es s v fs r) (d : Int) (p q c : List UInt8) (A9 : Option Addr) (cap9 : Nat) (k i j : Int) (h0 : d ≠ 0) (h1 : d ≠ 1) (h2 : d ≠ 2) (h3 : d ≠ 3) (h4 : d ≠ 4) (h5 : d ≠ 5) (h6 : d ≠ 6) (h7 : d ≠ 7) (h8 : d ≠ 8) (h9 : d ≠ 9) :
    Calls Tryz.prog 9 #[.pointer (some ⟨b, 0, none⟩), .pointer (some ⟨rb, 0, none⟩), .agg #[.int .i64 d, str p, str q, .slice A9 c.length cap9, .int .i64 k, .int .i64 i, .int .i64 j]] w (StepPost w FP FR rb s) := by
  have hB9 : (Value.slice A9 c.length cap9).oneCell' = true := rfl
  have HSR : Hid (StepR w FP FR rb s b (w.alloc (.cells #[.int .i64 d, str p, str q, .slice A9 c.length cap9, .int .i64 k, .int .i64 i, .int .i64 j] 32))) := Lib.hid (by
    have hd := h.below ((Below.refl _ _).alloc (Nat.le_refl _) (.cells #[.int .i64 d, str p, str q, .slice A9 c.length cap9, .int .i64 k, .int .i64 i, .int .i64 j] 32))
    exact ⟨FP, FR, bm, es, s, v, fs, r, hd, next_refl h.ok, Touch.alloc _ _ _, fun k hk => .inl hk, fun k hk => .inl hk⟩)
  have q0 : (d == 0) = false := by simpa using h0
  have q1 : (d == 1) = false := by simpa using h1
  have q2 : (d == 2) = false := by simpa using h2
  have q3 : (d == 3) = false := by simpa using h3
  have q4 : (d == 4) = false := by simpa using h4
  have q5 : (d == 5) = false := by simpa using h5
  have q6 : (d == 6) = false := by simpa using h6
  have q7 : (d == 7) = false := by simpa using h7
  have q8 : (d == 8) = false := by simpa using h8
  have q9 : (d == 9) = false := by simpa using h9
  clear h0 h1 h2 h3 h4 h5 h6 h7 h8 h9
  clear h
  go_enter Tryz.func9, Tryz.ntmps9
  go_wp2_with fail
  go_ret2
  exact ⟨b, rfl, HSR.out⟩

theorem step_any (h : Both w FP FR b bm rb es s v fs r) (hc : s.calls ≤ 1000000000000000) (o : OpD) (hv : ∀ W, Touch (fun k => FP k ∨ FR k) w W → Reads W o.B o.c) (hcl : o.c.length ≤ 140737488355328) (hk : OpOk o) :
    Calls Tryz.prog 9 #[.pointer (some ⟨b, 0, none⟩), .pointer (some ⟨rb, 0, none⟩), o.val] w (StepPost w FP FR rb s) := by
  obtain ⟨d, p, q, B, c, k, i, j⟩ := o
  obtain ⟨A9, cap9, hB, _⟩ := hv w (Touch.refl _ _)
  simp only at hB hv hcl
  subst hB
  have hc' : s.calls ≤ 4000000000000000000 := by omega
  by_cases h0 : d = 0
  · subst h0
    exact step_0 h hc' p q c A9 cap9 k i j
  by_cases h1 : d = 1
  · subst h1
    exact step_1 h hc' p q c A9 cap9 k i j hv hcl
  by_cases h2 : d = 2
  · subst h2
    exact step_2 h hc' p q c A9 cap9 k i j hv hcl
  by_cases h3 : d = 3
  · subst h3
    exact step_3 h hc' p q c A9 cap9 k i j
  by_cases h4 : d = 4
  · subst h4
    exact step_4 h hc' p q c A9 cap9 k i j
  by_cases h5 : d = 5
  · subst h5
    exact step_5 h hc' p q c A9 cap9 k i j
  by_cases h6 : d = 6
  · subst h6
    exact step_6 h hc' p q c A9 cap9 k i j hk
  by_cases h7 : d = 7
  · subst h7
    exact step_7 h hc' p q c A9 cap9 k i j
  by_cases h8 : d = 8
  · subst h8
    exact step_8 h hc' p q c A9 cap9 k i j
  by_cases h9 : d = 9
  · subst h9
    exact step_9 h hc p q c A9 cap9 k i j hv hcl
  exact step_else h d p q c A9 cap9 k i j h0 h1 h2 h3 h4 h5 h6 h7 h8 h9

end

end Go.Proofs.YthpkfgjjaieikaaGreatDoor
