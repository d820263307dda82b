/-
  What the document's file system does with its numbers, and what it says of paths. Nothing is assumed.
-/
import Derived.Test.YthpkfgjjaieikaaGreatDoorFsRefA
namespace Go.Proofs.YthpkfgjjaieikaaGreatDoor
open Go.RowKit Go.Shelf Go.Lib Go.Maps

/-- the numbers within their bounds -/
def ROk (r : RSt) : Prop := 0 ≤ r.count ∧ r.count ≤ 9223372036854775807 ∧ 0 ≤ r.calls ∧ r.calls ≤ 4000000000000000000 ∧ 0 ≤ r.keep ∧ r.keep ≤ 9223372036854775807
theorem rel_ok {s : St} {r : RSt} (h : StRel s r) (ho : StOk s) (hc : s.calls ≤ 4000000000000000000) : ROk r := by
  obtain ⟨h1, h2, h3, h4, h5⟩ := h
  obtain ⟨o1, o2, o3, o4, o5, o6, o7, o8⟩ := ho
  refine ⟨by omega, by omega, by omega, by omega, by omega, by omega⟩
def RefPost (w : World) (FR : Nat → Prop) (rb : Nat) (v : Value) (fs : List Ent) (u : Value) (r' : RSt) (e : Ending) (w' : World) : Prop :=
  e = .returned u ∧ RefV w' FR rb v fs r' ∧ Touch (fun k => k = rb) w w'

section
variable {w : World} {FR : Nat → Prop} {rb : Nat} {v : Value} {fs : List Ent} {r : RSt}

theorem refCalls_any (h : RefV w FR rb v fs r) : Calls Tryz.prog 13 #[.pointer (some ⟨rb, 0, none⟩)] w fun e w' => e = .returned (.int .i64 r.calls) ∧ w = w' := by
  have c4 := h.cell4
  clear h
  go_enter Tryz.func13, Tryz.ntmps13
  go_wp2_with fail
  go_ret
  exact ⟨rfl, rfl⟩
theorem refDown_any (h : RefV w FR rb v fs r) : Calls Tryz.prog 11 #[.pointer (some ⟨rb, 0, none⟩)] w fun e w' => e = .returned (.bool r.down) ∧ w = w' := by
  have c5 := h.cell5
  clear h
  go_enter Tryz.func11, Tryz.ntmps11
  go_wp2_with fail
  go_ret
  exact ⟨rfl, rfl⟩

theorem touch_rb (w : World) (rb i : Nat) (u : Value) : Touch (fun k => k = rb) w (w.setCell ⟨rb, i, none⟩ u) := Touch.setCell w ⟨rb, i, none⟩ u rfl

set_option maxRecDepth 100000 in
set_option maxHeartbeats 2000000 in
theorem refCall_any (h : RefV w FR rb v fs r) (ho : ROk r) :
    Calls Tryz.prog 97 #[.pointer (some ⟨rb, 0, none⟩)] w (RefPost w FR rb v fs (.int .i64 (callR r).1) (callR r).2) := by
  obtain ⟨o1, o2, o3, o4, _, _⟩ := ho
  have c1 := h.cell1
  have c2 := h.cell2
  have c4 := h.cell4
  have f1 := h.frozen 1
  have f4 := h.frozen 4
  have HF := Lib.hid h
  clear h
  by_cases h0 : r.count = 0
  · have HP := Lib.hid (show callR r = (0, { r with calls := r.calls + 1 }) by rw [callR, if_pos h0])
    rw [h0] at c1
    clear h0 o1 o2 c2 f1
    go_enter Tryz.func97, Tryz.ntmps97
    go_wp2_with fail
    go_ret
    rw [HP.out]
    exact ⟨rfl, HF.out.set 4 _ rfl, touch_rb _ _ _ _⟩
  · have q0 : (r.count == 0) = false := by simpa using h0
    by_cases h1 : 0 < r.count - 1
    · have HP := Lib.hid (show callR r = (0, { r with calls := r.calls + 1, count := r.count - 1 }) by rw [callR, if_neg h0, if_pos h1])
      clear h0 c2
      go_enter Tryz.func97, Tryz.ntmps97
      go_wp2_with fail
      go_ret
      rw [HP.out]
      exact ⟨rfl, (HF.out.set 4 (.int .i64 (r.calls + 1)) (r' := { r with calls := r.calls + 1 }) rfl).set 1 _ rfl, (touch_rb _ _ _ _).trans (touch_rb _ _ _ _)⟩
    · have h2 : r.count = 1 := by omega
      have HP := Lib.hid (show callR r = (r.kind, { r with calls := r.calls + 1, count := 0 }) by rw [callR, if_neg h0, if_neg h1, h2]; rfl)
      rw [h2] at c1
      clear h0 h1 h2 q0 o1 o2
      go_enter Tryz.func97, Tryz.ntmps97
      go_wp2_with fail
      go_ret
      rw [HP.out]
      exact ⟨rfl, (HF.out.set 4 (.int .i64 (r.calls + 1)) (r' := { r with calls := r.calls + 1 }) rfl).set 1 _ rfl, (touch_rb _ _ _ _).trans (touch_rb _ _ _ _)⟩

set_option maxRecDepth 100000 in
theorem refGoes_any (h : RefV w FR rb v fs r) (k : Int) :
    Calls Tryz.prog 98 #[.pointer (some ⟨rb, 0, none⟩), .int .i64 k] w (RefPost w FR rb v fs (.int .i64 (goesR k r).1) (goesR k r).2) := by
  have c5 := h.cell5
  have f5 := h.frozen 5
  have HF := Lib.hid h
  clear h
  by_cases h1 : k = 1
  · subst h1
    go_enter Tryz.func98, Tryz.ntmps98
    go_wp2_with fail
    go_ret
    exact ⟨rfl, HF.out, Touch.refl _ _⟩
  · by_cases h2 : k = 2
    · subst h2
      go_enter Tryz.func98, Tryz.ntmps98
      go_wp2_with fail
      go_ret
      exact ⟨rfl, HF.out, Touch.refl _ _⟩
    · have q1 : (k == 1) = false := by simpa using h1
      have q2 : (k == 2) = false := by simpa using h2
      have HP := Lib.hid (show goesR k r = (22, { r with down := true }) by rw [goesR, if_neg h1, if_neg h2])
      clear h1 h2
      go_enter Tryz.func98, Tryz.ntmps98
      go_wp2_with fail
      go_ret
      rw [HP.out]
      exact ⟨rfl, HF.out.set 5 _ rfl, touch_rb _ _ _ _⟩

/-- what is wrong ahead of a call -/
def looksR (r : RSt) (ps : List (List UInt8)) : Int := if r.down then 22 else if ps.all goodP then 0 else 23
def LookI (ps : List (List UInt8)) (i : Value) : Prop := ∃ k : Nat, k ≤ ps.length ∧ i = .int .i64 k ∧ (ps.take k).all goodP = true
set_option maxRecDepth 100000 in
set_option maxHeartbeats 400000 in
theorem refLooks_any (h : RefV w FR rb v fs r) (g cap : Nat) (ps : List (List UInt8)) (hl : ps.length ≤ 100) (hc : ∀ k x, ps[k]? = some x → w.cell? ⟨g, k, none⟩ = some (str x)) :
    Calls Tryz.prog 96 #[.pointer (some ⟨rb, 0, none⟩), .slice (some ⟨g, 0, none⟩) ps.length cap] w fun e w' => e = .returned (.int .i64 (looksR r ps)) ∧ w = w' := by
  have c5 := h.cell5
  have HC := Lib.hid hc
  have HL := Lib.hid (show looksR r ps = if r.down then 22 else if ps.all goodP then 0 else 23 from rfl)
  clear h hc
  cases hd : r.down with
  | true =>
    have HD := Lib.hid hd
    rw [hd] at c5
    clear hd
    go_enter Tryz.func96, Tryz.ntmps96
    go_wp2_with fail
    go_ret
    exact ⟨ret_int (by rw [HL.out, HD.out]; rfl), rfl⟩
  | false =>
    have HD := Lib.hid hd
    rw [hd] at c5
    clear hd
    go_enter Tryz.func96, Tryz.ntmps96
    go_wp2_with fail
    go_loop [5] (fun i => LookI ps i) (fun i => ps.length - (intOf i).toNat)
    case atStart => exact ⟨0, Nat.zero_le _, rfl, rfl⟩
    case round =>
      obtain ⟨k, hk, rfl, hno⟩ := hrel
      have HNO := Lib.hid hno
      clear hno
      by_cases hlt : k < ps.length
      · have hx : ps[k]? = some ps[k] := List.getElem?_eq_getElem hlt
        generalize ps[k] = x at hx
        have cp := HC.out k x hx
        have CG := Lib.hid (refGood_any x w)
        have HX := Lib.hid hx
        clear hx
        cases hq : goodP x with
        | true =>
          have HQ := Lib.hid hq
          rw [hq] at CG
          clear hq
          go_wp2_with (go_at_call 106; refine (CG.out).mono ?_; rintro e w' ⟨rfl, rfl⟩)
          go_round
          case rel => exact ⟨k + 1, by omega, by go_num, by rw [List.take_add_one, HX.out, List.all_append, HNO.out]; simp [HQ.out]⟩
          case measure => simp [intOf]; omega
        | false =>
          have HQ := Lib.hid hq
          rw [hq] at CG
          clear hq
          go_wp2_with (go_at_call 106; refine (CG.out).mono ?_; rintro e w' ⟨rfl, rfl⟩)
          go_ret
          refine ⟨ret_int ?_, rfl⟩
          have : ps.all goodP = false := by
            rw [List.all_eq_false]
            exact ⟨x, List.mem_of_getElem? HX.out, by rw [HQ.out]; simp⟩
          rw [HL.out, HD.out, this]
          rfl
      · have hge : ps.length ≤ k := by omega
        go_wp2_with fail
        go_ret
        refine ⟨ret_int ?_, rfl⟩
        have := HNO.out
        rw [List.take_of_length_le hge] at this
        rw [HL.out, HD.out, this]
        rfl

set_option maxRecDepth 100000 in
set_option maxHeartbeats 2000000 in
theorem refIs_any (h : RefV w FR rb v fs r) (p : List UInt8) (hp : p.length ≤ maxLen) :
    Calls Tryz.prog 48 #[.pointer (some ⟨rb, 0, none⟩), str p] w fun e w' => e = .returned (.tuple #[.bool (isR fs p).1, .bool (isR fs p).2]) ∧ w = w' := by
  have CD := Lib.hid (refDir_any h p hp)
  have CF := Lib.hid (refFind_any h p)
  have CG := Lib.hid (refGood_any p w)
  have hneg := findR_neg fs p
  have hI1 : (isR fs p).1 = (findE fs p).isSome := rfl
  have hI2 : (isR fs p).2 = ((p == [47] || goodP p) && dirR fs p) := rfl
  clear h hp
  have hge : decide (0 ≤ findR fs p) = (findE fs p).isSome := by
    have : decide (0 ≤ findR fs p) = !decide (findR fs p < 0) := by
      by_cases hh : findR fs p < 0
      · rw [decide_eq_true hh, decide_eq_false (by omega)]; rfl
      · rw [decide_eq_false hh, decide_eq_true (by omega)]; rfl
    rw [this, hneg, Bool.not_not]
  clear hneg
  generalize findR fs p = n at CF hge
  generalize (findE fs p).isSome = fd at hge hI1
  have HI1 := Lib.hid hI1
  have HI2 := Lib.hid hI2
  have HGE := Lib.hid hge
  clear hI1 hI2 hge
  cases hr : p == [47] with
  | true =>
    go_enter Tryz.func48, Tryz.ntmps48
    go_wp2_with (first | (go_at_call 107; refine (CD.out).mono ?_; rintro e w' ⟨rfl, rfl⟩) | (go_at_call 100; refine (CF.out).mono ?_; rintro e w' ⟨rfl, rfl⟩) | (go_at_call 106; refine (CG.out).mono ?_; rintro e w' ⟨rfl, rfl⟩))
    go_ret2
    exact ⟨by rw [HI1.out, HI2.out, hr, ← HGE.out]; rfl, rfl⟩
  | false =>
    cases hg : goodP p with
    | true =>
      rw [hg] at CG
      have HG := Lib.hid hg
      clear hg
      go_enter Tryz.func48, Tryz.ntmps48
      go_wp2_with (first | (go_at_call 107; refine (CD.out).mono ?_; rintro e w' ⟨rfl, rfl⟩) | (go_at_call 100; refine (CF.out).mono ?_; rintro e w' ⟨rfl, rfl⟩) | (go_at_call 106; refine (CG.out).mono ?_; rintro e w' ⟨rfl, rfl⟩))
      go_ret2
      exact ⟨by rw [HI1.out, HI2.out, hr, HG.out, ← HGE.out]; rfl, rfl⟩
    | false =>
      rw [hg] at CG
      have HG := Lib.hid hg
      clear hg
      go_enter Tryz.func48, Tryz.ntmps48
      go_wp2_with (first | (go_at_call 107; refine (CD.out).mono ?_; rintro e w' ⟨rfl, rfl⟩) | (go_at_call 100; refine (CF.out).mono ?_; rintro e w' ⟨rfl, rfl⟩) | (go_at_call 106; refine (CG.out).mono ?_; rintro e w' ⟨rfl, rfl⟩))
      go_ret2
      exact ⟨by rw [HI1.out, HI2.out, hr, HG.out, ← HGE.out]; rfl, rfl⟩

set_option maxRecDepth 100000 in
set_option maxHeartbeats 2000000 in
theorem refSet_any (h : RefV w FR rb v fs r) (k i j : Int) :
    Calls Tryz.prog 44 #[.pointer (some ⟨rb, 0, none⟩), .int .i64 k, .int .i64 i, .int .i64 j] w (RefPost w FR rb v fs (.int .i64 (setR r k i j).1) (setR r k i j).2) := by
  have c1 := h.cell1
  have c2 := h.cell2
  have c3 := h.cell3
  have c5 := h.cell5
  have f1 := h.frozen 1
  have f2 := h.frozen 2
  have f3 := h.frozen 3
  have HF := Lib.hid h
  have HS := Lib.hid (show setR r k i j = if k < 0 ∨ i < 0 ∨ 3 < i ∨ j < 0 then (1, r) else if r.down then (22, r) else (0, { r with count := if i = 0 then 0 else k, kind := i, keep := j }) from rfl)
  clear h
  by_cases hk : k < 0
  · go_enter Tryz.func44, Tryz.ntmps44
    go_wp2_with fail
    go_ret
    rw [HS.out, if_pos (.inl hk)]
    exact ⟨rfl, HF.out, Touch.refl _ _⟩
  by_cases hi : i < 0
  · go_enter Tryz.func44, Tryz.ntmps44
    go_wp2_with fail
    go_ret
    rw [HS.out, if_pos (.inr (.inl hi))]
    exact ⟨rfl, HF.out, Touch.refl _ _⟩
  by_cases hi3 : 3 < i
  · go_enter Tryz.func44, Tryz.ntmps44
    go_wp2_with fail
    go_ret
    rw [HS.out, if_pos (.inr (.inr (.inl hi3)))]
    exact ⟨rfl, HF.out, Touch.refl _ _⟩
  by_cases hj : j < 0
  · go_enter Tryz.func44, Tryz.ntmps44
    go_wp2_with fail
    go_ret
    rw [HS.out, if_pos (.inr (.inr (.inr hj)))]
    exact ⟨rfl, HF.out, Touch.refl _ _⟩
  have hno : ¬ (k < 0 ∨ i < 0 ∨ 3 < i ∨ j < 0) := by omega
  have HNO := Lib.hid hno
  clear hno
  cases hd : r.down with
  | true =>
    have HD := Lib.hid hd
    rw [hd] at c5
    clear hd
    go_enter Tryz.func44, Tryz.ntmps44
    go_wp2_with fail
    go_ret
    rw [HS.out, if_neg HNO.out, if_pos HD.out]
    exact ⟨rfl, HF.out, Touch.refl _ _⟩
  | false =>
    have HD := Lib.hid hd
    rw [hd] at c5
    clear hd
    by_cases h0 : i = 0
    · subst h0
      go_enter Tryz.func44, Tryz.ntmps44
      go_wp2_with fail
      go_ret
      rw [HS.out, if_neg HNO.out, if_neg (by rw [HD.out]; simp)]
      refine ⟨rfl, ?_, ?_⟩
      · exact (((HF.out.set 1 (.int .i64 k) (r' := { r with count := k }) rfl).set 1 (.int .i64 0) (r' := { r with count := 0 }) rfl).set 2 (.int .i64 0) (r' := { r with count := 0, kind := 0 }) rfl).set 3 (.int .i64 j) rfl
      · exact (((touch_rb _ _ _ _).trans (touch_rb _ _ _ _)).trans (touch_rb _ _ _ _)).trans (touch_rb _ _ _ _)
    · have q0 : (i == 0) = false := by simpa using h0
      have H0 := Lib.hid h0
      clear h0
      go_enter Tryz.func44, Tryz.ntmps44
      go_wp2_with fail
      go_ret
      rw [HS.out, if_neg HNO.out, if_neg (by rw [HD.out]; simp), if_neg H0.out]
      refine ⟨rfl, ?_, ?_⟩
      · exact ((HF.out.set 1 (.int .i64 k) (r' := { r with count := k }) rfl).set 2 (.int .i64 i) (r' := { r with count := k, kind := i }) rfl).set 3 (.int .i64 j) rfl
      · exact ((touch_rb _ _ _ _).trans (touch_rb _ _ _ _)).trans (touch_rb _ _ _ _)

set_option maxRecDepth 100000 in
theorem refRestart_any (h : RefV w FR rb v fs r) :
    Calls Tryz.prog 46 #[.pointer (some ⟨rb, 0, none⟩)] w (RefPost w FR rb v fs (.int .i64 (restartR r).1) (restartR r).2) := by
  have c5 := h.cell5
  have f5 := h.frozen 5
  have HF := Lib.hid h
  have HS := Lib.hid (show restartR r = if r.down then (0, { r with down := false }) else (1, r) from rfl)
  clear h
  cases hd : r.down with
  | true =>
    have HD := Lib.hid hd
    rw [hd] at c5
    clear hd
    go_enter Tryz.func46, Tryz.ntmps46
    go_wp2_with fail
    go_ret
    rw [HS.out, if_pos HD.out]
    exact ⟨rfl, HF.out.set 5 _ rfl, touch_rb _ _ _ _⟩
  | false =>
    have HD := Lib.hid hd
    rw [hd] at c5
    clear hd
    go_enter Tryz.func46, Tryz.ntmps46
    go_wp2_with fail
    go_ret
    rw [HS.out, if_neg (by rw [HD.out]; simp)]
    exact ⟨rfl, HF.out, Touch.refl _ _⟩
end

end Go.Proofs.YthpkfgjjaieikaaGreatDoor
