/-
  What one operation of a script does to a file system, for every file system and every operation.
-/
import Derived.Test.YthpkfgjjaieikaaDoorFsClone
import Derived.Test.YthpkfgjjaieikaaDoorFsOp
namespace Go.Proofs.YthpkfgjjaieikaaDoor
open Go.RowKit Go.Shelf Go.Lib Go.Maps

/-- an operation of a script -/
structure OpD where
  d : Int
  p : List UInt8
  q : List UInt8
  B : Value
  c : List UInt8
  k : Int
  i : Int
  j : Int
abbrev OpD.val (o : OpD) : Value := .agg #[.int .i64 o.d, str o.p, str o.q, o.B, .int .i64 o.k, .int .i64 o.i, .int .i64 o.j]
/-- what it does: the answer, the files, what is left -/
def OneRes (es : List Ent) (s : St) (o : OpD) (r : Int) (es' : List Ent) (s' : St) : Prop :=
  if o.d = 0 then r = (readP es s o.p).2.1 ∧ es' = es ∧ s' = (readP es s o.p).2.2
  else if o.d = 1 then r = (putP es s o.p o.c false).1 ∧ s' = (putP es s o.p o.c false).2.2 ∧ PutEs es o.p (putP es s o.p o.c false).2.1 es'
  else if o.d = 2 then r = (putP es s o.p o.c true).1 ∧ s' = (putP es s o.p o.c true).2.2 ∧ PutEs es o.p (putP es s o.p o.c true).2.1 es'
  else if o.d = 3 then (r, es', s') = renameP es s o.p o.q
  else if o.d = 4 then (r, es', s') = removeP es s o.p
  else if o.d = 5 then r = (listP es s o.p).2.1 ∧ es' = es ∧ s' = (listP es s o.p).2.2
  else if o.d = 6 then r = (setP s o.k o.i o.j).1 ∧ es' = es ∧ s' = (setP s o.k o.i o.j).2
  else if o.d = 7 then r = (restartP s).1 ∧ es' = es ∧ s' = (restartP s).2
  else r = 0 ∧ es' = es ∧ s' = s
def OnePost (w : World) (FP : Nat → Prop) (b bm : Nat) (es : List Ent) (s : St) (o : OpD) (e : Ending) (w' : World) : Prop :=
  ∃ r es' s', e = .returned (.int .i64 r) ∧ FsAt w' (fun k => FP k ∨ w.heap.size ≤ k) b bm es' s' ∧ Touch FP w w' ∧ OneRes es s o r es' s'

set_option maxRecDepth 100000 in
set_option maxHeartbeats 2000000 in
theorem one_any (w : World) (FP : Nat → Prop) (b bm : Nat) (es : List Ent) (s : St) (o : OpD) (h : FsAt w FP b bm es s) (ho : StOk s) (hc : s.calls ≤ 4000000000000000000) (hv : ∀ W, Touch FP w W → Reads W o.B o.c) (hl : o.c.length ≤ 140737488355328) (hes : es.length ≤ 4096) :
    Calls Tryd.prog 19 #[.pointer (some ⟨b, 0, none⟩), o.val] w (OnePost w FP b bm es s o) := by
  obtain ⟨d, p, q, B, c, k, i, j⟩ := o
  obtain ⟨A, cap, hB, _⟩ := hv w (Touch.refl _ _)
  simp only at hB hv hl
  subst hB
  obtain ⟨w1, hw1⟩ : ∃ w1, w1 = w.alloc (.cells #[.int .i64 d, str p, str q, .slice A c.length cap, .int .i64 k, .int .i64 i, .int .i64 j] 43) := ⟨_, rfl⟩
  have hA : Touch FP w w1 := by rw [hw1]; exact Touch.alloc _ _ _
  have h1 : FsAt w1 FP b bm es s := by rw [hw1]; exact h.alloc _
  have hv1 : ∀ W, Touch FP w1 W → Reads W (.slice A c.length cap) c := fun W hW => hv W (hA.trans hW)
  have CR := Lib.hid (read_any w1 FP b bm es s p h1 ho hc)
  have CW := Lib.hid (write_any w1 FP b bm es s p c _ h1 ho hc hv1 hl hes)
  have CA := Lib.hid (append_any w1 FP b bm es s p c _ h1 ho hc hv1 hl hes)
  have CN := Lib.hid (rename_any w1 FP b bm es s p q h1 ho hc (by omega))
  have CD := Lib.hid (remove_any w1 FP b bm es s p h1 ho hc)
  have CL := Lib.hid (list_any w1 FP b bm es s p h1 ho hc (by omega))
  have CF := Lib.hid (setFault_any w1 FP b bm es s k i j h1)
  have CT := Lib.hid (restart_any w1 FP b bm es s h1)
  have HA := Lib.hid hA
  have HF := Lib.hid h1
  have HS := Lib.hid hA.size
  have HO := Lib.hid h1.own
  have HM : Hid (∀ (W : World) (FP' : Nat → Prop) (bm' : Nat) (es' : List Ent) (s' : St), FsAt W FP' b bm' es' s' → (∀ k, FP' k → FP k ∨ w1.heap.size ≤ k) → FsAt W (fun k => FP k ∨ w.heap.size ≤ k) b bm' es' s') :=
    Lib.hid (fun _ _ _ _ _ h hP => h.more fun k hk => (hP k hk).imp id (Nat.le_trans HS.out))
  clear h ho hc hv hl hes hA h1 hv1
  have HW1 := Lib.hid hw1
  by_cases h0 : d = 0
  · subst h0
    clear CW CA CN CD CL CF CT HW1
    have hB : (Value.slice A c.length cap).oneCell' = true := rfl
    go_enter Tryd.func19, Tryd.ntmps19
    go_wp2_with (rw [← hw1]; go_at_call 23; refine (CR.out).mono ?_; rintro e w' ⟨v, rfl, hr, hF, hT⟩; have Gr := Lib.hid hr; have GF := Lib.hid hF; have GT := Lib.hid hT; clear hr hF hT)
    go_ret
    refine ⟨_, es, _, rfl, HM.out _ _ _ _ _ GF.out (fun _ h => .inl h), HA.out.trans (touch_own GT.out HO.out), ?_⟩
    simp [OneRes]
  by_cases h1 : d = 1
  · subst h1
    clear CR CA CN CD CL CF CT HW1
    have hB : (Value.slice A c.length cap).oneCell' = true := rfl
    go_enter Tryd.func19, Tryd.ntmps19
    go_wp2_with (rw [← hw1]; go_at_call 22; refine (CW.out).mono ?_; rintro e w' ⟨es', rfl, hF, hT, hP⟩; have GF := Lib.hid hF; have GT := Lib.hid hT; have GP := Lib.hid hP; clear hF hT hP)
    go_ret
    refine ⟨_, es', _, rfl, HM.out _ _ _ _ _ GF.out (fun _ h => h), HA.out.trans GT.out, ?_⟩
    simpa [OneRes] using GP.out
  by_cases h2 : d = 2
  · subst h2
    clear CR CW CN CD CL CF CT HW1
    have hB : (Value.slice A c.length cap).oneCell' = true := rfl
    go_enter Tryd.func19, Tryd.ntmps19
    go_wp2_with (rw [← hw1]; go_at_call 25; refine (CA.out).mono ?_; rintro e w' ⟨es', rfl, hF, hT, hP⟩; have GF := Lib.hid hF; have GT := Lib.hid hT; have GP := Lib.hid hP; clear hF hT hP)
    go_ret
    refine ⟨_, es', _, rfl, HM.out _ _ _ _ _ GF.out (fun _ h => h), HA.out.trans GT.out, ?_⟩
    simpa [OneRes] using GP.out
  by_cases h3 : d = 3
  · subst h3
    clear CR CW CA CD CL CF CT HW1
    have hB : (Value.slice A c.length cap).oneCell' = true := rfl
    go_enter Tryd.func19, Tryd.ntmps19
    go_wp2_with (rw [← hw1]; go_at_call 26; refine (CN.out).mono ?_; rintro e w' ⟨rfl, hF, hT⟩; have GF := Lib.hid hF; have GT := Lib.hid hT; clear hF hT)
    go_ret
    refine ⟨_, _, _, rfl, HM.out _ _ _ _ _ GF.out (fun _ h => .inl h), HA.out.trans GT.out, ?_⟩
    simp [OneRes]
  by_cases h4 : d = 4
  · subst h4
    clear CR CW CA CN CL CF CT HW1
    have hB : (Value.slice A c.length cap).oneCell' = true := rfl
    go_enter Tryd.func19, Tryd.ntmps19
    go_wp2_with (rw [← hw1]; go_at_call 27; refine (CD.out).mono ?_; rintro e w' ⟨rfl, hF, hT⟩; have GF := Lib.hid hF; have GT := Lib.hid hT; clear hF hT)
    go_ret
    refine ⟨_, _, _, rfl, HM.out _ _ _ _ _ GF.out (fun _ h => .inl h), HA.out.trans GT.out, ?_⟩
    simp [OneRes]
  by_cases h5 : d = 5
  · subst h5
    clear CR CW CA CN CD CF CT HW1
    have hB : (Value.slice A c.length cap).oneCell' = true := rfl
    go_enter Tryd.func19, Tryd.ntmps19
    go_wp2_with (rw [← hw1]; go_at_call 16; refine (CL.out).mono ?_; rintro e w' ⟨v, rfl, hr, hF, hT⟩; have Gr := Lib.hid hr; have GF := Lib.hid hF; have GT := Lib.hid hT; clear hr hF hT)
    go_ret
    refine ⟨_, es, _, rfl, HM.out _ _ _ _ _ GF.out (fun _ h => .inl h), HA.out.trans (touch_own GT.out HO.out), ?_⟩
    simp [OneRes]
  by_cases h6 : d = 6
  · subst h6
    clear CR CW CA CN CD CL CT HW1
    have hB : (Value.slice A c.length cap).oneCell' = true := rfl
    go_enter Tryd.func19, Tryd.ntmps19
    go_wp2_with (rw [← hw1]; go_at_call 13; refine (CF.out).mono ?_; rintro e w' ⟨rfl, hF, hT⟩; have GF := Lib.hid hF; have GT := Lib.hid hT; clear hF hT)
    go_ret
    refine ⟨_, _, _, rfl, HM.out _ _ _ _ _ GF.out (fun _ h => .inl h), HA.out.trans GT.out, ?_⟩
    simp [OneRes]
  by_cases h7 : d = 7
  · subst h7
    clear CR CW CA CN CD CL CF HW1
    have hB : (Value.slice A c.length cap).oneCell' = true := rfl
    go_enter Tryd.func19, Tryd.ntmps19
    go_wp2_with (rw [← hw1]; go_at_call 12; refine (CT.out).mono ?_; rintro e w' ⟨rfl, hF, hT⟩; have GF := Lib.hid hF; have GT := Lib.hid hT; clear hF hT)
    go_ret
    refine ⟨_, _, _, rfl, HM.out _ _ _ _ _ GF.out (fun _ h => .inl h), HA.out.trans GT.out, ?_⟩
    simp [OneRes]
  have q0 : (d == 0) = false := by simpa using h0
  have q1 : (d == 1) = false := by simpa using h1
  have q2 : (d == 2) = false := by simpa using h2
  have q3 : (d == 3) = false := by simpa using h3
  have q4 : (d == 4) = false := by simpa using h4
  have q5 : (d == 5) = false := by simpa using h5
  have q6 : (d == 6) = false := by simpa using h6
  have q7 : (d == 7) = false := by simpa using h7
  have HR : Hid (OneRes es s ⟨d, p, q, .slice A c.length cap, c, k, i, j⟩ 0 es s) := Lib.hid (by
    unfold OneRes
    rw [if_neg h0, if_neg h1, if_neg h2, if_neg h3, if_neg h4, if_neg h5, if_neg h6, if_neg h7]
    exact ⟨rfl, rfl, rfl⟩)
  clear h0 h1 h2 h3 h4 h5 h6 h7 CR CW CA CN CD CL CF CT
  go_enter Tryd.func19, Tryd.ntmps19
  go_wp2_with fail
  go_ret
  rw [← hw1]
  exact ⟨0, es, s, rfl, HM.out _ _ _ _ _ HF.out (fun _ h => .inl h), HA.out, HR.out⟩

end Go.Proofs.YthpkfgjjaieikaaDoor
