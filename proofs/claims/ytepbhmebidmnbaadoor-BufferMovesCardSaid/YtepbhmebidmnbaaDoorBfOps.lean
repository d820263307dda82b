/-
  Insert, Delete, Move, SetMark, Swap, Line, New; what Text, Len, Point and Mark answer of a line.
-/
import Derived.Test.YtepbhmebidmnbaaDoorBfRepl2
namespace Go.Proofs.YtepbhmebidmnbaaDoor
open Go.RowKit Go.Shelf Go.Lib
attribute [local go_sem] Oper.semAt_some

theorem pointB_any (w : World) (g : Nat) (S : BS) (h : BufAt w g S) : Calls Tryd.prog 35 #[.pointer (some ⟨g, 0, none⟩)] w fun e w' => e = .returned (.int .i64 (S.pt : Int)) ∧ w = w' := by
  obtain ⟨R, ok, hR, rfl, _⟩ := h
  exact point_any w g R hR ok
theorem markB_any (w : World) (g : Nat) (S : BS) (h : BufAt w g S) : Calls Tryd.prog 46 #[.pointer (some ⟨g, 0, none⟩)] w fun e w' => e = .returned (.int .i64 S.mr) ∧ w = w' := by
  obtain ⟨R, ok, hR, rfl, _⟩ := h
  exact mark_any w g R hR ok
theorem lenB_any (w : World) (g : Nat) (S : BS) (h : BufAt w g S) : Calls Tryd.prog 45 #[.pointer (some ⟨g, 0, none⟩)] w fun e w' => e = .returned (.int .i64 (S.l.length : Int)) ∧ Below w.heap.size w w' := by
  obtain ⟨R, ok, hR, rfl, _⟩ := h
  rw [show R.S.l.length = R.u + R.v from gapLine_length ok.len ok.sum]
  exact len_any w g R hR ok
theorem textB_any (w : World) (g : Nat) (S : BS) (h : BufAt w g S) : Calls Tryd.prog 34 #[.pointer (some ⟨g, 0, none⟩)] w fun e w' => ∃ v, e = .returned v ∧ RRow w' w.heap.size v S.l ∧ Below w.heap.size w w' := by
  obtain ⟨R, ok, hR, rfl, _⟩ := h
  refine (text_any w g R hR ok).mono ?_
  rintro e w' ⟨v, rfl, h1, h2⟩
  refine ⟨v, rfl, ?_, h2⟩
  unfold RRow
  rw [show R.S.l.length = R.u + R.v from gapLine_length ok.len ok.sum]
  exact h1
theorem usableB_any (w : World) (g : Nat) (S : BS) (h : BufAt w g S) : Calls Tryd.prog 50 #[.pointer (some ⟨g, 0, none⟩)] w fun e w' => e = .returned (.bool true) ∧ w = w' := by
  obtain ⟨R, ok, hR, rfl, _⟩ := h
  exact usable_any w g R hR ok
def placeP (S : BS) (k : Int) : Bool := decide (0 ≤ k ∧ k ≤ (S.l.length : Int))
theorem hasB_any (w : World) (g : Nat) (S : BS) (h : BufAt w g S) (k : Int) : Calls Tryd.prog 51 #[.pointer (some ⟨g, 0, none⟩), .int .i64 k] w fun e w' => e = .returned (.bool (placeP S k)) ∧ Below w.heap.size w w' := by
  obtain ⟨R, ok, hR, rfl, _⟩ := h
  unfold placeP
  rw [show R.S.l.length = R.u + R.v from gapLine_length ok.len ok.sum]
  exact has_any w g R hR ok k
section
variable {w : World} {g : Nat} {S : BS}
theorem BufAt.cells (h : BufAt w g S) : w.cell? ⟨g, 1027, none⟩ = some (.int .i64 S.pt) ∧ w.cell? ⟨g, 1028, none⟩ = some (.int .i64 S.mr) ∧ w.frozen? ⟨g, 1027, none⟩ = false ∧ w.frozen? ⟨g, 1028, none⟩ = false := by
  obtain ⟨R, ok, hR, rfl, _⟩ := h
  exact ⟨(hR.cells ok).c3, (hR.cells ok).c4, hR.frozen _, hR.frozen _⟩
theorem BufAt.setPt (h : BufAt w g S) {k : Nat} (hk : k ≤ S.l.length) : BufAt (w.setCell ⟨g, 1027, none⟩ (.int .i64 k)) g { S with pt := k } := by
  obtain ⟨R, ok, hR, rfl, okS⟩ := h
  exact ⟨{ R with pt := k }, ⟨ok.len, ok.sum⟩, hR.setPt ok k, rfl, ⟨okS.len, hk, okS.mr0, okS.mr⟩⟩
theorem BufAt.setMr (h : BufAt w g S) {k : Int} (h0 : -1 ≤ k) (hk : k ≤ S.l.length) : BufAt (w.setCell ⟨g, 1028, none⟩ (.int .i64 k)) g { S with mr := k } := by
  obtain ⟨R, ok, hR, rfl, okS⟩ := h
  exact ⟨{ R with mr := k }, ⟨ok.len, ok.sum⟩, hR.setMr ok k, rfl, ⟨okS.len, okS.pt, h0, hk⟩⟩
theorem BufAt.touch {w' : World} {T : Nat → Prop} (h : BufAt w g S) (ht : Touch T w w') (hn : ¬ T g) : BufAt w' g S := h.same (ht.block g h.lt hn)
end

theorem three_other (W : World) (r : Nat) (x y z : Value) {k : Nat} (hk : k ≠ r) : ((((W.setCell ⟨r, 0, none⟩ x).setCell ⟨r, 1, none⟩ y).setCell ⟨r, 2, none⟩ z)).heap[k]? = W.heap[k]? := by
  have hne : ∀ o, k ≠ (⟨r, o, none⟩ : Addr).block := fun o e => hk e
  rw [Below.heap_setCell _ _ _ k (hne 2), Below.heap_setCell _ _ _ k (hne 1), Below.heap_setCell _ _ _ k (hne 0)]
theorem RRow.three {W : World} {B r : Nat} {v : Value} {l : List Int} {cs : Array Value} {x y z : Value} (h : RRow W B v l) (hX : EBox W r cs) : RRow (((W.setCell ⟨r, 0, none⟩ x).setCell ⟨r, 1, none⟩ y).setCell ⟨r, 2, none⟩ z) B v l :=
  own_same h fun k hk => three_other _ _ _ _ _ fun e => by
    subst e
    obtain ⟨cur, hh⟩ := own_kind h hk
    unfold EBox at hX
    rw [hh] at hX
    injection hX with hX
    injection hX with _ ht
    cases ht
theorem BufAt.three {W : World} {g r : Nat} {S : BS} {x y z : Value} (h : BufAt W g S) (hr : g < r) : BufAt (((W.setCell ⟨r, 0, none⟩ x).setCell ⟨r, 1, none⟩ y).setCell ⟨r, 2, none⟩ z) g S := h.same (three_other _ _ _ _ _ (by omega))
set_option maxRecDepth 1000000 in
set_option maxHeartbeats 4000000 in
theorem insert_any (w : World) (g : Nat) (S : BS) (h : BufAt w g S) (x : List Int) (v : Value) (hx : OffR w g v x) (hm : x.length ≤ 140737488355328) :
    Calls Tryd.prog 40 #[.pointer (some ⟨g, 0, none⟩), v] w (RPost w g S S.pt S.pt x) := by
  have hB0 : Below w.heap.size w (w.alloc (.cells edit0 33)) := (Below.refl _ _).alloc (Nat.le_refl _) _
  have CP := Lib.hid (pointB_any _ g S (h.below hB0))
  have CR := Lib.hid (replace_any _ g S (h.below hB0) S.pt S.pt x v (hx.touch (Touch.of_below hB0)) hm)
  have T := Lib.hid (Touch.of_below (T := Only g) hB0)
  have X := Lib.hid (EBox.zero w)
  have HG := Lib.hid h.lt
  have HS : Hid (w.heap.size < (w.alloc (.cells edit0 33)).heap.size) := Lib.hid (by simp)
  generalize hw1 : w.alloc (.cells edit0 33) = w1 at *
  have HW1 := Lib.hid hw1
  obtain ⟨A, c, rfl⟩ := hx.form
  clear hw1 hB0 h hm hx
  go_enter Tryd.func40, Tryd.ntmps40
  go_wp2_with fail
  rw [HW1.out]
  go_wp2_with (first
    | (go_at_call 35; refine (CP.out).mono ?_; rintro e w2 ⟨rfl, rfl⟩)
    | (go_at_call 15; refine (CR.out).mono ?_; rintro e w2 ⟨dv, iv, rfl, hd, hi, hS, ht⟩; obtain ⟨Ad, nd, cd, rfl⟩ := hd.form3; obtain ⟨Ai, ni, ci, rfl⟩ := hi.form3; have D := Lib.hid (hd.less T.out.size); have I := Lib.hid (hi.less T.out.size); have DD := Lib.hid hd; have II := Lib.hid hi; have X := Lib.hid (X.out.touch ht HG.out); have T := Lib.hid (T.out.trans ht); have F := Lib.hid hS; have x0 := X.out.cell 0; have x1 := X.out.cell 1; have x2 := X.out.cell 2; have y0 := X.out.frozen 0; have y1 := X.out.frozen 1; have y2 := X.out.frozen 2; clear hd hi hS ht))
  refine ret_edit rfl rfl rfl X.out.set rfl (.int .i64 (replErr S S.pt S.pt x.length)) rfl ?_
  exact ⟨_, _, rfl, D.out.three X.out, I.out.three X.out, F.out.three HG.out, touch_three g w w2 w.heap.size (Nat.le_refl _) _ _ _ T.out⟩

theorem OffR.nil (w : World) (g : Nat) : OffR w g (.slice none 0 0) [] := fun W _ => ⟨none, 0, rfl, ⟨Nat.le_refl _, fun _ => rfl⟩, fun h => by simp [runeVals] at h⟩
set_option maxRecDepth 1000000 in
set_option maxHeartbeats 4000000 in
theorem delete_any (w : World) (g : Nat) (S : BS) (h : BufAt w g S) (a b : Int) :
    Calls Tryd.prog 41 #[.pointer (some ⟨g, 0, none⟩), .int .i64 a, .int .i64 b] w (RPost w g S a b []) := by
  have hB0 : Below w.heap.size w (w.alloc (.cells edit0 33)) := (Below.refl _ _).alloc (Nat.le_refl _) _
  have CR := Lib.hid (replace_any _ g S (h.below hB0) a b [] (.slice none 0 0) (OffR.nil _ _) (by simp))
  have T := Lib.hid (Touch.of_below (T := Only g) hB0)
  have X := Lib.hid (EBox.zero w)
  have HG := Lib.hid h.lt
  generalize hw1 : w.alloc (.cells edit0 33) = w1 at *
  have HW1 := Lib.hid hw1
  clear hw1 hB0 h
  go_enter Tryd.func41, Tryd.ntmps41
  go_wp2_with fail
  rw [HW1.out]
  go_wp2_with (first
    | (go_at_call 15; refine (CR.out).mono ?_; rintro e w2 ⟨dv, iv, rfl, hd, hi, hS, ht⟩; obtain ⟨Ad, nd, cd, rfl⟩ := hd.form3; obtain ⟨Ai, ni, ci, rfl⟩ := hi.form3; have D := Lib.hid (hd.less T.out.size); have I := Lib.hid (hi.less T.out.size); have X := Lib.hid (X.out.touch ht HG.out); have T := Lib.hid (T.out.trans ht); have F := Lib.hid hS; have x0 := X.out.cell 0; have x1 := X.out.cell 1; have x2 := X.out.cell 2; have y0 := X.out.frozen 0; have y1 := X.out.frozen 1; have y2 := X.out.frozen 2; clear hd hi hS ht))
  refine ret_edit rfl rfl rfl X.out.set rfl (.int .i64 (replErr S a b ([] : List Int).length)) rfl ?_
  exact ⟨_, _, rfl, D.out.three X.out, I.out.three X.out, F.out.three HG.out, touch_three g w w2 w.heap.size (Nat.le_refl _) _ _ _ T.out⟩

def moveS (S : BS) (k : Int) : BS := if placeP S k = true then { S with pt := k.toNat } else S
def moveErr (S : BS) (k : Int) : Int := if placeP S k = true then 0 else 70
def markS (S : BS) (k : Int) : BS := if k = -1 ∨ placeP S k = true then { S with mr := k } else S
def markErr (S : BS) (k : Int) : Int := if k = -1 ∨ placeP S k = true then 0 else 70
def swapS (S : BS) : BS := if S.mr = -1 then S else { S with pt := S.mr.toNat, mr := S.pt }
def swapErr (S : BS) : Int := if S.mr = -1 then 6 else 0
def OpPost (w : World) (g : Nat) (S : BS) (k : Int) (e : Ending) (w' : World) : Prop := e = .returned (.int .i64 k) ∧ BufAt w' g S ∧ Touch (Only g) w w'
set_option maxRecDepth 1000000 in
set_option maxHeartbeats 4000000 in
theorem moveB_any (w : World) (g : Nat) (S : BS) (h : BufAt w g S) (k : Int) : Calls Tryd.prog 16 #[.pointer (some ⟨g, 0, none⟩), .int .i64 k] w (OpPost w g (moveS S k) (moveErr S k)) := by
  have CU := Lib.hid (usableB_any w g S h)
  have CH := Lib.hid (hasB_any w g S h k)
  have H := Lib.hid h
  by_cases hk : placeP S k = true
  · have e1 : moveS S k = { S with pt := k.toNat } := if_pos hk
    have e2 : moveErr S k = 0 := if_pos hk
    rw [e1, e2]
    have hr : 0 ≤ k ∧ k ≤ (S.l.length : Int) := by simpa [placeP] using hk
    obtain ⟨n, rfl⟩ : ∃ n : Nat, k = n := ⟨k.toNat, by omega⟩
    rw [hk] at CH
    have HL : Hid (n ≤ S.l.length) := Lib.hid (by omega)
    clear h e1 e2 hr hk
    go_enter Tryd.func16, Tryd.ntmps16
    go_wp2_with (first
      | (go_at_call 50; refine (CU.out).mono ?_; rintro e w2 ⟨rfl, rfl⟩)
      | (go_at_call 51; refine (CH.out).mono ?_; rintro e w2 ⟨rfl, hb⟩; have T := Lib.hid (Touch.of_below (T := Only g) hb); have H := Lib.hid (H.out.below hb); have f0 := H.out.cells.2.2.1; have c0 := H.out.cells.1; clear hb))
    go_ret
    exact ⟨rfl, H.out.setPt HL.out, T.out.trans (only_set _ _ _ _)⟩
  · have e1 : moveS S k = S := if_neg hk
    have e2 : moveErr S k = 70 := if_neg hk
    rw [e1, e2]
    rw [show placeP S k = false by simpa using hk] at CH
    clear h e1 e2 hk
    go_enter Tryd.func16, Tryd.ntmps16
    go_wp2_with (first
      | (go_at_call 50; refine (CU.out).mono ?_; rintro e w2 ⟨rfl, rfl⟩)
      | (go_at_call 51; refine (CH.out).mono ?_; rintro e w2 ⟨rfl, hb⟩; have T := Lib.hid (Touch.of_below (T := Only g) hb); have H := Lib.hid (H.out.below hb); clear hb))
    go_ret
    exact ⟨rfl, H.out, T.out⟩
set_option maxRecDepth 1000000 in
set_option maxHeartbeats 4000000 in
theorem setMarkB_any (w : World) (g : Nat) (S : BS) (h : BufAt w g S) (k : Int) : Calls Tryd.prog 42 #[.pointer (some ⟨g, 0, none⟩), .int .i64 k] w (OpPost w g (markS S k) (markErr S k)) := by
  have CU := Lib.hid (usableB_any w g S h)
  have CH := Lib.hid (hasB_any w g S h k)
  have H := Lib.hid h
  by_cases h1 : k = -1
  · have e1 : markS S k = { S with mr := k } := if_pos (.inl h1)
    have e2 : markErr S k = 0 := if_pos (.inl h1)
    rw [e1, e2]
    subst h1
    have f0 := H.out.cells.2.2.2
    have c0 := H.out.cells.2.1
    clear h e1 e2 CH
    go_enter Tryd.func42, Tryd.ntmps42
    go_wp2_with (first
      | (go_at_call 50; refine (CU.out).mono ?_; rintro e w2 ⟨rfl, rfl⟩))
    go_ret
    exact ⟨rfl, H.out.setMr (by omega) (by omega), only_set _ _ _ _⟩
  have i0 : (k == -1) = false := by simpa using h1
  have i1 : (k = -1) = False := by simpa using h1
  by_cases hk : placeP S k = true
  · have e1 : markS S k = { S with mr := k } := if_pos (.inr hk)
    have e2 : markErr S k = 0 := if_pos (.inr hk)
    rw [e1, e2]
    have hr : 0 ≤ k ∧ k ≤ (S.l.length : Int) := by simpa [placeP] using hk
    rw [hk] at CH
    have HL : Hid (-1 ≤ k ∧ k ≤ S.l.length) := Lib.hid (by omega)
    clear h e1 e2 hr hk h1
    go_enter Tryd.func42, Tryd.ntmps42
    go_wp2_with (first
      | (go_at_call 50; refine (CU.out).mono ?_; rintro e w2 ⟨rfl, rfl⟩)
      | (go_at_call 51; refine (CH.out).mono ?_; rintro e w2 ⟨rfl, hb⟩; have T := Lib.hid (Touch.of_below (T := Only g) hb); have H := Lib.hid (H.out.below hb); have f0 := H.out.cells.2.2.2; have c0 := H.out.cells.2.1; clear hb))
    go_ret
    exact ⟨rfl, H.out.setMr HL.out.1 HL.out.2, T.out.trans (only_set _ _ _ _)⟩
  · have hno : ¬ (k = -1 ∨ placeP S k = true) := by rintro (h | h); exact h1 h; exact hk h
    have e1 : markS S k = S := if_neg hno
    have e2 : markErr S k = 70 := if_neg hno
    rw [e1, e2]
    rw [show placeP S k = false by simpa using hk] at CH
    clear h e1 e2 hk h1 hno
    go_enter Tryd.func42, Tryd.ntmps42
    go_wp2_with (first
      | (go_at_call 50; refine (CU.out).mono ?_; rintro e w2 ⟨rfl, rfl⟩)
      | (go_at_call 51; refine (CH.out).mono ?_; rintro e w2 ⟨rfl, hb⟩; have T := Lib.hid (Touch.of_below (T := Only g) hb); have H := Lib.hid (H.out.below hb); clear hb))
    go_ret
    exact ⟨rfl, H.out, T.out⟩
set_option maxRecDepth 1000000 in
set_option maxHeartbeats 4000000 in
theorem swapB_any (w : World) (g : Nat) (S : BS) (h : BufAt w g S) : Calls Tryd.prog 43 #[.pointer (some ⟨g, 0, none⟩)] w (OpPost w g (swapS S) (swapErr S)) := by
  have CU := Lib.hid (usableB_any w g S h)
  have H := Lib.hid h
  have okS := h.ok
  have f0 := H.out.cells.2.2.1
  have f1 := H.out.cells.2.2.2
  have c0 := H.out.cells.1
  have c1 := H.out.cells.2.1
  by_cases h1 : S.mr = -1
  · have e1 : swapS S = S := if_pos h1
    have e2 : swapErr S = 6 := if_pos h1
    rw [e1, e2]
    rw [h1] at c1
    clear h e1 e2 okS h1
    go_enter Tryd.func43, Tryd.ntmps43
    go_wp2_with (first
      | (go_at_call 50; refine (CU.out).mono ?_; rintro e w2 ⟨rfl, rfl⟩))
    go_ret
    exact ⟨rfl, H.out, Touch.refl _ _⟩
  · have e1 : swapS S = { S with pt := S.mr.toNat, mr := S.pt } := if_neg h1
    have e2 : swapErr S = 0 := if_neg h1
    rw [e1, e2]
    have h3 := okS.mr0
    have h4 := okS.mr
    have h5 := okS.pt
    obtain ⟨m, hm⟩ : ∃ m : Nat, S.mr = m := ⟨S.mr.toNat, by omega⟩
    rw [hm] at c1
    have HM : Hid (S.mr.toNat = m ∧ m ≤ S.l.length ∧ S.pt ≤ S.l.length) := Lib.hid ⟨by omega, by omega, h5⟩
    have i0 : (((m : Nat) : Int) == -1) = false := by simp
    have i1 : (((m : Nat) : Int) = -1) = False := by simp
    have c0' : w.drew.cell? ⟨g, 1027, none⟩ = some (.int .i64 S.pt) := c0
    have c1' : w.drew.cell? ⟨g, 1028, none⟩ = some (.int .i64 m) := c1
    have hd : Hid (BufAt w.drew g S) := Lib.hid (h.same rfl)
    clear h e1 e2 okS h1 h3 h4 h5 hm
    go_enter Tryd.func43, Tryd.ntmps43
    go_wp2_with (first
      | (go_at_call 50; refine (CU.out).mono ?_; rintro e w2 ⟨rfl, rfl⟩))
    go_region
    all_goals
      go_wp2
      go_ret
      refine ⟨rfl, ?_, ?_⟩
      · rw [HM.out.1]
        exact (hd.out.setPt HM.out.2.1).setMr (by omega) (by show _ ≤ (S.l.length : Int); have := HM.out.2.2; omega)
      · exact ((Touch.refl (Only g) w).drew).trans (touch_two _ _ _ _ _ _)
end Go.Proofs.YtepbhmebidmnbaaDoor
