/-
  A step as an edit of a line.
-/
import Derived.Test.YtjgjbdpknfplkaaUdJoin
namespace Go.Proofs.Ytjgjbdpknfplkaa
open Go.RowKit Go.Shelf Go.Lib
attribute [local go_sem] Oper.semAt_some

theorem wi_self {a : Nat} (ha : a ≤ 35184372088832) : IntKind.i64.wrap (a : Int) = (a : Int) := by rw [IntWalk.i64_in _ (by omega)]
theorem slice_zero (A : Option Addr) (n c q : Nat) (h : q ≤ c) : ∀ W, (Instr.slice 22 (.slice A n c) (some (.int .i64 0)) (some (.int .i64 (q : Int))) none).run Try.prog W = .ok (.slice A q c) W := fun W => by
  have := slice_runes A n c 0 q (Nat.zero_le _) h W
  rw [Nat.sub_zero, Nat.sub_zero] at this
  have e : tailA A c 0 1 = A := by
    unfold tailA
    split
    · rfl
    · cases A with
      | none => rfl
      | some a => simp [Addr.add]
  rw [e] at this
  exact this
theorem sliceAt_zero (A : Option Addr) (n c q : Nat) (h : q ≤ c) : ∀ W, (Instr.sliceAt 22 (.slice A n c) (some (.int .i64 0)) (some (.int .i64 (q : Int))) none).run Try.prog W = .ok (.slice A q c) W := fun W => by
  have ht : Try.prog.underlying 22 = some (.slice (Try.prog.elem 22)) := by simp [Program.elem, Try.underlying22]
  rw [run_sliceAt_slice W 22 _ _ _ _ ht]
  exact slice_zero A n c q h W
/-- a step of the law -/
structure StepP where
  at' : Int
  many : Int
  ins : List Int
  beg : Bool
  en : Bool
def stepAt (n : Nat) (a : Int) : Nat := if 0 < n ∧ 0 < a then (a % ((n : Int) + 1)).toNat else 0
def stepN (n at' : Nat) (m : Int) : Nat := min (max m 0).toNat (n - at')
def stepEd (l : List Int) (s : StepP) : Ed := ⟨stepAt l.length s.at', (l.drop (stepAt l.length s.at')).take (stepN l.length (stepAt l.length s.at') s.many), s.ins⟩
theorem stepAt_le (n : Nat) (a : Int) : stepAt n a ≤ n := by
  unfold stepAt
  split
  · have := Int.emod_lt_of_pos a (b := (n : Int) + 1) (by omega)
    omega
  · omega
theorem stepAt_pos {n : Nat} {a : Int} (h0 : 0 < n) (ha : 0 < a) : a % ((n : Int) + 1) = (stepAt n a : Int) := by
  unfold stepAt
  rw [if_pos ⟨h0, ha⟩]
  have := Int.emod_nonneg a (b := (n : Int) + 1) (by omega)
  omega
theorem stepAt_pos2 {n : Nat} {a : Int} (h0 : 0 < n) (ha : 0 < a) : a.tmod ((n : Int) + 1) = (stepAt n a : Int) := by
  rw [Int.tmod_eq_emod_of_nonneg (by omega)]
  exact stepAt_pos h0 ha
theorem stepAt_zero {n : Nat} {a : Int} (h : ¬ (0 < n ∧ 0 < a)) : stepAt n a = 0 := if_neg h
theorem wr_self {a : Nat} (ha : a ≤ 35184372088832) : wrap64 (a : Int) = (a : Int) := by unfold wrap64; omega
theorem wr_succ {a : Nat} (ha : a ≤ 35184372088832) : wrap64 ((a : Int) + 1) = (a : Int) + 1 := by unfold wrap64; omega
theorem ne_succ (a : Nat) : ((a : Int) + 1 = 0) = False := by simp; omega
theorem ne_succ2 (a : Nat) : ((a : Int) + 1 == 0) = false := by simp; omega
theorem min_q (k n : Nat) (m : Int) : min (max m 0) ((n - k : Nat) : Int) = (stepN n k m : Int) := by unfold stepN; omega
def SBox (W : World) (r : Nat) (v : Array Value) : Prop := W.heap[r]? = some (.cells v 59 (0, 0))
theorem SBox.cell {W : World} {r : Nat} {v : Array Value} (h : SBox W r v) (k : Nat) : W.cell? ⟨r, k, none⟩ = v[k]? := cell_of_row W r k _ _ _ h
theorem SBox.below {W W' : World} {r : Nat} {v : Array Value} (h : SBox W r v) (hb : Below W.heap.size W W') : SBox W' r v := (hb.block r (Array.getElem?_eq_some_iff.1 h).1).trans h
def StepPost (w : World) (e : Ed) (iv : Value) (x : Ending) (w' : World) : Prop := ∃ A n c, x = .returned (editV e.p (.slice A n c) iv) ∧ RRow w' w.heap.size (.slice A n c) e.d ∧ Below w.heap.size w w'
set_option maxRecDepth 1000000 in
set_option maxHeartbeats 4000000 in
theorem step_pos (w : World) (l : List Int) (s : StepP) (A Ai : Option Addr) (c ni ci : Nat) (hl : Holds1 w (.slice A l.length c) (runeVals l)) (hn : l.length ≤ 35184372088832) (h0 : 0 < l.length) (ha : 0 < s.at') :
    Calls Try.prog 41 #[.agg #[.int .i64 s.at', .int .i64 s.many, .slice Ai ni ci, .bool s.beg, .bool s.en], .slice A l.length c] w (StepPost w (stepEd l s) (.slice Ai ni ci)) := by
  obtain ⟨w1, hw1⟩ : ∃ w1, w1 = (w.alloc (.cells #[.int .i64 s.at', .int .i64 s.many, .slice Ai ni ci, .bool s.beg, .bool s.en] 59)).alloc (.cells edit0 24) := ⟨_, rfl⟩
  have b0 : Below w.heap.size w (w.alloc (.cells #[.int .i64 s.at', .int .i64 s.many, .slice Ai ni ci, .bool s.beg, .bool s.en] 59)) := (Below.refl _ _).alloc (Nat.le_refl _) _
  have b1' : Below (w.alloc (.cells #[.int .i64 s.at', .int .i64 s.many, .slice Ai ni ci, .bool s.beg, .bool s.en] 59)).heap.size (w.alloc (.cells #[.int .i64 s.at', .int .i64 s.many, .slice Ai ni ci, .bool s.beg, .bool s.en] 59)) w1 := by rw [hw1]; exact (Below.refl _ _).alloc (Nat.le_refl _) _
  have b1 : Below w.heap.size w w1 := b0.trans (b1'.mono b0.size)
  have X : Hid (SBox w1 w.heap.size #[.int .i64 s.at', .int .i64 s.many, .slice Ai ni ci, .bool s.beg, .bool s.en]) := Lib.hid (SBox.below (alloc_new _ _) b1')
  have Z : Hid (EBox w1 (w.heap.size + 1) edit0) := Lib.hid (by
    have := alloc_new (w.alloc (.cells #[.int .i64 s.at', .int .i64 s.many, .slice Ai ni ci, .bool s.beg, .bool s.en] 59)) (.cells edit0 24)
    rw [← hw1] at this
    rw [show (w.alloc (.cells #[.int .i64 s.at', .int .i64 s.many, .slice Ai ni ci, .bool s.beg, .bool s.en] 59)).heap.size = w.heap.size + 1 by simp] at this
    exact this)
  have HW1 := Lib.hid hw1
  have B := Lib.hid b1
  have hkn := stepAt_le l.length s.at'
  have hmin := min_q (stepAt l.length s.at') l.length s.many
  have hqn : stepN l.length (stepAt l.length s.at') s.many ≤ l.length - stepAt l.length s.at' := by unfold stepN; omega
  have hcap : l.length ≤ c := by
    obtain ⟨A', c', e, ⟨h1, _⟩, _⟩ := hl
    injection e with _ _ e3
    rw [runeVals_length] at h1
    omega
  have hat := stepAt_pos h0 ha
  have hat2 := stepAt_pos2 h0 ha
  have i1 : ((l.length : Int) > 0) = True := by simp; omega
  have i2 : (s.at' > 0) = True := by simp; omega
  have i3 : ((0 : Int) < (l.length : Int)) = True := by simp; omega
  have i4 : (0 < s.at') = True := by simp; omega
  have i5 : (0 < l.length) = True := by simp; omega
  have HS : Hid (stepEd l s = ⟨stepAt l.length s.at', (l.drop (stepAt l.length s.at')).take (stepN l.length (stepAt l.length s.at') s.many), s.ins⟩) := Lib.hid rfl
  generalize stepAt l.length s.at' = k at *
  generalize hk : stepN l.length k s.many = q at *
  clear hk
  have u1 : k ≤ l.length := by omega
  have u2 : k + q ≤ l.length := by omega
  have u3 : k ≤ 35184372088832 := by omega
  have u4 : q ≤ 35184372088832 := by omega
  have u5 : k + q ≤ c := by omega
  have u6 : (0 : Int) ≤ (l.length : Int) := by omega
  have hmid := hl.mid (a := k) (b := k + q) (Nat.le_add_right _ _) u2
  rw [Nat.add_sub_cancel_left] at hmid
  have hpl : (l.take (k + q)).drop k = (l.drop k).take q := by rw [List.drop_take, Nat.add_sub_cancel_left]
  rw [hpl] at hmid
  have s1 := fun W => slice_runes A l.length c k (k + q) (Nat.le_add_right _ _) u5 W
  have s2 := fun W => sliceAt_runes A l.length c k (k + q) (Nat.le_add_right _ _) u5 W
  rw [Nat.add_sub_cancel_left] at s1 s2
  have bd : Below w.heap.size w w1.drew := b1.trans ((Below.refl _ _).drew.mono b1.size)
  obtain ⟨A', n', c', w2, r2, hR, hb2⟩ := run_append_runes w1.drew 22 w1.heap.size (.slice none 0 0) [] (RRow.nil _ _) (hmid.below bd) (by rw [List.length_take, List.length_drop, List.length_nil, Nat.zero_add]; exact Nat.le_trans (Nat.min_le_left _ _) u4) (Nat.le_refl _)
  rw [List.nil_append] at hR
  have D : Hid (Below w1.heap.size w1 w2) := Lib.hid (((Below.refl _ _).drew : Below w1.heap.size w1 w1.drew).trans hb2)
  have R2 := Lib.hid (hR.less b1.size)
  have hT0 : w1.drew.cell? ⟨w.heap.size, 2, none⟩ = some (.slice Ai ni ci) := X.out.cell 2
  have x0 := X.out.cell 0
  have x1 := X.out.cell 1
  have hT1 : w2.cell? ⟨w.heap.size, 2, none⟩ = some (.slice Ai ni ci) := (X.out.below D.out).cell 2
  have Z2 := Lib.hid (Z.out.below D.out)
  have q0 := Z2.out.cell 0
  have q1 := Z2.out.cell 1
  have q2 := Z2.out.cell 2
  have f0 := Z2.out.frozen 0
  have f1 := Z2.out.frozen 1
  have f2 := Z2.out.frozen 2
  have hU := fun x y z => (show SBox (((w2.setCell ⟨w.heap.size + 1, 0, none⟩ x).setCell ⟨w.heap.size + 1, 1, none⟩ y).setCell ⟨w.heap.size + 1, 2, none⟩ z) w.heap.size _ from (three_other w2 (w.heap.size + 1) x y z (Nat.ne_of_lt (Nat.lt_succ_self _))).trans (X.out.below D.out)).cell 2
  have hU2 : ∀ x y z, (((w2.setCell ⟨w.heap.size + 1, 0, none⟩ x).setCell ⟨w.heap.size + 1, 1, none⟩ y).setCell ⟨w.heap.size + 1, 2, none⟩ z).cell? ⟨w.heap.size, 2, none⟩ = some (.slice Ai ni ci) := hU
  clear hU
  have HP : Hid (∀ x, StepPost w ⟨(k : Int), (l.drop k).take q, s.ins⟩ (.slice Ai ni ci) (.returned (editV (k : Int) (.slice A' n' c') (.slice Ai ni ci))) (((w2.setCell ⟨w.heap.size + 1, 0, none⟩ x).setCell ⟨w.heap.size + 1, 1, none⟩ (.slice A' n' c')).setCell ⟨w.heap.size + 1, 2, none⟩ (.slice Ai ni ci))) := Lib.hid fun x =>
    ⟨_, _, _, rfl, R2.out.three Z2.out, below_three w _ (w.heap.size + 1) (Nat.le_succ _) _ _ _ (B.out.trans (D.out.mono B.out.size))⟩
  have hw2 : wrap64 ((l.length : Int) - (k : Int)) = ((l.length - k : Nat) : Int) := wr_sub u1 hn
  have hwn : wrap64 (l.length : Int) = (l.length : Int) := wr_self hn
  have hn1 := wr_succ hn
  have hn2 := ne_succ l.length
  have hn3 := ne_succ2 l.length
  have hws := wr_add (a := k) (b := q) u3 u4
  have his := wi_add (a := k) (b := q) u3 u4
  rw [HS.out]
  clear u1 u2 u3 u4 u5 u6
  clear hl hn hw1 b0 b1' b1 hkn hqn hcap hmid hpl bd hR hb2 HS h0 ha
  generalize (l.drop k).take q = dl at *
  generalize tailA A c k 1 = TA at *
  generalize c - k = ck at *
  generalize k + q = kq at *
  generalize l.length - k = nk at *
  generalize l.length = n at *
  go_enter Try.func41, Try.ntmps41
  go_wp2_with fail
  rw [← HW1.out]
  go_region_held3 (fun W => W.cell? ⟨w.heap.size, 2, none⟩ = some (.slice Ai ni ci)) (first | with_reducible exact hT0 | with_reducible exact hT1 | with_reducible exact hU2 _ _ _ | fail) (first
    | (with_reducible refine step_of_run2 r2 ?_ ?_; exact ⟨rfl, rfl, _, _, rfl, rfl, rfl⟩))
  all_goals
    go_wp2
    refine ret_edit1 rfl rfl rfl Z2.out.set rfl ?_
    exact HP.out _
set_option maxRecDepth 1000000 in
set_option maxHeartbeats 4000000 in
theorem step_none (w : World) (l : List Int) (s : StepP) (A Ai : Option Addr) (c ni ci : Nat) (hl : Holds1 w (.slice A l.length c) (runeVals l)) (hn : l.length ≤ 35184372088832) (h0 : l.length = 0) :
    Calls Try.prog 41 #[.agg #[.int .i64 s.at', .int .i64 s.many, .slice Ai ni ci, .bool s.beg, .bool s.en], .slice A l.length c] w (StepPost w (stepEd l s) (.slice Ai ni ci)) := by
  obtain ⟨w1, hw1⟩ : ∃ w1, w1 = (w.alloc (.cells #[.int .i64 s.at', .int .i64 s.many, .slice Ai ni ci, .bool s.beg, .bool s.en] 59)).alloc (.cells edit0 24) := ⟨_, rfl⟩
  have b0 : Below w.heap.size w (w.alloc (.cells #[.int .i64 s.at', .int .i64 s.many, .slice Ai ni ci, .bool s.beg, .bool s.en] 59)) := (Below.refl _ _).alloc (Nat.le_refl _) _
  have b1' : Below (w.alloc (.cells #[.int .i64 s.at', .int .i64 s.many, .slice Ai ni ci, .bool s.beg, .bool s.en] 59)).heap.size (w.alloc (.cells #[.int .i64 s.at', .int .i64 s.many, .slice Ai ni ci, .bool s.beg, .bool s.en] 59)) w1 := by rw [hw1]; exact (Below.refl _ _).alloc (Nat.le_refl _) _
  have b1 : Below w.heap.size w w1 := b0.trans (b1'.mono b0.size)
  have X : Hid (SBox w1 w.heap.size #[.int .i64 s.at', .int .i64 s.many, .slice Ai ni ci, .bool s.beg, .bool s.en]) := Lib.hid (SBox.below (alloc_new _ _) b1')
  have Z : Hid (EBox w1 (w.heap.size + 1) edit0) := Lib.hid (by
    have := alloc_new (w.alloc (.cells #[.int .i64 s.at', .int .i64 s.many, .slice Ai ni ci, .bool s.beg, .bool s.en] 59)) (.cells edit0 24)
    rw [← hw1] at this
    rw [show (w.alloc (.cells #[.int .i64 s.at', .int .i64 s.many, .slice Ai ni ci, .bool s.beg, .bool s.en] 59)).heap.size = w.heap.size + 1 by simp] at this
    exact this)
  have HW1 := Lib.hid hw1
  have B := Lib.hid b1
  have hkn := stepAt_le l.length s.at'
  have hmin := min_q (stepAt l.length s.at') l.length s.many
  have hqn : stepN l.length (stepAt l.length s.at') s.many ≤ l.length - stepAt l.length s.at' := by unfold stepN; omega
  have hcap : l.length ≤ c := by
    obtain ⟨A', c', e, ⟨h1, _⟩, _⟩ := hl
    injection e with _ _ e3
    rw [runeVals_length] at h1
    omega
  have hz0 : stepAt l.length s.at' = 0 := stepAt_zero (by omega)
  have i1 : ((l.length : Int) > 0) = False := eq_false (by omega)
  have i3 : ((0 : Int) < (l.length : Int)) = False := eq_false (by omega)
  have i5 : (0 < l.length) = False := eq_false (by omega)
  have HS : Hid (stepEd l s = ⟨stepAt l.length s.at', (l.drop (stepAt l.length s.at')).take (stepN l.length (stepAt l.length s.at') s.many), s.ins⟩) := Lib.hid rfl
  rw [hz0] at hkn hmin hqn
  have HS : Hid (stepEd l s = ⟨0, l.take (stepN l.length 0 s.many), s.ins⟩) := Lib.hid (by rw [HS.out, hz0]; rfl)
  obtain ⟨q, hq⟩ : ∃ q, q = stepN l.length 0 s.many := ⟨_, rfl⟩
  rw [← hq] at hmin hqn HS
  clear hq
  have u2 : q ≤ l.length := by omega
  have u4 : q ≤ 35184372088832 := by omega
  have u5 : q ≤ c := by omega
  have hmid := hl.head (k := q) u2
  have s1 := slice_zero A l.length c q u5
  have s2 := sliceAt_zero A l.length c q u5
  have bd : Below w.heap.size w w1.drew := b1.trans ((Below.refl _ _).drew.mono b1.size)
  obtain ⟨A', n', c', w2, r2, hR, hb2⟩ := run_append_runes w1.drew 22 w1.heap.size (.slice none 0 0) [] (RRow.nil _ _) (hmid.below bd) (by rw [List.length_take, List.length_nil, Nat.zero_add]; exact Nat.le_trans (Nat.min_le_left _ _) u4) (Nat.le_refl _)
  rw [List.nil_append] at hR
  have D : Hid (Below w1.heap.size w1 w2) := Lib.hid (((Below.refl _ _).drew : Below w1.heap.size w1 w1.drew).trans hb2)
  have R2 := Lib.hid (hR.less b1.size)
  have hT0 : w1.drew.cell? ⟨w.heap.size, 2, none⟩ = some (.slice Ai ni ci) := X.out.cell 2
  have x0 := X.out.cell 0
  have x1 := X.out.cell 1
  have hT1 : w2.cell? ⟨w.heap.size, 2, none⟩ = some (.slice Ai ni ci) := (X.out.below D.out).cell 2
  have Z2 := Lib.hid (Z.out.below D.out)
  have q0 := Z2.out.cell 0
  have q1 := Z2.out.cell 1
  have q2 := Z2.out.cell 2
  have f0 := Z2.out.frozen 0
  have f1 := Z2.out.frozen 1
  have f2 := Z2.out.frozen 2
  have hU := fun x y z => (show SBox (((w2.setCell ⟨w.heap.size + 1, 0, none⟩ x).setCell ⟨w.heap.size + 1, 1, none⟩ y).setCell ⟨w.heap.size + 1, 2, none⟩ z) w.heap.size _ from (three_other w2 (w.heap.size + 1) x y z (Nat.ne_of_lt (Nat.lt_succ_self _))).trans (X.out.below D.out)).cell 2
  have hU2 : ∀ x y z, (((w2.setCell ⟨w.heap.size + 1, 0, none⟩ x).setCell ⟨w.heap.size + 1, 1, none⟩ y).setCell ⟨w.heap.size + 1, 2, none⟩ z).cell? ⟨w.heap.size, 2, none⟩ = some (.slice Ai ni ci) := hU
  clear hU
  have HP : Hid (∀ x, StepPost w ⟨0, l.take q, s.ins⟩ (.slice Ai ni ci) (.returned (editV 0 (.slice A' n' c') (.slice Ai ni ci))) (((w2.setCell ⟨w.heap.size + 1, 0, none⟩ x).setCell ⟨w.heap.size + 1, 1, none⟩ (.slice A' n' c')).setCell ⟨w.heap.size + 1, 2, none⟩ (.slice Ai ni ci))) := Lib.hid fun x =>
    ⟨_, _, _, rfl, R2.out.three Z2.out, below_three w _ (w.heap.size + 1) (Nat.le_succ _) _ _ _ (B.out.trans (D.out.mono B.out.size))⟩
  have hwn : wrap64 (l.length : Int) = (l.length : Int) := wr_self hn
  have hwq : wrap64 (q : Int) = (q : Int) := wr_self u4
  have hiq : IntKind.i64.wrap (q : Int) = (q : Int) := wi_self u4
  rw [Nat.sub_zero] at hmin
  rw [HS.out]
  clear u2 u4 u5
  clear hl hn hw1 b0 b1' b1 hkn hqn hcap hmid bd hz0 hR hb2 HS h0
  generalize l.take q = dl at *
  generalize l.length = n at *
  go_enter Try.func41, Try.ntmps41
  go_wp2_with fail
  rw [← HW1.out]
  go_region_held3 (fun W => W.cell? ⟨w.heap.size, 2, none⟩ = some (.slice Ai ni ci)) (first | with_reducible exact hT0 | with_reducible exact hT1 | with_reducible exact hU2 _ _ _ | fail) (first
    | (with_reducible refine step_of_run2 r2 ?_ ?_; exact ⟨rfl, rfl, _, _, rfl, rfl, rfl⟩))
  all_goals
    go_wp2
    refine ret_edit1 rfl rfl rfl Z2.out.set rfl ?_
    exact HP.out _
set_option maxRecDepth 1000000 in
set_option maxHeartbeats 4000000 in
theorem step_neg (w : World) (l : List Int) (s : StepP) (A Ai : Option Addr) (c ni ci : Nat) (hl : Holds1 w (.slice A l.length c) (runeVals l)) (hn : l.length ≤ 35184372088832) (h0 : 0 < l.length) (ha : ¬ 0 < s.at') :
    Calls Try.prog 41 #[.agg #[.int .i64 s.at', .int .i64 s.many, .slice Ai ni ci, .bool s.beg, .bool s.en], .slice A l.length c] w (StepPost w (stepEd l s) (.slice Ai ni ci)) := by
  obtain ⟨w1, hw1⟩ : ∃ w1, w1 = (w.alloc (.cells #[.int .i64 s.at', .int .i64 s.many, .slice Ai ni ci, .bool s.beg, .bool s.en] 59)).alloc (.cells edit0 24) := ⟨_, rfl⟩
  have b0 : Below w.heap.size w (w.alloc (.cells #[.int .i64 s.at', .int .i64 s.many, .slice Ai ni ci, .bool s.beg, .bool s.en] 59)) := (Below.refl _ _).alloc (Nat.le_refl _) _
  have b1' : Below (w.alloc (.cells #[.int .i64 s.at', .int .i64 s.many, .slice Ai ni ci, .bool s.beg, .bool s.en] 59)).heap.size (w.alloc (.cells #[.int .i64 s.at', .int .i64 s.many, .slice Ai ni ci, .bool s.beg, .bool s.en] 59)) w1 := by rw [hw1]; exact (Below.refl _ _).alloc (Nat.le_refl _) _
  have b1 : Below w.heap.size w w1 := b0.trans (b1'.mono b0.size)
  have X : Hid (SBox w1 w.heap.size #[.int .i64 s.at', .int .i64 s.many, .slice Ai ni ci, .bool s.beg, .bool s.en]) := Lib.hid (SBox.below (alloc_new _ _) b1')
  have Z : Hid (EBox w1 (w.heap.size + 1) edit0) := Lib.hid (by
    have := alloc_new (w.alloc (.cells #[.int .i64 s.at', .int .i64 s.many, .slice Ai ni ci, .bool s.beg, .bool s.en] 59)) (.cells edit0 24)
    rw [← hw1] at this
    rw [show (w.alloc (.cells #[.int .i64 s.at', .int .i64 s.many, .slice Ai ni ci, .bool s.beg, .bool s.en] 59)).heap.size = w.heap.size + 1 by simp] at this
    exact this)
  have HW1 := Lib.hid hw1
  have B := Lib.hid b1
  have hkn := stepAt_le l.length s.at'
  have hmin := min_q (stepAt l.length s.at') l.length s.many
  have hqn : stepN l.length (stepAt l.length s.at') s.many ≤ l.length - stepAt l.length s.at' := by unfold stepN; omega
  have hcap : l.length ≤ c := by
    obtain ⟨A', c', e, ⟨h1, _⟩, _⟩ := hl
    injection e with _ _ e3
    rw [runeVals_length] at h1
    omega
  have hz0 : stepAt l.length s.at' = 0 := stepAt_zero (by omega)
  have i1 : ((l.length : Int) > 0) = True := by simp; omega
  have i2 : (s.at' > 0) = False := by simp; omega
  have i3 : ((0 : Int) < (l.length : Int)) = True := by simp; omega
  have i4 : (0 < s.at') = False := by simp; omega
  have i5 : (0 < l.length) = True := by simp; omega
  have HS : Hid (stepEd l s = ⟨stepAt l.length s.at', (l.drop (stepAt l.length s.at')).take (stepN l.length (stepAt l.length s.at') s.many), s.ins⟩) := Lib.hid rfl
  rw [hz0] at hkn hmin hqn
  have HS : Hid (stepEd l s = ⟨0, l.take (stepN l.length 0 s.many), s.ins⟩) := Lib.hid (by rw [HS.out, hz0]; rfl)
  obtain ⟨q, hq⟩ : ∃ q, q = stepN l.length 0 s.many := ⟨_, rfl⟩
  rw [← hq] at hmin hqn HS
  clear hq
  have u2 : q ≤ l.length := by omega
  have u4 : q ≤ 35184372088832 := by omega
  have u5 : q ≤ c := by omega
  have hmid := hl.head (k := q) u2
  have s1 := slice_zero A l.length c q u5
  have s2 := sliceAt_zero A l.length c q u5
  have bd : Below w.heap.size w w1.drew := b1.trans ((Below.refl _ _).drew.mono b1.size)
  obtain ⟨A', n', c', w2, r2, hR, hb2⟩ := run_append_runes w1.drew 22 w1.heap.size (.slice none 0 0) [] (RRow.nil _ _) (hmid.below bd) (by rw [List.length_take, List.length_nil, Nat.zero_add]; exact Nat.le_trans (Nat.min_le_left _ _) u4) (Nat.le_refl _)
  rw [List.nil_append] at hR
  have D : Hid (Below w1.heap.size w1 w2) := Lib.hid (((Below.refl _ _).drew : Below w1.heap.size w1 w1.drew).trans hb2)
  have R2 := Lib.hid (hR.less b1.size)
  have hT0 : w1.drew.cell? ⟨w.heap.size, 2, none⟩ = some (.slice Ai ni ci) := X.out.cell 2
  have x0 := X.out.cell 0
  have x1 := X.out.cell 1
  have hT1 : w2.cell? ⟨w.heap.size, 2, none⟩ = some (.slice Ai ni ci) := (X.out.below D.out).cell 2
  have Z2 := Lib.hid (Z.out.below D.out)
  have q0 := Z2.out.cell 0
  have q1 := Z2.out.cell 1
  have q2 := Z2.out.cell 2
  have f0 := Z2.out.frozen 0
  have f1 := Z2.out.frozen 1
  have f2 := Z2.out.frozen 2
  have hU := fun x y z => (show SBox (((w2.setCell ⟨w.heap.size + 1, 0, none⟩ x).setCell ⟨w.heap.size + 1, 1, none⟩ y).setCell ⟨w.heap.size + 1, 2, none⟩ z) w.heap.size _ from (three_other w2 (w.heap.size + 1) x y z (Nat.ne_of_lt (Nat.lt_succ_self _))).trans (X.out.below D.out)).cell 2
  have hU2 : ∀ x y z, (((w2.setCell ⟨w.heap.size + 1, 0, none⟩ x).setCell ⟨w.heap.size + 1, 1, none⟩ y).setCell ⟨w.heap.size + 1, 2, none⟩ z).cell? ⟨w.heap.size, 2, none⟩ = some (.slice Ai ni ci) := hU
  clear hU
  have HP : Hid (∀ x, StepPost w ⟨0, l.take q, s.ins⟩ (.slice Ai ni ci) (.returned (editV 0 (.slice A' n' c') (.slice Ai ni ci))) (((w2.setCell ⟨w.heap.size + 1, 0, none⟩ x).setCell ⟨w.heap.size + 1, 1, none⟩ (.slice A' n' c')).setCell ⟨w.heap.size + 1, 2, none⟩ (.slice Ai ni ci))) := Lib.hid fun x =>
    ⟨_, _, _, rfl, R2.out.three Z2.out, below_three w _ (w.heap.size + 1) (Nat.le_succ _) _ _ _ (B.out.trans (D.out.mono B.out.size))⟩
  have hwn : wrap64 (l.length : Int) = (l.length : Int) := wr_self hn
  have hwq : wrap64 (q : Int) = (q : Int) := wr_self u4
  have hiq : IntKind.i64.wrap (q : Int) = (q : Int) := wi_self u4
  rw [Nat.sub_zero] at hmin
  rw [HS.out]
  clear u2 u4 u5
  clear hl hn hw1 b0 b1' b1 hkn hqn hcap hmid bd hz0 hR hb2 HS h0 ha
  generalize l.take q = dl at *
  generalize l.length = n at *
  go_enter Try.func41, Try.ntmps41
  go_wp2_with fail
  rw [← HW1.out]
  go_region_held3 (fun W => W.cell? ⟨w.heap.size, 2, none⟩ = some (.slice Ai ni ci)) (first | with_reducible exact hT0 | with_reducible exact hT1 | with_reducible exact hU2 _ _ _ | fail) (first
    | (with_reducible refine step_of_run2 r2 ?_ ?_; exact ⟨rfl, rfl, _, _, rfl, rfl, rfl⟩))
  all_goals
    go_wp2
    refine ret_edit1 rfl rfl rfl Z2.out.set rfl ?_
    exact HP.out _
theorem step_any (w : World) (l : List Int) (s : StepP) (lv iv : Value) (hl : Holds1 w lv (runeVals l)) (hi : Holds1 w iv (runeVals s.ins)) (hn : l.length ≤ 35184372088832) :
    Calls Try.prog 41 #[.agg #[.int .i64 s.at', .int .i64 s.many, iv, .bool s.beg, .bool s.en], lv] w (StepPost w (stepEd l s) iv) := by
  obtain ⟨A, c, rfl, _⟩ := id hl
  obtain ⟨Ai, ci, rfl, _⟩ := hi
  simp only [runeVals_length] at hl ⊢
  by_cases h0 : 0 < l.length
  · by_cases ha : 0 < s.at'
    · exact step_pos w l s A Ai c _ ci hl hn h0 ha
    · exact step_neg w l s A Ai c _ ci hl hn h0 ha
  · exact step_none w l s A Ai c _ ci hl hn (by omega)
end Go.Proofs.Ytjgjbdpknfplkaa
