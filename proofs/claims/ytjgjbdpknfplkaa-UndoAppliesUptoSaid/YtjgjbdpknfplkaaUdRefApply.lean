/-
  The document's Apply.
-/
import Derived.Test.YtjgjbdpknfplkaaUdRefJoin
namespace Go.Proofs.Ytjgjbdpknfplkaa
open Go.RowKit Go.Shelf Go.Lib
attribute [local go_sem] Oper.semAt_some

theorem wr_1024 {a : Nat} (ha : a ≤ 35184372088832) : wrap64 (1024 - (a : Int)) = 1024 - (a : Int) := by unfold wrap64; omega
theorem wi_1024 {a : Nat} (ha : a ≤ 35184372088832) : IntKind.i64.wrap (1024 - (a : Int)) = 1024 - (a : Int) := by rw [IntWalk.i64_in _ (by omega)]
theorem apErr_cases3 {l : List Int} {e : Ed} (h : standsP l e.p e.d = true) : apErr l e = if 1024 < (l.length : Int) - e.d.length + e.i.length then 3 else 0 := by
  unfold apErr
  rw [if_neg (by rw [h]; decide)]
set_option maxRecDepth 1000000 in
set_option maxHeartbeats 4000000 in
theorem same_q (w : World) (x y : List Int) (v u : Value) (hx : Holds1 w v (runeVals x)) (hy : Holds1 w u (runeVals y)) (hlen : x.length ≤ 140737488355328) :
    Calls Try.prog 14 #[v, u] w fun e w' => e = .returned (.bool (decide (x = y))) ∧ ∃ m, w' = w.drewN m := by
  obtain ⟨A, c, rfl, _⟩ := id hx
  obtain ⟨A2, c2, rfl, _⟩ := id hy
  rw [runeVals_length] at hx hy ⊢
  rw [runeVals_length]
  by_cases hl : x.length = y.length
  · have HX := Lib.hid hx
    have HY := Lib.hid hy
    have HL := Lib.hid hl
    have HLEN := Lib.hid hlen
    rw [hl]
    generalize hn : y.length = n at *
    have HN := Lib.hid hn
    clear hn hl hx hy hlen
    go_enter Try.func14, Try.ntmps14
    go_wp2
    go_loopw [5] (fun i wr => ∃ k : Nat, k ≤ n ∧ i = .int .i64 k ∧ x.take k = y.take k ∧ ∃ m, wr = w.drewN m) (fun i _ => n - (RowKit.intOf i).toNat)
    case atStart => exact ⟨0, Nat.zero_le _, rfl, rfl, 0, rfl⟩
    case round =>
      obtain ⟨k, hk, rfl, ht, m0, hm0⟩ := hrel
      have HT := Lib.hid ht
      have hb : Below w.heap.size w wr := by rw [hm0]; exact ⟨rfl, rfl, rfl, Nat.le_refl _, fun _ _ => rfl⟩
      have HM := Lib.hid hm0
      by_cases hlt : k < n
      · have hkx : k < x.length := by rw [HL.out]; exact hlt
        have hky : k < y.length := by rw [HN.out]; exact hlt
        have q1 := HX.out.below hb
        have q2 := HY.out.below hb
        rw [← HN.out] at q2
        obtain ⟨b1, o1, rfl, _, hc1⟩ := rune_cell q1 hkx
        obtain ⟨b2, o2, rfl, _, hc2⟩ := rune_cell q2 hky
        have HS : Hid (x[k] = y[k] → x.take (k + 1) = y.take (k + 1)) := Lib.hid fun he => take_eq_succ ht hkx hky he
        have HE : Hid (¬ x[k] = y[k] → decide (x = y) = false) := Lib.hid fun he => ne_at hkx hky he
        have i1 : (0 : Int) ≤ (k : Int) := by omega
        have i2 : ((k : Int) < (n : Int)) = True := by simp; exact hlt
        have hwk : wrap64 ((k : Int) + 1) = (k : Int) + 1 := by have := HLEN.out; have := HL.out; unfold wrap64; omega
        have HKN := Lib.hid hlt
        clear q1 q2 hk ht hb hlt hm0
        generalize x[k] = r1 at *
        generalize y[k] = r2 at *
        clear hkx hky
        by_cases he : r1 = r2
        · have HS2 := Lib.hid (HS.out he)
          subst he
          go_wp2
          go_region
          go_wp2
          go_roundw
          case rel => exact ⟨k + 1, HKN.out, next_val hwk, HS2.out, m0 + 1, by rw [HM.out]; rfl⟩
          case measure => exact measure_lt HKN.out hwk
        · have HE2 := Lib.hid (HE.out he)
          have i3 : (r1 == r2) = false := by simpa using he
          have i4 : (r1 = r2) = False := by simpa using he
          go_wp2
          go_region
          go_wp2
          go_ret
          exact ⟨by rw [HE2.out]; rfl, m0 + 1, by rw [HM.out]; rfl⟩
      · obtain rfl : k = n := by omega
        have i2 : ((k : Int) < (k : Int)) = False := by simp
        have HD : Hid (decide (x = y) = true) := Lib.hid (by
          rw [decide_eq_true_iff]
          rw [List.take_of_length_le (by rw [HL.out]; exact Nat.le_refl _), List.take_of_length_le (by rw [HN.out]; exact Nat.le_refl _)] at ht
          exact ht)
        clear hlt hk ht hb hm0
        go_wp2
        go_ret
        exact ⟨by rw [HD.out]; rfl, m0, HM.out⟩
  · have HD : Hid (decide (x = y) = false) := Lib.hid (by
      rw [decide_eq_false_iff_not]
      rintro rfl
      exact hl rfl)
    have i1 : ((x.length : Int) == (y.length : Int)) = false := by simp; omega
    have i2 : ((x.length : Int) = (y.length : Int)) = False := by simp; omega
    have i3 : (x.length = y.length) = False := by simp; omega
    generalize x.length = n at *
    generalize y.length = m at *
    clear hl hx hy hlen
    go_enter Try.func14, Try.ntmps14
    go_wp2
    go_ret
    exact ⟨by rw [HD.out]; rfl, 0, rfl⟩
set_option maxRecDepth 1000000 in
set_option maxHeartbeats 4000000 in
theorem refap_neg (w : World) (l : List Int) (e : Ed) (lv dv iv : Value) (hl : Holds1 w lv (runeVals l)) (hd : Holds1 w dv (runeVals e.d)) (hi : Holds1 w iv (runeVals e.i)) (hll : l.length ≤ 35184372088832) (hdl : e.d.length ≤ 35184372088832) (hil : e.i.length ≤ 35184372088832) (h0 : standsP l e.p e.d = false) (h1 : e.p < 0) :
    Calls Try.prog 10 #[lv, editV e.p dv iv] w (ApPost w l e) := by
  have _U := Lib.hid (And.intro hll (And.intro hdl hil))
  obtain ⟨A, c, rfl, hcap, -⟩ := id hl
  obtain ⟨A2, c2, rfl, -⟩ := id hd
  obtain ⟨A3, c3, rfl, -⟩ := id hi
  rw [runeVals_length] at hl hd hi hcap ⊢
  rw [runeVals_length]
  rw [runeVals_length]
  obtain ⟨w1, hw1⟩ : ∃ w1, w1 = w.alloc (.cells #[.int .i64 e.p, .slice A2 e.d.length c2, .slice A3 e.i.length c3] 24) := ⟨_, rfl⟩
  have b1 : Below w.heap.size w w1 := by rw [hw1]; exact (Below.refl _ _).alloc (Nat.le_refl _) _
  have X := Lib.hid (edit_cells hw1)
  have B := Lib.hid b1
  have HW1 := Lib.hid hw1
  have x0 := X.out.cell 0
  have x1 := X.out.cell 1
  have x2 := X.out.cell 2
  have hdn : ∀ n, Below w1.heap.size w1 (w1.drewN n) := fun n => ⟨rfl, rfl, rfl, Nat.le_refl _, fun _ _ => rfl⟩
  have HDN := Lib.hid hdn
  have HP := Lib.hid fun (W : World) (hb : Below w.heap.size w W) => ApPost.bad (l := l) (e := e) (c := 1) (by unfold apErr; rw [if_pos h0]) (by decide) hb
  have i0 : (e.p < 0) = True := eq_true h1
  clear h0 hl hd hi hcap hll hdl hil b1 hw1 hdn h1
  generalize l.length = n at *
  generalize e.d.length = m at *
  generalize e.i.length = m3 at *
  go_enter Try.func10, Try.ntmps10
  go_wp2_with fail
  rw [← HW1.out]
  go_quiet (fail)
  go_wp2
  go_ret2
  exact HP.out _ (B.out.trans ((HDN.out _).mono B.out.size))
set_option maxRecDepth 1000000 in
set_option maxHeartbeats 4000000 in
theorem refap_big (w : World) (l : List Int) (e : Ed) (lv dv iv : Value) (hl : Holds1 w lv (runeVals l)) (hd : Holds1 w dv (runeVals e.d)) (hi : Holds1 w iv (runeVals e.i)) (hll : l.length ≤ 35184372088832) (hdl : e.d.length ≤ 35184372088832) (hil : e.i.length ≤ 35184372088832) (h0 : standsP l e.p e.d = false) (h1 : ¬ e.p < 0) (h2 : (l.length : Int) < e.p) :
    Calls Try.prog 10 #[lv, editV e.p dv iv] w (ApPost w l e) := by
  have _U := Lib.hid (And.intro hll (And.intro hdl hil))
  obtain ⟨A, c, rfl, hcap, -⟩ := id hl
  obtain ⟨A2, c2, rfl, -⟩ := id hd
  obtain ⟨A3, c3, rfl, -⟩ := id hi
  rw [runeVals_length] at hl hd hi hcap ⊢
  rw [runeVals_length]
  rw [runeVals_length]
  obtain ⟨w1, hw1⟩ : ∃ w1, w1 = w.alloc (.cells #[.int .i64 e.p, .slice A2 e.d.length c2, .slice A3 e.i.length c3] 24) := ⟨_, rfl⟩
  have b1 : Below w.heap.size w w1 := by rw [hw1]; exact (Below.refl _ _).alloc (Nat.le_refl _) _
  have X := Lib.hid (edit_cells hw1)
  have B := Lib.hid b1
  have HW1 := Lib.hid hw1
  have x0 := X.out.cell 0
  have x1 := X.out.cell 1
  have x2 := X.out.cell 2
  have hdn : ∀ n, Below w1.heap.size w1 (w1.drewN n) := fun n => ⟨rfl, rfl, rfl, Nat.le_refl _, fun _ _ => rfl⟩
  have HDN := Lib.hid hdn
  have HP := Lib.hid fun (W : World) (hb : Below w.heap.size w W) => ApPost.bad (l := l) (e := e) (c := 1) (by unfold apErr; rw [if_pos h0]) (by decide) hb
  have i0 : (e.p < 0) = False := eq_false h1
  have i1 : (e.p > (l.length : Int)) = True := eq_true h2
  have i2 : ((l.length : Int) < e.p) = True := eq_true h2
  clear h0 hl hd hi hcap hll hdl hil b1 hw1 hdn h1 h2
  generalize l.length = n at *
  generalize e.d.length = m at *
  generalize e.i.length = m3 at *
  go_enter Try.func10, Try.ntmps10
  go_wp2_with fail
  rw [← HW1.out]
  go_quiet (fail)
  go_wp2
  go_ret2
  exact HP.out _ (B.out.trans ((HDN.out _).mono B.out.size))
set_option maxRecDepth 1000000 in
set_option maxHeartbeats 4000000 in
theorem refap_short (w : World) (l : List Int) (e : Ed) (lv dv iv : Value) (hl : Holds1 w lv (runeVals l)) (hd : Holds1 w dv (runeVals e.d)) (hi : Holds1 w iv (runeVals e.i)) (hll : l.length ≤ 35184372088832) (hdl : e.d.length ≤ 35184372088832) (hil : e.i.length ≤ 35184372088832) (h0 : standsP l e.p e.d = false) (k : Nat) (hk : e.p = (k : Int)) (hkl : k ≤ l.length) (h3 : l.length - k < e.d.length) :
    Calls Try.prog 10 #[lv, editV e.p dv iv] w (ApPost w l e) := by
  have _U := Lib.hid (And.intro hll (And.intro hdl hil))
  obtain ⟨A, c, rfl, hcap, -⟩ := id hl
  obtain ⟨A2, c2, rfl, -⟩ := id hd
  obtain ⟨A3, c3, rfl, -⟩ := id hi
  rw [runeVals_length] at hl hd hi hcap ⊢
  rw [runeVals_length]
  rw [runeVals_length]
  obtain ⟨w1, hw1⟩ : ∃ w1, w1 = w.alloc (.cells #[.int .i64 e.p, .slice A2 e.d.length c2, .slice A3 e.i.length c3] 24) := ⟨_, rfl⟩
  have b1 : Below w.heap.size w w1 := by rw [hw1]; exact (Below.refl _ _).alloc (Nat.le_refl _) _
  have X := Lib.hid (edit_cells hw1)
  have B := Lib.hid b1
  have HW1 := Lib.hid hw1
  have x0 := X.out.cell 0
  have x1 := X.out.cell 1
  have x2 := X.out.cell 2
  have hdn : ∀ n, Below w1.heap.size w1 (w1.drewN n) := fun n => ⟨rfl, rfl, rfl, Nat.le_refl _, fun _ _ => rfl⟩
  have HDN := Lib.hid hdn
  have HP := Lib.hid fun (W : World) (hb : Below w.heap.size w W) => ApPost.bad (l := l) (e := e) (c := 1) (by unfold apErr; rw [if_pos h0]) (by decide) hb
  have i0 : ((k : Int) < 0) = False := by simp
  have i1 : ((k : Int) > (l.length : Int)) = False := eq_false (by omega)
  have i2 : ((l.length : Int) < (k : Int)) = False := eq_false (by omega)
  have i2' : (l.length < k) = False := eq_false (by omega)
  have i3 : (((e.d.length : Nat) : Int) > ((l.length - k : Nat) : Int)) = True := eq_true (by omega)
  have i4 : (((l.length - k : Nat) : Int) < ((e.d.length : Nat) : Int)) = True := eq_true (by omega)
  have i5 : (l.length - k < e.d.length) = True := eq_true h3
  have j1 := wi_sub hkl hll
  have j2 := wr_sub hkl hll
  obtain ⟨p, d, i⟩ := e
  dsimp only at *
  subst hk
  clear h0 hl hd hi hcap hll hdl hil b1 hw1 hdn hkl h3
  generalize l.length - k = nk at *
  generalize l.length = n at *
  generalize d.length = m at *
  generalize i.length = m3 at *
  go_enter Try.func10, Try.ntmps10
  go_wp2_with fail
  rw [← HW1.out]
  go_quiet (fail)
  go_wp2
  go_ret2
  exact HP.out _ (B.out.trans ((HDN.out _).mono B.out.size))
set_option maxRecDepth 1000000 in
set_option maxHeartbeats 4000000 in
theorem refap_other (w : World) (l : List Int) (e : Ed) (lv dv iv : Value) (hl : Holds1 w lv (runeVals l)) (hd : Holds1 w dv (runeVals e.d)) (hi : Holds1 w iv (runeVals e.i)) (hll : l.length ≤ 35184372088832) (hdl : e.d.length ≤ 35184372088832) (hil : e.i.length ≤ 35184372088832) (h0 : standsP l e.p e.d = false) (k : Nat) (hk : e.p = (k : Int)) (hkl : k ≤ l.length) (h3 : k + e.d.length ≤ l.length) (h4 : ¬ (l.drop k).take e.d.length = e.d) :
    Calls Try.prog 10 #[lv, editV e.p dv iv] w (ApPost w l e) := by
  have _U := Lib.hid (And.intro hll (And.intro hdl hil))
  obtain ⟨A, c, rfl, hcap, -⟩ := id hl
  obtain ⟨A2, c2, rfl, -⟩ := id hd
  obtain ⟨A3, c3, rfl, -⟩ := id hi
  rw [runeVals_length] at hl hd hi hcap ⊢
  rw [runeVals_length]
  rw [runeVals_length]
  obtain ⟨w1, hw1⟩ : ∃ w1, w1 = w.alloc (.cells #[.int .i64 e.p, .slice A2 e.d.length c2, .slice A3 e.i.length c3] 24) := ⟨_, rfl⟩
  have b1 : Below w.heap.size w w1 := by rw [hw1]; exact (Below.refl _ _).alloc (Nat.le_refl _) _
  have X := Lib.hid (edit_cells hw1)
  have B := Lib.hid b1
  have HW1 := Lib.hid hw1
  have x0 := X.out.cell 0
  have x1 := X.out.cell 1
  have x2 := X.out.cell 2
  have hdn : ∀ n, Below w1.heap.size w1 (w1.drewN n) := fun n => ⟨rfl, rfl, rfl, Nat.le_refl _, fun _ _ => rfl⟩
  have HDN := Lib.hid hdn
  have HP := Lib.hid fun (W : World) (hb : Below w.heap.size w W) => ApPost.bad (l := l) (e := e) (c := 1) (by unfold apErr; rw [if_pos h0]) (by decide) hb
  have i0 : ((k : Int) < 0) = False := by simp
  have i1 : ((k : Int) > (l.length : Int)) = False := eq_false (by omega)
  have i2 : ((l.length : Int) < (k : Int)) = False := eq_false (by omega)
  have i2' : (l.length < k) = False := eq_false (by omega)
  have i3 : (((e.d.length : Nat) : Int) > ((l.length - k : Nat) : Int)) = False := eq_false (by omega)
  have i4 : (((l.length - k : Nat) : Int) < ((e.d.length : Nat) : Int)) = False := eq_false (by omega)
  have i5 : (l.length - k < e.d.length) = False := eq_false (by omega)
  have u1 : k + e.d.length ≤ c := by omega
  have hmid := hl.mid (a := k) (b := k + e.d.length) (Nat.le_add_right _ _) h3
  rw [Nat.add_sub_cancel_left] at hmid
  have hpl : (l.take (k + e.d.length)).drop k = (l.drop k).take e.d.length := by rw [List.drop_take, Nat.add_sub_cancel_left]
  rw [hpl] at hmid
  have s1 := fun W => slice_runes A l.length c k (k + e.d.length) (Nat.le_add_right _ _) u1 W
  have s2 := fun W => sliceAt_runes A l.length c k (k + e.d.length) (Nat.le_add_right _ _) u1 W
  rw [Nat.add_sub_cancel_left] at s1 s2
  have u4 : k ≤ 35184372088832 := by omega
  have CS : Hid (∀ n, Calls Try.prog 14 #[.slice (tailA A c k 1) e.d.length (c - k), .slice A2 e.d.length c2] (w1.drewN n) fun x w' => x = .returned (.bool false) ∧ ∃ m, w' = (w1.drewN n).drewN m) := Lib.hid fun n => by
    have hb := b1.trans ((hdn n).mono b1.size)
    have hlt : ((l.drop k).take e.d.length).length = e.d.length := by rw [List.length_take, List.length_drop]; omega
    have hm2 : Holds1 (w1.drewN n) (.slice (tailA A c k 1) ((l.drop k).take e.d.length).length (c - k)) (runeVals ((l.drop k).take e.d.length)) := by rw [hlt]; exact hmid.below hb
    have := same_q (w1.drewN n) ((l.drop k).take e.d.length) e.d _ _ hm2 (hd.below hb) (by rw [hlt]; omega)
    rw [hlt, decide_eq_false h4] at this
    exact this
  have j1 := wi_sub hkl hll
  have j2 := wr_sub hkl hll
  have j3 := wi_add u4 hdl
  have j4 := wr_add u4 hdl
  obtain ⟨p, d, i⟩ := e
  dsimp only at *
  subst hk
  clear h0 hl hd hi hcap hll hdl hil b1 hw1 hdn hkl h3 h4 u1 hmid hpl u4
  generalize l.length - k = nk at *
  generalize tailA A c k 1 = TA at *
  generalize c - k = ck at *
  generalize k + d.length = km at *
  generalize l.length = n at *
  generalize d.length = m at *
  generalize i.length = m3 at *
  go_enter Try.func10, Try.ntmps10
  go_wp2_with fail
  rw [← HW1.out]
  go_quiet (first
    | (go_at_call 14; exact Calls.quiet_of (CS.out _)))
  go_wp2
  go_ret2
  exact HP.out _ (B.out.trans ((HDN.out _).mono B.out.size))
set_option maxRecDepth 1000000 in
set_option maxHeartbeats 4000000 in
theorem refap_long (w : World) (l : List Int) (e : Ed) (lv dv iv : Value) (hl : Holds1 w lv (runeVals l)) (hd : Holds1 w dv (runeVals e.d)) (hi : Holds1 w iv (runeVals e.i)) (hll : l.length ≤ 35184372088832) (hdl : e.d.length ≤ 35184372088832) (hil : e.i.length ≤ 35184372088832) (h0 : standsP l e.p e.d = true) (k : Nat) (hk : e.p = (k : Int)) (hkl : k ≤ l.length) (h3 : k + e.d.length ≤ l.length) (h4 : (l.drop k).take e.d.length = e.d) (h5 : 1024 < l.length - e.d.length + e.i.length) :
    Calls Try.prog 10 #[lv, editV e.p dv iv] w (ApPost w l e) := by
  have _U := Lib.hid (And.intro hll (And.intro hdl hil))
  obtain ⟨A, c, rfl, hcap, -⟩ := id hl
  obtain ⟨A2, c2, rfl, -⟩ := id hd
  obtain ⟨A3, c3, rfl, -⟩ := id hi
  rw [runeVals_length] at hl hd hi hcap ⊢
  rw [runeVals_length]
  rw [runeVals_length]
  obtain ⟨w1, hw1⟩ : ∃ w1, w1 = w.alloc (.cells #[.int .i64 e.p, .slice A2 e.d.length c2, .slice A3 e.i.length c3] 24) := ⟨_, rfl⟩
  have b1 : Below w.heap.size w w1 := by rw [hw1]; exact (Below.refl _ _).alloc (Nat.le_refl _) _
  have X := Lib.hid (edit_cells hw1)
  have B := Lib.hid b1
  have HW1 := Lib.hid hw1
  have x0 := X.out.cell 0
  have x1 := X.out.cell 1
  have x2 := X.out.cell 2
  have hdn : ∀ n, Below w1.heap.size w1 (w1.drewN n) := fun n => ⟨rfl, rfl, rfl, Nat.le_refl _, fun _ _ => rfl⟩
  have HDN := Lib.hid hdn
  have HP := Lib.hid fun (W : World) (hb : Below w.heap.size w W) => ApPost.bad (l := l) (e := e) (c := 3) (by rw [apErr_cases3 h0, if_pos (by omega)]) (by decide) hb
  have g1 : (((e.i.length : Nat) : Int) > 1024 - ((l.length - e.d.length : Nat) : Int)) = True := eq_true (by omega)
  have g2 : (1024 - ((l.length - e.d.length : Nat) : Int) < ((e.i.length : Nat) : Int)) = True := eq_true (by omega)
  have v1 : l.length - e.d.length ≤ 35184372088832 := by omega
  have v2 : e.d.length ≤ l.length := by omega
  have i0 : ((k : Int) < 0) = False := by simp
  have i1 : ((k : Int) > (l.length : Int)) = False := eq_false (by omega)
  have i2 : ((l.length : Int) < (k : Int)) = False := eq_false (by omega)
  have i2' : (l.length < k) = False := eq_false (by omega)
  have i3 : (((e.d.length : Nat) : Int) > ((l.length - k : Nat) : Int)) = False := eq_false (by omega)
  have i4 : (((l.length - k : Nat) : Int) < ((e.d.length : Nat) : Int)) = False := eq_false (by omega)
  have i5 : (l.length - k < e.d.length) = False := eq_false (by omega)
  have u1 : k + e.d.length ≤ c := by omega
  have hmid := hl.mid (a := k) (b := k + e.d.length) (Nat.le_add_right _ _) h3
  rw [Nat.add_sub_cancel_left] at hmid
  have hpl : (l.take (k + e.d.length)).drop k = (l.drop k).take e.d.length := by rw [List.drop_take, Nat.add_sub_cancel_left]
  rw [hpl] at hmid
  have s1 := fun W => slice_runes A l.length c k (k + e.d.length) (Nat.le_add_right _ _) u1 W
  have s2 := fun W => sliceAt_runes A l.length c k (k + e.d.length) (Nat.le_add_right _ _) u1 W
  rw [Nat.add_sub_cancel_left] at s1 s2
  have u4 : k ≤ 35184372088832 := by omega
  have CS : Hid (∀ n, Calls Try.prog 14 #[.slice (tailA A c k 1) e.d.length (c - k), .slice A2 e.d.length c2] (w1.drewN n) fun x w' => x = .returned (.bool true) ∧ ∃ m, w' = (w1.drewN n).drewN m) := Lib.hid fun n => by
    have hb := b1.trans ((hdn n).mono b1.size)
    have hlt : ((l.drop k).take e.d.length).length = e.d.length := by rw [List.length_take, List.length_drop]; omega
    have hm2 : Holds1 (w1.drewN n) (.slice (tailA A c k 1) ((l.drop k).take e.d.length).length (c - k)) (runeVals ((l.drop k).take e.d.length)) := by rw [hlt]; exact hmid.below hb
    have := same_q (w1.drewN n) ((l.drop k).take e.d.length) e.d _ _ hm2 (hd.below hb) (by rw [hlt]; omega)
    rw [hlt, decide_eq_true h4] at this
    exact this
  have j1 := wi_sub hkl hll
  have j2 := wr_sub hkl hll
  have j3 := wi_add u4 hdl
  have j4 := wr_add u4 hdl
  have j5 := wi_sub v2 hll
  have j6 := wr_sub v2 hll
  have j7 := wr_1024 v1
  have j8 := wi_1024 v1
  obtain ⟨p, d, i⟩ := e
  dsimp only at *
  subst hk
  clear h0 hl hd hi hcap hll hdl hil b1 hw1 hdn hkl h3 h4 h5 u1 hmid hpl u4 v1 v2
  generalize l.length - d.length = nd at *
  generalize l.length - k = nk at *
  generalize tailA A c k 1 = TA at *
  generalize c - k = ck at *
  generalize k + d.length = km at *
  generalize l.length = n at *
  generalize d.length = m at *
  generalize i.length = m3 at *
  go_enter Try.func10, Try.ntmps10
  go_wp2_with fail
  rw [← HW1.out]
  go_quiet (first
    | (go_at_call 14; exact Calls.quiet_of (CS.out _)))
  go_wp2
  go_ret2
  exact HP.out _ (B.out.trans ((HDN.out _).mono B.out.size))
set_option maxRecDepth 1000000 in
set_option maxHeartbeats 4000000 in
theorem refap_ok (w : World) (l : List Int) (e : Ed) (lv dv iv : Value) (hl : Holds1 w lv (runeVals l)) (hd : Holds1 w dv (runeVals e.d)) (hi : Holds1 w iv (runeVals e.i)) (hll : l.length ≤ 35184372088832) (hdl : e.d.length ≤ 35184372088832) (hil : e.i.length ≤ 35184372088832) (h0 : standsP l e.p e.d = true) (k : Nat) (hk : e.p = (k : Int)) (hkl : k ≤ l.length) (h3 : k + e.d.length ≤ l.length) (h4 : (l.drop k).take e.d.length = e.d) (h5 : l.length - e.d.length + e.i.length ≤ 1024) :
    Calls Try.prog 10 #[lv, editV e.p dv iv] w (ApPost w l e) := by
  have _U := Lib.hid (And.intro hll (And.intro hdl hil))
  obtain ⟨A, c, rfl, hcap, -⟩ := id hl
  obtain ⟨A2, c2, rfl, -⟩ := id hd
  obtain ⟨A3, c3, rfl, -⟩ := id hi
  rw [runeVals_length] at hl hd hi hcap ⊢
  rw [runeVals_length]
  rw [runeVals_length]
  obtain ⟨w1, hw1⟩ : ∃ w1, w1 = w.alloc (.cells #[.int .i64 e.p, .slice A2 e.d.length c2, .slice A3 e.i.length c3] 24) := ⟨_, rfl⟩
  have b1 : Below w.heap.size w w1 := by rw [hw1]; exact (Below.refl _ _).alloc (Nat.le_refl _) _
  have X := Lib.hid (edit_cells hw1)
  have B := Lib.hid b1
  have HW1 := Lib.hid hw1
  have x0 := X.out.cell 0
  have x1 := X.out.cell 1
  have x2 := X.out.cell 2
  have hdn : ∀ n, Below w1.heap.size w1 (w1.drewN n) := fun n => ⟨rfl, rfl, rfl, Nat.le_refl _, fun _ _ => rfl⟩
  have HDN := Lib.hid hdn
  have herr : apErr l e = 0 := by rw [apErr_cases3 h0, if_neg (by omega)]
  have HP := Lib.hid fun (W : World) (A n c : _) (hr : RRow W w.heap.size (.slice A n c) (apLine l e)) (hb : Below w.heap.size w W) => show ApPost w l e (.returned (.tuple #[.slice A n c, .int .i64 0])) W from ⟨A, n, c, by rw [herr], by unfold apRes; rw [if_pos herr]; exact hr, hb⟩
  have HAL : Hid (apLine l e = (l.take k ++ e.i) ++ l.drop (k + e.d.length)) := Lib.hid (by unfold apLine; rw [hk, Int.toNat_natCast, List.append_assoc])
  have g1 : (((e.i.length : Nat) : Int) > 1024 - ((l.length - e.d.length : Nat) : Int)) = False := eq_false (by omega)
  have g2 : (1024 - ((l.length - e.d.length : Nat) : Int) < ((e.i.length : Nat) : Int)) = False := eq_false (by omega)
  have v1 : l.length - e.d.length ≤ 35184372088832 := by omega
  have v2 : e.d.length ≤ l.length := by omega
  have hlt : (l.take k).length = k := by rw [List.length_take]; omega
  have hld : (l.drop (k + e.d.length)).length = l.length - (k + e.d.length) := List.length_drop
  have u7 : k ≤ c := by omega
  have HTK := Lib.hid fun (W : World) (hb : Below w.heap.size w W) => show Holds1 W (.slice A k c) (runeVals (l.take k)) from (hl.head (k := k) (by omega)).below hb
  have HTD := Lib.hid fun (W : World) (hb : Below w.heap.size w W) => show Holds1 W (.slice (tailA A c (k + e.d.length) 1) (l.length - (k + e.d.length)) (c - (k + e.d.length))) (runeVals (l.drop (k + e.d.length))) from (hl.tail h3).below hb
  have HI := Lib.hid fun (W : World) (hb : Below w.heap.size w W) => hi.below hb
  have HSZ : Hid (k ≤ 1024 ∧ e.i.length ≤ 1024 ∧ (l.drop (k + e.d.length)).length ≤ 1024 ∧ (l.take k).length ≤ 1024) := Lib.hid (by rw [hld, hlt]; omega)
  have CC : Hid (∀ W, Below w.heap.size w W → Calls Try.prog 47 #[.slice A k c] W fun x w' => ∃ A' n' c', x = .returned (.slice A' n' c') ∧ RRow w' W.heap.size (.slice A' n' c') (l.take k) ∧ Below W.heap.size W w') := Lib.hid fun W hb => by
    refine (clone_any W _ (l.take k) (HTK.out W hb) (by have := HSZ.out; omega)).mono ?_
    rintro x w' ⟨r, rfl, h1, h2⟩
    obtain ⟨Ar, nr, cr, rfl⟩ := h1.form3
    exact ⟨Ar, nr, cr, rfl, h1, h2⟩
  have s3 := fun W => slice_to A l.length c k u7 W
  have s4 := fun W => sliceAt_to A l.length c k u7 W
  have s5 := fun W => slice_at A l.length c (k + e.d.length) h3 W
  have s6 := fun W => sliceAt_from A l.length c (k + e.d.length) h3 W
  have i0 : ((k : Int) < 0) = False := by simp
  have i1 : ((k : Int) > (l.length : Int)) = False := eq_false (by omega)
  have i2 : ((l.length : Int) < (k : Int)) = False := eq_false (by omega)
  have i2' : (l.length < k) = False := eq_false (by omega)
  have i3 : (((e.d.length : Nat) : Int) > ((l.length - k : Nat) : Int)) = False := eq_false (by omega)
  have i4 : (((l.length - k : Nat) : Int) < ((e.d.length : Nat) : Int)) = False := eq_false (by omega)
  have i5 : (l.length - k < e.d.length) = False := eq_false (by omega)
  have u1 : k + e.d.length ≤ c := by omega
  have hmid := hl.mid (a := k) (b := k + e.d.length) (Nat.le_add_right _ _) h3
  rw [Nat.add_sub_cancel_left] at hmid
  have hpl : (l.take (k + e.d.length)).drop k = (l.drop k).take e.d.length := by rw [List.drop_take, Nat.add_sub_cancel_left]
  rw [hpl] at hmid
  have s1 := fun W => slice_runes A l.length c k (k + e.d.length) (Nat.le_add_right _ _) u1 W
  have s2 := fun W => sliceAt_runes A l.length c k (k + e.d.length) (Nat.le_add_right _ _) u1 W
  rw [Nat.add_sub_cancel_left] at s1 s2
  have u4 : k ≤ 35184372088832 := by omega
  have CS : Hid (∀ n, Calls Try.prog 14 #[.slice (tailA A c k 1) e.d.length (c - k), .slice A2 e.d.length c2] (w1.drewN n) fun x w' => x = .returned (.bool true) ∧ ∃ m, w' = (w1.drewN n).drewN m) := Lib.hid fun n => by
    have hb := b1.trans ((hdn n).mono b1.size)
    have hlt : ((l.drop k).take e.d.length).length = e.d.length := by rw [List.length_take, List.length_drop]; omega
    have hm2 : Holds1 (w1.drewN n) (.slice (tailA A c k 1) ((l.drop k).take e.d.length).length (c - k)) (runeVals ((l.drop k).take e.d.length)) := by rw [hlt]; exact hmid.below hb
    have := same_q (w1.drewN n) ((l.drop k).take e.d.length) e.d _ _ hm2 (hd.below hb) (by rw [hlt]; omega)
    rw [hlt, decide_eq_true h4] at this
    exact this
  have j1 := wi_sub hkl hll
  have j2 := wr_sub hkl hll
  have j3 := wi_add u4 hdl
  have j4 := wr_add u4 hdl
  have j5 := wi_sub v2 hll
  have j6 := wr_sub v2 hll
  have j7 := wr_1024 v1
  have j8 := wi_1024 v1
  obtain ⟨p, d, i⟩ := e
  dsimp only at *
  subst hk
  clear h0 hl hd hi hcap hll hdl hil b1 hw1 hdn hkl h3 h4 h5 u1 hmid hpl u4 v1 v2 u7 hlt hld herr
  generalize apLine l ⟨k, d, i⟩ = al at *
  generalize l.take k = lt at *
  generalize l.drop (k + d.length) = ld at *
  generalize tailA A c (k + d.length) 1 = TD at *
  generalize l.length - (k + d.length) = nkm at *
  generalize c - (k + d.length) = ckm at *
  generalize l.length - d.length = nd at *
  generalize l.length - k = nk at *
  generalize tailA A c k 1 = TA at *
  generalize c - k = ck at *
  generalize k + d.length = km at *
  generalize l.length = n at *
  generalize d.length = m at *
  generalize hm3 : i.length = m3 at *
  have HM3 := Lib.hid hm3
  clear hm3
  go_enter Try.func10, Try.ntmps10
  go_wp2_with fail
  rw [← HW1.out]
  go_quiet (first
    | (go_at_call 14; exact Calls.quiet_of (CS.out _)))
  have x0' : (w1.drewN nq).cell? ⟨w.heap.size, 0, none⟩ = some (.int .i64 (k : Int)) := x0
  have x1' : (w1.drewN nq).cell? ⟨w.heap.size, 1, none⟩ = some (.slice A2 m c2) := x1
  have x2' : (w1.drewN nq).cell? ⟨w.heap.size, 2, none⟩ = some (.slice A3 m3 c3) := x2
  have D := Lib.hid (HDN.out nq)
  go_wp2_with (first
    | (go_at_call 47; refine (CC.out _ (B.out.trans (D.out.mono B.out.size))).mono ?_; rintro e w3 ⟨A5, n5, c5, rfl, hr, hb⟩; have R := Lib.hid hr; have HBS := Lib.hid hb.size; have D := Lib.hid (D.out.trans (hb.mono D.out.size)); have y0 := (X.out.below D.out).cell 0; have y1 := (X.out.below D.out).cell 1; have y2 := (X.out.below D.out).cell 2; clear hr hb)
    | (at_builtin; refine wpList_append_runes (by rfl) _ _ (by rfl) (w1.drewN nq).heap.size _ lt (by rfl) R.out A3 m3 c3 i (by rfl) (HI.out _ (B.out.trans (D.out.mono B.out.size))) (by have := HSZ.out; have := HM3.out; omega) HBS.out ?_; intro v6 w6 hr hb _; obtain ⟨A6, n6, c6, rfl⟩ := RRow.form3 hr; have R := Lib.hid (show RRow w6 _ _ (lt ++ i) from hr); have HBS := Lib.hid hb.size; have D := Lib.hid (D.out.trans (show Below w1.heap.size w3 w6 from hb)); have y0 := (X.out.below D.out).cell 0; have y1 := (X.out.below D.out).cell 1; have y2 := (X.out.below D.out).cell 2; clear hr hb)
    | (at_builtin; refine wpList_append_runes (by rfl) _ _ (by rfl) (w1.drewN nq).heap.size _ (lt ++ i) (by rfl) R.out TD nkm ckm ld (by rfl) (HTD.out _ (B.out.trans (D.out.mono B.out.size))) (by have := HSZ.out; have := HM3.out; rw [List.length_append]; omega) (show w1.heap.size ≤ _ from D.out.size) ?_; intro v7 w7 hr hb _; obtain ⟨A7, n7, c7, rfl⟩ := RRow.form3 hr; have R := Lib.hid (show RRow w7 _ _ ((lt ++ i) ++ ld) from hr); have D := Lib.hid (D.out.trans (show Below w1.heap.size w6 w7 from hb)); clear hr hb))
  go_ret2
  exact HP.out _ _ _ _ (by rw [HAL.out]; exact R.out.less B.out.size) (B.out.trans (D.out.mono B.out.size))
theorem refApply_any (w : World) (l : List Int) (e : Ed) (lv dv iv : Value) (hl : Holds1 w lv (runeVals l)) (hd : Holds1 w dv (runeVals e.d)) (hi : Holds1 w iv (runeVals e.i)) (hll : l.length ≤ 35184372088832) (hdl : e.d.length ≤ 35184372088832) (hil : e.i.length ≤ 35184372088832) :
    Calls Try.prog 10 #[lv, editV e.p dv iv] w (ApPost w l e) := by
  by_cases h0 : standsP l e.p e.d = true
  · have hs := h0
    unfold standsP at hs
    rw [decide_eq_true_iff] at hs
    obtain ⟨h1, h2, h3⟩ := hs
    have hlen := congrArg List.length h3
    rw [List.length_take, List.length_drop] at hlen
    by_cases h5 : 1024 < l.length - e.d.length + e.i.length
    · exact refap_long w l e lv dv iv hl hd hi hll hdl hil h0 e.p.toNat (by omega) (by omega) (by omega) h3 h5
    · exact refap_ok w l e lv dv iv hl hd hi hll hdl hil h0 e.p.toNat (by omega) (by omega) (by omega) h3 (by omega)
  · have h0' : standsP l e.p e.d = false := by simpa using h0
    by_cases h1 : e.p < 0
    · exact refap_neg w l e lv dv iv hl hd hi hll hdl hil h0' h1
    · by_cases h2 : (l.length : Int) < e.p
      · exact refap_big w l e lv dv iv hl hd hi hll hdl hil h0' h1 h2
      · by_cases h3 : l.length - e.p.toNat < e.d.length
        · exact refap_short w l e lv dv iv hl hd hi hll hdl hil h0' e.p.toNat (by omega) (by omega) h3
        · refine refap_other w l e lv dv iv hl hd hi hll hdl hil h0' e.p.toNat (by omega) (by omega) (by omega) fun h4 => ?_
          unfold standsP at h0
          rw [decide_eq_true_iff] at h0
          exact h0 ⟨by omega, by omega, h4⟩
end Go.Proofs.Ytjgjbdpknfplkaa
