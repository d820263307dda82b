/-
  Kills that go on, behind or ahead, are yanked as one text, as it stood: the walk.
-/
import Derived.Test.YtknekldnipdpeaaKrJoinsP
namespace Go.Proofs.Ytknekldnipdpeaa
open Go.RowKit Go.Shelf Go.Lib
attribute [local go_sem] Oper.semAt_some

set_option maxRecDepth 1000000 in
set_option maxHeartbeats 4000000 in
theorem joins_empty (w : World) (f : List Int) (A0 : Option Addr) (n0 c0 : Nat) (hf : Holds1 w (.slice A0 n0 c0) (runeVals f)) (hfl : f.length ≤ 35184372087808) (v : Value) (back : Bool) (hn0 : n0 = 0) : Calls Try.prog 6 #[.slice A0 n0 c0, v, .bool back] w fun e w' => e = .returned (.bool true) ∧ Below w.heap.size w w' := by
  have CN := Lib.hid (new_any w)
  have CL := Lib.hid fun W => live_any W
  have HF := Lib.hid hf
  have HL0 : Hid (([] : List Int).length + f.length ≤ 35184372088832) := Lib.hid (by simp; omega)
  subst hn0
  clear hf hfl
  go_enter Try.func6, Try.ntmps6
  go_wp2_with (first
    | (go_at_call 9; refine (CN.out).mono ?_; rintro e w1 ⟨rfl, hr, hb⟩; have R := Lib.hid hr; have B := Lib.hid hb; have HG := Lib.hid hr.lt; clear hr hb)
    | (go_at_call 10; refine (CL.out _).mono ?_; rintro e w2 ⟨rfl, hb⟩; have R := Lib.hid (R.out.below hb); have hbn : Below w2.heap.size w2 (w2.alloc (.cells #[] 21)) := (Below.refl _ _).alloc (Nat.le_refl _) _; have R1 := Lib.hid (R.out.below hbn); have HG2 := Lib.hid (Nat.lt_of_lt_of_le HG.out hb.size); have B := Lib.hid (B.out.trans (hb.mono B.out.size)); have B1 := Lib.hid (B.out.trans (hbn.mono B.out.size)); have HS2 := Lib.hid hbn; clear hb hbn)
    | (at_builtin; refine wpList_append_runes2 (by rfl) _ _ (by rfl) w2.heap.size (.slice (some ⟨w2.heap.size, 0, none⟩) 0 0) [] (by rfl) (RRow.fresh w2 (Nat.le_refl _)) A0 _ c0 f (by rfl) (HF.out.below B1.out) HL0.out (by simp) ?_; rintro A3 n3 c3 w3 hn3 hrow hb3 hg3 ho3; rw [List.nil_append] at hrow hn3; have R3 := Lib.hid (R1.out.to (Agree.of_touch (Touch.of_grown (T := fun k => (Value.slice (some ⟨w2.heap.size, 0, none⟩) 0 0).ownBlock = some k) hg3 fun _ h => h) fun k hk e => by simp [Value.ownBlock] at e; have := HG2.out; rcases hk with hk | hk; exact hk; omega)); have ROW3 := Lib.hid hrow; have B3 := Lib.hid (B.out.trans ((HS2.out.trans hb3).mono B.out.size)); clear hrow hb3 hg3 ho3 hn3))
  go_ret
  exact ⟨rfl, B3.out⟩
set_option maxRecDepth 1000000 in
set_option maxHeartbeats 4000000 in
theorem joins_long (w : World) (f : List Int) (A0 : Option Addr) (n0 c0 : Nat) (hf : Holds1 w (.slice A0 n0 c0) (runeVals f)) (hfl : f.length ≤ 35184372087808) (v : Value) (back : Bool) (hn0 : 1024 < n0) : Calls Try.prog 6 #[.slice A0 n0 c0, v, .bool back] w fun e w' => e = .returned (.bool true) ∧ Below w.heap.size w w' := by
  have CN := Lib.hid (new_any w)
  have CL := Lib.hid fun W => live_any W
  have HF := Lib.hid hf
  have HL0 : Hid (([] : List Int).length + f.length ≤ 35184372088832) := Lib.hid (by simp; omega)
  have p1 : ((n0 : Int) = 0) = False := eq_false (by omega)
  have p2 : (n0 = 0) = False := eq_false (by omega)
  have p3 : ((n0 : Int) == 0) = false := by simp; omega
  have p4 : ((n0 : Int) > 1024) = True := eq_true (by omega)
  have p5 : ((1024 : Int) < (n0 : Int)) = True := eq_true (by omega)
  have p6 : (1024 < n0) = True := eq_true hn0
  clear hn0
  clear hf hfl
  go_enter Try.func6, Try.ntmps6
  go_wp2_with (first
    | (go_at_call 9; refine (CN.out).mono ?_; rintro e w1 ⟨rfl, hr, hb⟩; have R := Lib.hid hr; have B := Lib.hid hb; have HG := Lib.hid hr.lt; clear hr hb)
    | (go_at_call 10; refine (CL.out _).mono ?_; rintro e w2 ⟨rfl, hb⟩; have R := Lib.hid (R.out.below hb); have hbn : Below w2.heap.size w2 (w2.alloc (.cells #[] 21)) := (Below.refl _ _).alloc (Nat.le_refl _) _; have R1 := Lib.hid (R.out.below hbn); have HG2 := Lib.hid (Nat.lt_of_lt_of_le HG.out hb.size); have B := Lib.hid (B.out.trans (hb.mono B.out.size)); have B1 := Lib.hid (B.out.trans (hbn.mono B.out.size)); have HS2 := Lib.hid hbn; clear hb hbn)
    | (at_builtin; refine wpList_append_runes2 (by rfl) _ _ (by rfl) w2.heap.size (.slice (some ⟨w2.heap.size, 0, none⟩) 0 0) [] (by rfl) (RRow.fresh w2 (Nat.le_refl _)) A0 _ c0 f (by rfl) (HF.out.below B1.out) HL0.out (by simp) ?_; rintro A3 n3 c3 w3 hn3 hrow hb3 hg3 ho3; rw [List.nil_append] at hrow hn3; have R3 := Lib.hid (R1.out.to (Agree.of_touch (Touch.of_grown (T := fun k => (Value.slice (some ⟨w2.heap.size, 0, none⟩) 0 0).ownBlock = some k) hg3 fun _ h => h) fun k hk e => by simp [Value.ownBlock] at e; have := HG2.out; rcases hk with hk | hk; exact hk; omega)); have ROW3 := Lib.hid hrow; have B3 := Lib.hid (B.out.trans ((HS2.out.trans hb3).mono B.out.size)); clear hrow hb3 hg3 ho3 hn3))
  go_ret
  exact ⟨rfl, B3.out⟩
set_option maxRecDepth 1000000 in
set_option maxHeartbeats 8000000 in
theorem joins_fwd (w : World) (f : List Int) (A0 : Option Addr) (n0 c0 : Nat) (hf : Holds1 w (.slice A0 n0 c0) (runeVals f)) (hn0 : n0 = f.length) (hfl : f.length ≤ 1024) (hf0 : f ≠ []) (ls : List (List Int)) (A : Option Addr) (n c : Nat) (h : Mat w (.slice A n c) ls) : Calls Try.prog 6 #[.slice A0 n0 c0, .slice A n c, .bool false] w fun e w' => e = .returned (.bool true) ∧ Below w.heap.size w w' := by
  have hn : n = ls.length := by
    obtain ⟨A', c', e⟩ := h.form
    injection e
  have CN := Lib.hid (new_any w)
  have CL := Lib.hid fun W => live_any W
  have HF := Lib.hid hf
  have HL0 : Hid (([] : List Int).length + f.length ≤ 35184372088832) := Lib.hid (by simp; omega)
  have HFL := Lib.hid hfl
  have hfp : 0 < f.length := List.length_pos_iff.2 hf0
  have p1 : ((n0 : Int) = 0) = False := eq_false (by omega)
  have p2 : (n0 = 0) = False := eq_false (by omega)
  have p3 : ((n0 : Int) == 0) = false := by simp; omega
  have p4 : ((n0 : Int) > 1024) = False := eq_false (by omega)
  have p5 : ((1024 : Int) < (n0 : Int)) = False := eq_false (by omega)
  have p6 : (1024 < n0) = False := eq_false (by omega)
  have HK0 : Hid (killErr ks0 0 f = 0 ∧ killS ks0 0 f = ⟨[f], 0⟩) := Lib.hid (by
    have h1 : killErr ks0 0 f = 0 := by unfold killErr; rw [if_neg (by simp), if_neg (by omega), if_pos rfl]
    refine ⟨h1, ?_⟩
    unfold killS
    rw [if_neg (by rw [h1]; simp), if_pos rfl, if_neg hf0]
    rfl)
  have CK0 : Hid (∀ W K, RAt K W w.heap.size ks0 → Below w.heap.size w W → Calls Try.prog 11 #[.pointer (some ⟨w.heap.size, 0, none⟩), .int .i64 0, .slice A0 n0 c0] W (KPost K W w.heap.size 0 ⟨[f], 0⟩)) := Lib.hid fun W K hR hb => by
    have := kill_any W w.heap.size ks0 hR 0 _ f (hf.below hb)
    rwa [HK0.out.1, HK0.out.2] at this
  have HM := Lib.hid h
  have HN := Lib.hid hn
  have HLEN : Hid (n ≤ 140737488355328) := Lib.hid (by rw [hn]; exact h.len)
  clear hf hfl hf0 hfp h hn hn0
  go_enter Try.func6, Try.ntmps6
  go_wp2_with (first
    | (go_at_call 9; refine (CN.out).mono ?_; rintro e w1 ⟨rfl, hr, hb⟩; have R := Lib.hid hr; have B := Lib.hid hb; have HG := Lib.hid hr.lt; clear hr hb)
    | (go_at_call 10; refine (CL.out _).mono ?_; rintro e w2 ⟨rfl, hb⟩; have R := Lib.hid (R.out.below hb); have hbn : Below w2.heap.size w2 (w2.alloc (.cells #[] 21)) := (Below.refl _ _).alloc (Nat.le_refl _) _; have R1 := Lib.hid (R.out.below hbn); have HG2 := Lib.hid (Nat.lt_of_lt_of_le HG.out hb.size); have B := Lib.hid (B.out.trans (hb.mono B.out.size)); have B1 := Lib.hid (B.out.trans (hbn.mono B.out.size)); have HS2 := Lib.hid hbn; clear hb hbn)
    | (at_builtin; refine wpList_append_runes2 (by rfl) _ _ (by rfl) w2.heap.size (.slice (some ⟨w2.heap.size, 0, none⟩) 0 0) [] (by rfl) (RRow.fresh w2 (Nat.le_refl _)) A0 _ c0 f (by rfl) (HF.out.below B1.out) HL0.out (by simp) ?_; rintro A3 n3 c3 w3 hn3 hrow hb3 hg3 ho3; rw [List.nil_append] at hrow hn3; have R3 := Lib.hid (R1.out.to (Agree.of_touch (Touch.of_grown (T := fun k => (Value.slice (some ⟨w2.heap.size, 0, none⟩) 0 0).ownBlock = some k) hg3 fun _ h => h) fun k hk e => by simp [Value.ownBlock] at e; have := HG2.out; rcases hk with hk | hk; exact hk; omega)); have ROW3 := Lib.hid hrow; have B3 := Lib.hid (B.out.trans ((HS2.out.trans hb3).mono B.out.size)); clear hrow hb3 hg3 ho3 hn3)
    | (go_at_call 11; refine (CK0.out _ _ R3.out B3.out).mono ?_; rintro e w4 ⟨rfl, hr, ht⟩; have J4 : Hid (JI w w4 w.heap.size (.slice A3 n3 c3) f) := Lib.hid ⟨⟨_, hr, fun k hk => by
        have h1 := own_lt ROW3.out k hk
        have h2 := HG2.out
        exact ⟨by rintro (h | ⟨h, _⟩); exact h; omega, by omega⟩⟩, own_same (own_less ROW3.out B.out.size) fun k hk => ht.block k (own_lt ROW3.out k hk).2 (by have h1 := own_lt ROW3.out k hk; have h2 := HG2.out; simp only [Only]; omega), HFL.out, B3.out.trans (ht.below B3.out.size fun k hk => by simp only [Only] at hk; omega), Nat.le_refl _⟩; clear hr ht))
  go_loopw [8, 48] (fun av i wr => ∃ (k : Nat) (xs : List Int), k ≤ n ∧ i = .int .i64 (k : Int) ∧ JI w wr w.heap.size av xs) (fun _ i _ => n - (RowKit.intOf i).toNat)
  case atStart => exact ⟨0, f, Nat.zero_le _, rfl, J4.out⟩
  case round =>
    obtain ⟨k, xs, hk, rfl, hJ⟩ := hrel
    obtain ⟨Aa, ca, rfl⟩ := hJ.all.form
    have HJ := Lib.hid hJ
    by_cases hlt : k < n
    · obtain ⟨x, hx⟩ : ∃ x, ls[k]? = some x := ⟨_, List.getElem?_eq_getElem (by rw [← HN.out]; exact hlt)⟩
      obtain ⟨bb, off, A2, c2, hA, hbl, hcell0, hh, hx1⟩ := HM.out.at hx
      have hcell := (hJ.b.cell (p := ⟨bb, off + k, none⟩) hbl).trans hcell0
      subst hA
      have CK := Lib.hid (hJ.kill 1 (by decide) (hh.below hJ.b))
      have HH : Hid (Holds1 w (.slice A2 x.length c2) (runeVals x)) := Lib.hid hh
      have i1 : (0 : Int) ≤ (k : Int) := by omega
      have i2 : ((k : Int) < (n : Int)) = True := eq_true (by omega)
      have i3 : (k < n) = True := eq_true hlt
      have HLT := Lib.hid hlt
      have hxs := hJ.len
      have hwk : wrap64 ((k : Int) + 1) = (k : Int) + 1 := by have := HLEN.out; unfold wrap64; omega
      obtain ⟨s, hs⟩ : ∃ s, s = xs.length + x.length := ⟨_, rfl⟩
      have j1 : wrap64 ((xs.length : Int) + (x.length : Int)) = (s : Int) := by unfold wrap64; omega
      have j2 : IntKind.i64.wrap ((xs.length : Int) + (x.length : Int)) = (s : Int) := by rw [IntWalk.i64_in _ (by omega)]; omega
      rw [← hs] at CK
      have HSX := Lib.hid hs
      have HXS := Lib.hid hxs
      by_cases hlong : 1024 < s
      · have q1 : ((s : Int) > 1024) = True := eq_true (by omega)
        have q2 : ((1024 : Int) < (s : Int)) = True := eq_true (by omega)
        have q3 : (1024 < s) = True := eq_true hlong
        have CK' : Hid (Calls Try.prog 11 #[.pointer (some ⟨w.heap.size, 0, none⟩), .int .i64 1, .slice A2 x.length c2] wr fun e w' => e = .returned (.int .i64 3) ∧ JI w w' w.heap.size (.slice Aa xs.length ca) xs) := Lib.hid (CK.out.mono (by
          rintro e w' ⟨_, _, ⟨_, h1, h2⟩ | ⟨h1, _⟩⟩
          · exact ⟨h1, h2⟩
          · exact absurd hlong h1))
        clear hJ hk hh hbl hx hx1 hlt hxs hs hcell0 CK hlong
        generalize xs.length = xl at *
        generalize x.length = yl at *
        go_wp2_with (first
          | (go_at_call 11; refine (CK'.out).mono ?_; rintro e w5 ⟨rfl, hj⟩; have J5 := Lib.hid hj; clear hj))
        go_roundw
        case rel => exact ⟨k + 1, xs, HLT.out, next_val hwk, J5.out⟩
        case measure => exact measure_lt HLT.out hwk
      · have q1 : ((s : Int) > 1024) = False := eq_false (by omega)
        have q2 : ((1024 : Int) < (s : Int)) = False := eq_false (by omega)
        have q3 : (1024 < s) = False := eq_false hlong
        have CK' : Hid (Calls Try.prog 11 #[.pointer (some ⟨w.heap.size, 0, none⟩), .int .i64 1, .slice A2 x.length c2] wr fun e w' => e = .returned (.int .i64 0) ∧ (∃ K, RAt K w' w.heap.size ⟨[joinP 1 xs x], 0⟩ ∧ (∀ k, (Value.slice Aa xs.length ca).ownBlock = some k → ¬ K k ∧ k ≠ w.heap.size)) ∧ Below w.heap.size w w' ∧ RRow w' w.heap.size (.slice Aa xs.length ca) xs) := Lib.hid (CK.out.mono (by
          rintro e w' ⟨hb, hrow, ⟨h0, _⟩ | ⟨_, h1, h2⟩⟩
          · exact absurd h0 hlong
          · exact ⟨h1, h2, hb, hrow⟩))
        have HXX : Hid (s ≤ 1024) := Lib.hid (by omega)
        clear hJ hk hh hbl hx hx1 hlt hxs hs hcell0 CK hlong
        generalize hxl : xs.length = xl at *
        generalize hyl : x.length = yl at *
        have hj2 : joinP 1 xs x = xs ++ x := if_neg (by decide)
        have HLL : Hid (xs.length + x.length ≤ 35184372088832) := Lib.hid (by have := HSX.out; have := HXX.out; omega)
        have HLY : Hid ((xs ++ x).length ≤ 1024) := Lib.hid (by rw [List.length_append]; have := HSX.out; have := HXX.out; omega)
        rw [hj2] at CK'
        clear hj2 hxl hyl
        go_wp2_with (first
          | (go_at_call 11; refine (CK'.out).mono ?_; rintro e w5 ⟨rfl, ⟨K5, hR5, hK5⟩, hb5, hrow5⟩; have R5 := Lib.hid hR5; have K5' := Lib.hid hK5; have B5 := Lib.hid hb5; have ROW5 := Lib.hid hrow5; clear hR5 hK5 hb5 hrow5)
          | (at_builtin; refine wpList_append_runes2 (by rfl) _ _ (by rfl) w.heap.size (.slice Aa xl ca) xs (by rfl) ROW5.out A2 yl c2 x (by rfl) (HH.out.below B5.out) HLL.out B5.out.size ?_; rintro A6 n6 c6 w6 hn6 hrow6 hb6 hg6 ho6; have J6 := Lib.hid (JI.grown R5.out K5'.out B5.out (Nat.le_refl _) HLY.out hrow6 hb6 hg6 ho6); clear hrow6 hb6 hg6 ho6 hn6))
        go_roundw
        case rel => exact ⟨k + 1, xs ++ x, HLT.out, next_val hwk, J6.out⟩
        case measure => exact measure_lt HLT.out hwk
    · obtain rfl : k = n := by omega
      have i2 : ((k : Int) < (k : Int)) = False := by simp
      obtain ⟨K, hR, hK⟩ := hJ.ring
      have CY := Lib.hid (yank_at wr w.heap.size [xs] 0 xs hR rfl)
      have R := Lib.hid hR
      have CE : Hid (∀ W B3 A3 c3, RRow W B3 (.slice A3 xs.length c3) xs → Below wr.heap.size wr W → Calls Try.prog 18 #[.slice A3 xs.length c3, .slice Aa xs.length ca] W fun e w' => e = .returned (.bool true) ∧ Below W.heap.size W w') := Lib.hid fun W B3 A3 c3 h1 h2 => eq_same W xs _ _ h1.holds (hJ.all.below h2).holds (by have := hJ.len; omega)
      have CLn : Hid (∀ W, RAt K W w.heap.size ⟨[xs], 0⟩ → Calls Try.prog 22 #[.pointer (some ⟨w.heap.size, 0, none⟩)] W fun e w' => e = .returned (.int .i64 1) ∧ W = w') := Lib.hid fun W hR => len_any W _ _ hR
      clear hlt hk hJ hR hK
      generalize xs.length = xl at *
      go_wp2_with (first
        | (go_at_call 13; refine (CY.out).mono ?_; rintro e w5 ⟨A5, c5, rfl, hrr, hb⟩; have RY := Lib.hid hrr; have R5 := Lib.hid (R.out.below hb); have B5 := Lib.hid hb; clear hrr hb)
        | (go_at_call 18; refine (CE.out _ _ _ _ RY.out B5.out).mono ?_; rintro e w6 ⟨rfl, hb⟩; have R6 := Lib.hid (R5.out.below hb); have B6 := Lib.hid (B5.out.trans (hb.mono B5.out.size)); clear hb)
        | (go_at_call 22; refine (CLn.out _ R6.out).mono ?_; rintro e w7 ⟨rfl, rfl⟩))
      go_ret
      exact ⟨rfl, HJ.out.b.trans (B6.out.mono HJ.out.b.size)⟩
set_option maxRecDepth 1000000 in
set_option maxHeartbeats 8000000 in
theorem joins_bwd (w : World) (f : List Int) (A0 : Option Addr) (n0 c0 : Nat) (hf : Holds1 w (.slice A0 n0 c0) (runeVals f)) (hn0 : n0 = f.length) (hfl : f.length ≤ 1024) (hf0 : f ≠ []) (ls : List (List Int)) (A : Option Addr) (n c : Nat) (h : Mat w (.slice A n c) ls) : Calls Try.prog 6 #[.slice A0 n0 c0, .slice A n c, .bool true] w fun e w' => e = .returned (.bool true) ∧ Below w.heap.size w w' := by
  have hn : n = ls.length := by
    obtain ⟨A', c', e⟩ := h.form
    injection e
  have CN := Lib.hid (new_any w)
  have CL := Lib.hid fun W => live_any W
  have HF := Lib.hid hf
  have HL0 : Hid (([] : List Int).length + f.length ≤ 35184372088832) := Lib.hid (by simp; omega)
  have HFL := Lib.hid hfl
  have hfp : 0 < f.length := List.length_pos_iff.2 hf0
  have p1 : ((n0 : Int) = 0) = False := eq_false (by omega)
  have p2 : (n0 = 0) = False := eq_false (by omega)
  have p3 : ((n0 : Int) == 0) = false := by simp; omega
  have p4 : ((n0 : Int) > 1024) = False := eq_false (by omega)
  have p5 : ((1024 : Int) < (n0 : Int)) = False := eq_false (by omega)
  have p6 : (1024 < n0) = False := eq_false (by omega)
  have HK0 : Hid (killErr ks0 0 f = 0 ∧ killS ks0 0 f = ⟨[f], 0⟩) := Lib.hid (by
    have h1 : killErr ks0 0 f = 0 := by unfold killErr; rw [if_neg (by simp), if_neg (by omega), if_pos rfl]
    refine ⟨h1, ?_⟩
    unfold killS
    rw [if_neg (by rw [h1]; simp), if_pos rfl, if_neg hf0]
    rfl)
  have CK0 : Hid (∀ W K, RAt K W w.heap.size ks0 → Below w.heap.size w W → Calls Try.prog 11 #[.pointer (some ⟨w.heap.size, 0, none⟩), .int .i64 0, .slice A0 n0 c0] W (KPost K W w.heap.size 0 ⟨[f], 0⟩)) := Lib.hid fun W K hR hb => by
    have := kill_any W w.heap.size ks0 hR 0 _ f (hf.below hb)
    rwa [HK0.out.1, HK0.out.2] at this
  have HM := Lib.hid h
  have HN := Lib.hid hn
  have HLEN : Hid (n ≤ 140737488355328) := Lib.hid (by rw [hn]; exact h.len)
  clear hf hfl hf0 hfp h hn hn0
  go_enter Try.func6, Try.ntmps6
  go_wp2_with (first
    | (go_at_call 9; refine (CN.out).mono ?_; rintro e w1 ⟨rfl, hr, hb⟩; have R := Lib.hid hr; have B := Lib.hid hb; have HG := Lib.hid hr.lt; clear hr hb)
    | (go_at_call 10; refine (CL.out _).mono ?_; rintro e w2 ⟨rfl, hb⟩; have R := Lib.hid (R.out.below hb); have hbn : Below w2.heap.size w2 (w2.alloc (.cells #[] 21)) := (Below.refl _ _).alloc (Nat.le_refl _) _; have R1 := Lib.hid (R.out.below hbn); have HG2 := Lib.hid (Nat.lt_of_lt_of_le HG.out hb.size); have B := Lib.hid (B.out.trans (hb.mono B.out.size)); have B1 := Lib.hid (B.out.trans (hbn.mono B.out.size)); have HS2 := Lib.hid hbn; clear hb hbn)
    | (at_builtin; refine wpList_append_runes2 (by rfl) _ _ (by rfl) w2.heap.size (.slice (some ⟨w2.heap.size, 0, none⟩) 0 0) [] (by rfl) (RRow.fresh w2 (Nat.le_refl _)) A0 _ c0 f (by rfl) (HF.out.below B1.out) HL0.out (by simp) ?_; rintro A3 n3 c3 w3 hn3 hrow hb3 hg3 ho3; rw [List.nil_append] at hrow hn3; have R3 := Lib.hid (R1.out.to (Agree.of_touch (Touch.of_grown (T := fun k => (Value.slice (some ⟨w2.heap.size, 0, none⟩) 0 0).ownBlock = some k) hg3 fun _ h => h) fun k hk e => by simp [Value.ownBlock] at e; have := HG2.out; rcases hk with hk | hk; exact hk; omega)); have ROW3 := Lib.hid hrow; have B3 := Lib.hid (B.out.trans ((HS2.out.trans hb3).mono B.out.size)); clear hrow hb3 hg3 ho3 hn3)
    | (go_at_call 11; refine (CK0.out _ _ R3.out B3.out).mono ?_; rintro e w4 ⟨rfl, hr, ht⟩; have J4 : Hid (JI w w4 w.heap.size (.slice A3 n3 c3) f) := Lib.hid ⟨⟨_, hr, fun k hk => by
        have h1 := own_lt ROW3.out k hk
        have h2 := HG2.out
        exact ⟨by rintro (h | ⟨h, _⟩); exact h; omega, by omega⟩⟩, own_same (own_less ROW3.out B.out.size) fun k hk => ht.block k (own_lt ROW3.out k hk).2 (by have h1 := own_lt ROW3.out k hk; have h2 := HG2.out; simp only [Only]; omega), HFL.out, B3.out.trans (ht.below B3.out.size fun k hk => by simp only [Only] at hk; omega), Nat.le_refl _⟩; clear hr ht))
  go_loopw [8, 48] (fun av i wr => ∃ (k : Nat) (xs : List Int), k ≤ n ∧ i = .int .i64 (k : Int) ∧ JI w wr w.heap.size av xs) (fun _ i _ => n - (RowKit.intOf i).toNat)
  case atStart => exact ⟨0, f, Nat.zero_le _, rfl, J4.out⟩
  case round =>
    obtain ⟨k, xs, hk, rfl, hJ⟩ := hrel
    obtain ⟨Aa, ca, rfl⟩ := hJ.all.form
    have HJ := Lib.hid hJ
    by_cases hlt : k < n
    · obtain ⟨x, hx⟩ : ∃ x, ls[k]? = some x := ⟨_, List.getElem?_eq_getElem (by rw [← HN.out]; exact hlt)⟩
      obtain ⟨bb, off, A2, c2, hA, hbl, hcell0, hh, hx1⟩ := HM.out.at hx
      have hcell := (hJ.b.cell (p := ⟨bb, off + k, none⟩) hbl).trans hcell0
      subst hA
      have CK := Lib.hid (hJ.kill 2 (by decide) (hh.below hJ.b))
      have HH : Hid (Holds1 w (.slice A2 x.length c2) (runeVals x)) := Lib.hid hh
      have i1 : (0 : Int) ≤ (k : Int) := by omega
      have i2 : ((k : Int) < (n : Int)) = True := eq_true (by omega)
      have i3 : (k < n) = True := eq_true hlt
      have HLT := Lib.hid hlt
      have hxs := hJ.len
      have hwk : wrap64 ((k : Int) + 1) = (k : Int) + 1 := by have := HLEN.out; unfold wrap64; omega
      obtain ⟨s, hs⟩ : ∃ s, s = xs.length + x.length := ⟨_, rfl⟩
      have j1 : wrap64 ((xs.length : Int) + (x.length : Int)) = (s : Int) := by unfold wrap64; omega
      have j2 : IntKind.i64.wrap ((xs.length : Int) + (x.length : Int)) = (s : Int) := by rw [IntWalk.i64_in _ (by omega)]; omega
      rw [← hs] at CK
      have HSX := Lib.hid hs
      have HXS := Lib.hid hxs
      by_cases hlong : 1024 < s
      · have q1 : ((s : Int) > 1024) = True := eq_true (by omega)
        have q2 : ((1024 : Int) < (s : Int)) = True := eq_true (by omega)
        have q3 : (1024 < s) = True := eq_true hlong
        have CK' : Hid (Calls Try.prog 11 #[.pointer (some ⟨w.heap.size, 0, none⟩), .int .i64 2, .slice A2 x.length c2] wr fun e w' => e = .returned (.int .i64 3) ∧ JI w w' w.heap.size (.slice Aa xs.length ca) xs) := Lib.hid (CK.out.mono (by
          rintro e w' ⟨_, _, ⟨_, h1, h2⟩ | ⟨h1, _⟩⟩
          · exact ⟨h1, h2⟩
          · exact absurd hlong h1))
        clear hJ hk hh hbl hx hx1 hlt hxs hs hcell0 CK hlong
        generalize xs.length = xl at *
        generalize x.length = yl at *
        go_wp2_with (first
          | (go_at_call 11; refine (CK'.out).mono ?_; rintro e w5 ⟨rfl, hj⟩; have J5 := Lib.hid hj; clear hj))
        go_roundw
        case rel => exact ⟨k + 1, xs, HLT.out, next_val hwk, J5.out⟩
        case measure => exact measure_lt HLT.out hwk
      · have q1 : ((s : Int) > 1024) = False := eq_false (by omega)
        have q2 : ((1024 : Int) < (s : Int)) = False := eq_false (by omega)
        have q3 : (1024 < s) = False := eq_false hlong
        have CK' : Hid (Calls Try.prog 11 #[.pointer (some ⟨w.heap.size, 0, none⟩), .int .i64 2, .slice A2 x.length c2] wr fun e w' => e = .returned (.int .i64 0) ∧ (∃ K, RAt K w' w.heap.size ⟨[joinP 2 xs x], 0⟩ ∧ (∀ k, (Value.slice Aa xs.length ca).ownBlock = some k → ¬ K k ∧ k ≠ w.heap.size)) ∧ Below w.heap.size w w' ∧ RRow w' w.heap.size (.slice Aa xs.length ca) xs) := Lib.hid (CK.out.mono (by
          rintro e w' ⟨hb, hrow, ⟨h0, _⟩ | ⟨_, h1, h2⟩⟩
          · exact absurd h0 hlong
          · exact ⟨h1, h2, hb, hrow⟩))
        have HXX : Hid (s ≤ 1024) := Lib.hid (by omega)
        clear hJ hk hh hbl hx hx1 hlt hxs hs hcell0 CK hlong
        generalize hxl : xs.length = xl at *
        generalize hyl : x.length = yl at *
        have hj2 : joinP 2 xs x = x ++ xs := if_pos rfl
        have HLX : Hid (([] : List Int).length + x.length ≤ 35184372088832) := Lib.hid (by have := HSX.out; have := HXX.out; simp; omega)
        have HLL : Hid (x.length + xs.length ≤ 35184372088832) := Lib.hid (by have := HSX.out; have := HXX.out; omega)
        have HLY : Hid ((x ++ xs).length ≤ 1024) := Lib.hid (by rw [List.length_append]; have := HSX.out; have := HXX.out; omega)
        rw [hj2] at CK'
        have tok1 : True := trivial
        clear hj2 hxl hyl
        go_wp2_with (first
          | (go_at_call 11; refine (CK'.out).mono ?_; rintro e w5 ⟨rfl, ⟨K5, hR5, hK5⟩, hb5, hrow5⟩; have R5 := Lib.hid hR5; have B5 := Lib.hid hb5; have ROW5 := Lib.hid hrow5; have hbn : Below w5.heap.size w5 (w5.alloc (.cells #[] 21)) := (Below.refl _ _).alloc (Nat.le_refl _) _; have BN := Lib.hid hbn; clear hR5 hK5 hb5 hrow5 hbn)
          | (at_builtin; have tk := tok1; refine wpList_append_runes2 (by rfl) _ _ (by rfl) w5.heap.size (.slice (some ⟨w5.heap.size, 0, none⟩) 0 0) [] (by rfl) (RRow.fresh w5 (Nat.le_refl _)) A2 yl c2 x (by rfl) ((HH.out.below B5.out).below BN.out) HLX.out (by simp) ?_; rintro A6 n6 c6 w6 hn6 hrow6 hb6 hg6 ho6; rw [List.nil_append] at hrow6 hn6; have B6 := Lib.hid (BN.out.trans hb6); have ROW6 := Lib.hid hrow6; have ALL6 := Lib.hid (ROW5.out.below B6.out); have tok2 : True := trivial; clear hrow6 hb6 hg6 ho6 hn6 tk tok1)
          | (at_builtin; have tk := tok2; refine wpList_append_runes2 (by rfl) _ _ (by rfl) w5.heap.size (.slice A6 n6 c6) x (by rfl) ROW6.out Aa xl ca xs (by rfl) ALL6.out.holds HLL.out B6.out.size ?_; rintro A7 n7 c7 w7 hn7 hrow7 hb7 hg7 ho7; have J7 := Lib.hid (JI.anew R5.out B5.out (Nat.le_refl _) HLY.out hrow7 (B6.out.trans hb7)); clear hrow7 hb7 hg7 ho7 hn7 tk tok2))
        go_roundw
        case rel => exact ⟨k + 1, x ++ xs, HLT.out, next_val hwk, J7.out⟩
        case measure => exact measure_lt HLT.out hwk
    · obtain rfl : k = n := by omega
      have i2 : ((k : Int) < (k : Int)) = False := by simp
      obtain ⟨K, hR, hK⟩ := hJ.ring
      have CY := Lib.hid (yank_at wr w.heap.size [xs] 0 xs hR rfl)
      have R := Lib.hid hR
      have CE : Hid (∀ W B3 A3 c3, RRow W B3 (.slice A3 xs.length c3) xs → Below wr.heap.size wr W → Calls Try.prog 18 #[.slice A3 xs.length c3, .slice Aa xs.length ca] W fun e w' => e = .returned (.bool true) ∧ Below W.heap.size W w') := Lib.hid fun W B3 A3 c3 h1 h2 => eq_same W xs _ _ h1.holds (hJ.all.below h2).holds (by have := hJ.len; omega)
      have CLn : Hid (∀ W, RAt K W w.heap.size ⟨[xs], 0⟩ → Calls Try.prog 22 #[.pointer (some ⟨w.heap.size, 0, none⟩)] W fun e w' => e = .returned (.int .i64 1) ∧ W = w') := Lib.hid fun W hR => len_any W _ _ hR
      clear hlt hk hJ hR hK
      generalize xs.length = xl at *
      go_wp2_with (first
        | (go_at_call 13; refine (CY.out).mono ?_; rintro e w5 ⟨A5, c5, rfl, hrr, hb⟩; have RY := Lib.hid hrr; have R5 := Lib.hid (R.out.below hb); have B5 := Lib.hid hb; clear hrr hb)
        | (go_at_call 18; refine (CE.out _ _ _ _ RY.out B5.out).mono ?_; rintro e w6 ⟨rfl, hb⟩; have R6 := Lib.hid (R5.out.below hb); have B6 := Lib.hid (B5.out.trans (hb.mono B5.out.size)); clear hb)
        | (go_at_call 22; refine (CLn.out _ R6.out).mono ?_; rintro e w7 ⟨rfl, rfl⟩))
      go_ret
      exact ⟨rfl, HJ.out.b.trans (B6.out.mono HJ.out.b.size)⟩
end Go.Proofs.Ytknekldnipdpeaa
