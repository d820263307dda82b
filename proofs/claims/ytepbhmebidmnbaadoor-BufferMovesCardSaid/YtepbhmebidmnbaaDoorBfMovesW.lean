/-
  Moves: the law's walk.
-/
import Derived.Test.YtepbhmebidmnbaaDoorBfFind
namespace Go.Proofs.YtepbhmebidmnbaaDoor
open Go.RowKit Go.Shelf Go.Lib
attribute [local go_sem] Oper.semAt_some

theorem fRes_tuple (n q : Nat) : ∃ (x : Int) (b : Bool), fRes n q = .tuple #[.int .i64 x, .bool b] := by
  unfold fRes
  split
  · exact ⟨0, false, rfl⟩
  · exact ⟨q, true, rfl⟩
theorem bRes_tuple (q : Nat) : ∃ (x : Int) (b : Bool), bRes q = .tuple #[.int .i64 x, .bool b] := by
  unfold bRes
  split
  · exact ⟨0, false, rfl⟩
  · exact ⟨((q - 1 : Nat) : Int), true, rfl⟩
set_option maxRecDepth 1000000 in
set_option maxHeartbeats 8000000 in
theorem moves_walk (w : World) (hT : WidTab w) (l : List Int) (lv : Value) (hl : Holds1 w lv (runeVals l)) (hlen : l.length ≤ 35184372088832) (k r : Int) :
    Calls Tryd.prog 4 #[lv, .int .i64 k, .int .i32 r] w fun e w' => e = .returned (.bool true) ∧ Below w.heap.size w w' := by
  obtain ⟨A, c, rfl, _⟩ := id hl
  rw [runeVals_length] at hl ⊢
  have CL := Lib.hid fun W (h : Below w.heap.size w W) => live_any W (hT.below h)
  obtain ⟨x1, b1, e1⟩ := fRes_tuple l.length (findF l k r)
  obtain ⟨x2, b2, e2⟩ := bRes_tuple (findB l k r)
  have Ca : Hid (∀ W, Below w.heap.size w W → Calls Tryd.prog 19 #[.slice A l.length c, .int .i64 k, .int .i32 r, .bool true] W fun e w' => e = .returned (.tuple #[.int .i64 x1, .bool b1]) ∧ Below W.heap.size W w') := Lib.hid fun W h => by rw [← e1]; exact findF_any W l A c (hl.below h) (by omega) k r
  have Cb : Hid (∀ W, Below w.heap.size w W → Calls Tryd.prog 20 #[.slice A l.length c, .int .i64 k, .int .i32 r, .bool true] W fun e w' => e = .returned (.tuple #[.int .i64 x1, .bool b1]) ∧ Below W.heap.size W w') := Lib.hid fun W h => by rw [← e1]; exact refFindF_any W l A c (hl.below h) (by omega) k r
  have Cc : Hid (∀ W, Below w.heap.size w W → Calls Tryd.prog 19 #[.slice A l.length c, .int .i64 k, .int .i32 r, .bool false] W fun e w' => e = .returned (.tuple #[.int .i64 x2, .bool b2]) ∧ Below W.heap.size W w') := Lib.hid fun W h => by rw [← e2]; exact findB_any W l A c (hl.below h) (by omega) k r
  have Cd : Hid (∀ W, Below w.heap.size w W → Calls Tryd.prog 20 #[.slice A l.length c, .int .i64 k, .int .i32 r, .bool false] W fun e w' => e = .returned (.tuple #[.int .i64 x2, .bool b2]) ∧ Below W.heap.size W w') := Lib.hid fun W h => by rw [← e2]; exact refFindB_any W l A c (hl.below h) (by omega) k r
  obtain ⟨m0, hm0⟩ : ∃ m, m = nextP l k := ⟨_, rfl⟩
  obtain ⟨m1, hm1⟩ : ∃ m, m = prevP l k := ⟨_, rfl⟩
  obtain ⟨m2, hm2⟩ : ∃ m, m = wordEndP l k := ⟨_, rfl⟩
  obtain ⟨m3, hm3⟩ : ∃ m, m = wordStartP l k := ⟨_, rfl⟩
  obtain ⟨m4, hm4⟩ : ∃ m, m = blankStartP l k := ⟨_, rfl⟩
  obtain ⟨m5, hm5⟩ : ∃ m, m = blankEndP l k := ⟨_, rfl⟩
  have Cp0 : Hid (∀ W, Below w.heap.size w W → Calls Tryd.prog 21 #[.slice A l.length c, .int .i64 k] W fun e w' => e = .returned (.int .i64 (m0 : Int)) ∧ Below W.heap.size W w') := Lib.hid fun W h => by rw [hm0]; exact next_any W (hT.below h) l A c (hl.below h) (by omega) k
  have Cq0 : Hid (∀ W, Below w.heap.size w W → Calls Tryd.prog 22 #[.slice A l.length c, .int .i64 k] W fun e w' => e = .returned (.int .i64 (m0 : Int)) ∧ Below W.heap.size W w') := Lib.hid fun W h => by rw [hm0]; exact refNext_any W l A c (hl.below h) (by omega) k
  have Cp1 : Hid (∀ W, Below w.heap.size w W → Calls Tryd.prog 23 #[.slice A l.length c, .int .i64 k] W fun e w' => e = .returned (.int .i64 (m1 : Int)) ∧ Below W.heap.size W w') := Lib.hid fun W h => by rw [hm1]; exact previous_any W (hT.below h) l A c (hl.below h) (by omega) k
  have Cq1 : Hid (∀ W, Below w.heap.size w W → Calls Tryd.prog 24 #[.slice A l.length c, .int .i64 k] W fun e w' => e = .returned (.int .i64 (m1 : Int)) ∧ Below W.heap.size W w') := Lib.hid fun W h => by rw [hm1]; exact refPrevious_any W l A c (hl.below h) (by omega) k
  have Cp2 : Hid (∀ W, Below w.heap.size w W → Calls Tryd.prog 25 #[.slice A l.length c, .int .i64 k] W fun e w' => e = .returned (.int .i64 (m2 : Int)) ∧ Below W.heap.size W w') := Lib.hid fun W h => by rw [hm2]; exact wordEnd_any W (hT.below h) l A c (hl.below h) (by omega) k
  have Cq2 : Hid (∀ W, Below w.heap.size w W → Calls Tryd.prog 26 #[.slice A l.length c, .int .i64 k] W fun e w' => e = .returned (.int .i64 (m2 : Int)) ∧ Below W.heap.size W w') := Lib.hid fun W h => by rw [hm2]; exact refWordEnd_any W l A c (hl.below h) (by omega) k
  have Cp3 : Hid (∀ W, Below w.heap.size w W → Calls Tryd.prog 27 #[.slice A l.length c, .int .i64 k] W fun e w' => e = .returned (.int .i64 (m3 : Int)) ∧ Below W.heap.size W w') := Lib.hid fun W h => by rw [hm3]; exact wordStart_any W (hT.below h) l A c (hl.below h) (by omega) k
  have Cq3 : Hid (∀ W, Below w.heap.size w W → Calls Tryd.prog 28 #[.slice A l.length c, .int .i64 k] W fun e w' => e = .returned (.int .i64 (m3 : Int)) ∧ Below W.heap.size W w') := Lib.hid fun W h => by rw [hm3]; exact refWordStart_any W l A c (hl.below h) (by omega) k
  have Cp4 : Hid (∀ W, Below w.heap.size w W → Calls Tryd.prog 29 #[.slice A l.length c, .int .i64 k] W fun e w' => e = .returned (.int .i64 (m4 : Int)) ∧ Below W.heap.size W w') := Lib.hid fun W h => by rw [hm4]; exact blankStart_any W l A c (hl.below h) (by omega) k
  have Cq4 : Hid (∀ W, Below w.heap.size w W → Calls Tryd.prog 30 #[.slice A l.length c, .int .i64 k] W fun e w' => e = .returned (.int .i64 (m4 : Int)) ∧ Below W.heap.size W w') := Lib.hid fun W h => by rw [hm4]; exact refBlankStart_any W l A c (hl.below h) (by omega) k
  have Cp5 : Hid (∀ W, Below w.heap.size w W → Calls Tryd.prog 31 #[.slice A l.length c, .int .i64 k] W fun e w' => e = .returned (.int .i64 (m5 : Int)) ∧ Below W.heap.size W w') := Lib.hid fun W h => by rw [hm5]; exact blankEnd_any W l A c (hl.below h) (by omega) k
  have Cq5 : Hid (∀ W, Below w.heap.size w W → Calls Tryd.prog 32 #[.slice A l.length c, .int .i64 k] W fun e w' => e = .returned (.int .i64 (m5 : Int)) ∧ Below W.heap.size W w') := Lib.hid fun W h => by rw [hm5]; exact refBlankEnd_any W l A c (hl.below h) (by omega) k
  have B := Lib.hid (Below.refl w.heap.size w)
  have tok1 : True := trivial
  have tok2 : True := trivial
  clear hl hT hlen e1 e2 hm0 hm1 hm2 hm3 hm4 hm5
  generalize l.length = n at *
  go_enter Tryd.func4, Tryd.ntmps4
  go_wp2_with (first
    | (go_at_call 19; have tk := tok1; refine (Ca.out _ B.out).mono ?_; rintro e w1 ⟨rfl, hb⟩; have B := Lib.hid (B.out.trans (hb.mono B.out.size)); clear hb tk tok1)
    | (go_at_call 19; refine (Cc.out _ B.out).mono ?_; rintro e w1 ⟨rfl, hb⟩; have B := Lib.hid (B.out.trans (hb.mono B.out.size)); clear hb)
    | (go_at_call 20; have tk := tok2; refine (Cb.out _ B.out).mono ?_; rintro e w1 ⟨rfl, hb⟩; have B := Lib.hid (B.out.trans (hb.mono B.out.size)); clear hb tk tok2)
    | (go_at_call 20; refine (Cd.out _ B.out).mono ?_; rintro e w1 ⟨rfl, hb⟩; have B := Lib.hid (B.out.trans (hb.mono B.out.size)); clear hb)
    | (go_at_call 13; refine (CL.out _ B.out).mono ?_; rintro e w1 ⟨rfl, hb⟩; have B := Lib.hid (B.out.trans (hb.mono B.out.size)); clear hb)
    | (go_at_call 21; refine (Cp0.out _ B.out).mono ?_; rintro e w1 ⟨rfl, hb⟩; have B := Lib.hid (B.out.trans (hb.mono B.out.size)); clear hb)
    | (go_at_call 22; refine (Cq0.out _ B.out).mono ?_; rintro e w1 ⟨rfl, hb⟩; have B := Lib.hid (B.out.trans (hb.mono B.out.size)); clear hb)
    | (go_at_call 23; refine (Cp1.out _ B.out).mono ?_; rintro e w1 ⟨rfl, hb⟩; have B := Lib.hid (B.out.trans (hb.mono B.out.size)); clear hb)
    | (go_at_call 24; refine (Cq1.out _ B.out).mono ?_; rintro e w1 ⟨rfl, hb⟩; have B := Lib.hid (B.out.trans (hb.mono B.out.size)); clear hb)
    | (go_at_call 25; refine (Cp2.out _ B.out).mono ?_; rintro e w1 ⟨rfl, hb⟩; have B := Lib.hid (B.out.trans (hb.mono B.out.size)); clear hb)
    | (go_at_call 26; refine (Cq2.out _ B.out).mono ?_; rintro e w1 ⟨rfl, hb⟩; have B := Lib.hid (B.out.trans (hb.mono B.out.size)); clear hb)
    | (go_at_call 27; refine (Cp3.out _ B.out).mono ?_; rintro e w1 ⟨rfl, hb⟩; have B := Lib.hid (B.out.trans (hb.mono B.out.size)); clear hb)
    | (go_at_call 28; refine (Cq3.out _ B.out).mono ?_; rintro e w1 ⟨rfl, hb⟩; have B := Lib.hid (B.out.trans (hb.mono B.out.size)); clear hb)
    | (go_at_call 29; refine (Cp4.out _ B.out).mono ?_; rintro e w1 ⟨rfl, hb⟩; have B := Lib.hid (B.out.trans (hb.mono B.out.size)); clear hb)
    | (go_at_call 30; refine (Cq4.out _ B.out).mono ?_; rintro e w1 ⟨rfl, hb⟩; have B := Lib.hid (B.out.trans (hb.mono B.out.size)); clear hb)
    | (go_at_call 31; refine (Cp5.out _ B.out).mono ?_; rintro e w1 ⟨rfl, hb⟩; have B := Lib.hid (B.out.trans (hb.mono B.out.size)); clear hb)
    | (go_at_call 32; refine (Cq5.out _ B.out).mono ?_; rintro e w1 ⟨rfl, hb⟩; have B := Lib.hid (B.out.trans (hb.mono B.out.size)); clear hb))
  go_ret
  exact ⟨rfl, B.out⟩
end Go.Proofs.YtepbhmebidmnbaaDoor
