/-
  The motions within a line: where the program says that runes, words and blanks begin and end.
-/
import Derived.Test.YtepbhmebidmnbaaDoorBfLive
namespace Go.Proofs.YtepbhmebidmnbaaDoor
open Go.RowKit Go.Shelf Go.Lib
attribute [local go_sem] Oper.semAt_some

def beginsP (r : Int) : Bool := decide (wid r ≠ 0) || ctl r
def blankP (r : Int) : Bool := decide (r = 32 ∨ r = 9)
set_option maxRecDepth 1000000 in
theorem begins_any (w : World) (hT : WidTab w) (r : Int) : Calls Tryd.prog 67 #[.int .i32 r] w fun e w' => e = .returned (.bool (beginsP r)) ∧ Below w.heap.size w w' := by
  have CW := Lib.hid (width_any r w hT)
  have CC := Lib.hid fun W => control_any r W
  have hP : Hid (beginsP r = (decide (wid r ≠ 0) || ctl r)) := Lib.hid rfl
  generalize wid r = q at *
  generalize ctl r = d at *
  clear hT
  by_cases hq : q = 0
  · subst hq
    go_enter Tryd.func67, Tryd.ntmps67
    go_wp2_with (first
      | (go_at_call 79; refine (CW.out).mono ?_; rintro e w1 ⟨rfl, hb1⟩)
      | (go_at_call 80; refine (CC.out _).mono ?_; rintro e w2 ⟨rfl, rfl⟩))
    go_ret
    exact ⟨by rw [hP.out]; simp, hb1⟩
  · have i0 : (q == 0) = false := by simpa using hq
    have i1 : (q = 0) = False := by simpa using hq
    go_enter Tryd.func67, Tryd.ntmps67
    go_wp2_with (first
      | (go_at_call 79; refine (CW.out).mono ?_; rintro e w1 ⟨rfl, hb1⟩)
      | (go_at_call 80; refine (CC.out _).mono ?_; rintro e w2 ⟨rfl, rfl⟩))
    go_ret
    exact ⟨by rw [hP.out]; simp [hq], hb1⟩
theorem FV.begins {w : World} (hT : WidTab w) : FV w (.func (.func 67) #[] #[]) beginsP :=
  ⟨67, #[], rfl, enters_of Tryd.func67 (by kernel_rfl) rfl, fun W hW r => begins_any W (hT.below hW) r⟩
def nextP (l : List Int) (k : Int) : Nat := aheads l [fun r => !beginsP r] (placeN l.length ((placeN l.length k + 1 : Nat) : Int))
def prevP (l : List Int) (k : Int) : Nat := backs l [fun r => !beginsP r] (placeN l.length k) - 1

set_option maxRecDepth 1000000 in
set_option maxHeartbeats 4000000 in
theorem wordStart_any (w : World) (hT : WidTab w) (l : List Int) (A : Option Addr) (c : Nat) (hl : Holds1 w (.slice A l.length c) (runeVals l)) (hlen : l.length ≤ 140737488355328) (k : Int) :
    Calls Tryd.prog 27 #[.slice A l.length c, .int .i64 k] w fun e w' => e = .returned (.int .i64 (wordStartP l k : Int)) ∧ Below w.heap.size w w' := by
  have CN := Lib.hid (not_any w letter _ (FV.letter hT))
  have CA : Hid (∀ W v, Below w.heap.size w W → FV W v (fun r => !letter r) → Calls Tryd.prog 64 #[.slice A l.length c, .int .i64 k, .slice (some ⟨W.heap.size, 0, none⟩) 2 2] (W.alloc (.cells #[v, .func (.func 69) #[] #[]] kindsT)) fun e w' => e = .returned (.int .i64 (wordStartP l k : Int)) ∧ Below w.heap.size w w') := Lib.hid fun W v hb hv => by
    have hb1 : Below W.heap.size W (W.alloc (.cells #[v, .func (.func 69) #[] #[]] kindsT)) := (Below.refl _ _).alloc (Nat.le_refl _) _
    have hb2 := hb.trans (hb1.mono hb.size)
    refine (back_any _ l A c (hl.below hb2) hlen k W.heap.size 2 2 _ (kinds_two hv (FV.letter (hT.below hb))) (Nat.le_refl _)).mono ?_
    rintro e w' ⟨rfl, h⟩
    exact ⟨rfl, hb2.trans (h.mono hb2.size)⟩
  generalize l.length = n at *
  clear hl hT hlen
  go_enter Tryd.func27, Tryd.ntmps27
  go_wp2_with (first
    | (go_at_call 66; refine (CN.out).mono ?_; rintro e w1 ⟨v, rfl, hv, hb⟩; have HV := Lib.hid hv; have HB := Lib.hid hb; obtain ⟨f, cap, rfl, _⟩ := hv; clear hb)
    | (go_at_call 64; refine (CA.out _ _ HB.out HV.out).mono ?_; rintro e w2 ⟨rfl, hb2⟩))
  go_ret
  exact ⟨rfl, hb2⟩
set_option maxRecDepth 1000000 in
set_option maxHeartbeats 4000000 in
theorem next_any (w : World) (hT : WidTab w) (l : List Int) (A : Option Addr) (c : Nat) (hl : Holds1 w (.slice A l.length c) (runeVals l)) (hlen : l.length ≤ 140737488355328) (k : Int) :
    Calls Tryd.prog 21 #[.slice A l.length c, .int .i64 k] w fun e w' => e = .returned (.int .i64 (nextP l k : Int)) ∧ Below w.heap.size w w' := by
  have CN := Lib.hid (not_any w beginsP _ (FV.begins hT))
  have CP := Lib.hid (place_any w A l.length c k)
  have hpl := placeN_le l.length k
  obtain ⟨q, hq⟩ : ∃ q, q = placeN l.length k := ⟨_, rfl⟩
  rw [← hq] at CP hpl
  have i1 : IntKind.i64.wrap ((q : Int) + 1) = ((q + 1 : Nat) : Int) := by rw [IntWalk.i64_in _ (by omega)]; omega
  have i2 : wrap64 ((q : Int) + 1) = ((q + 1 : Nat) : Int) := by unfold wrap64; omega
  have CA : Hid (∀ W v, Below w.heap.size w W → FV W v (fun r => !beginsP r) → Calls Tryd.prog 62 #[.slice A l.length c, .int .i64 ((q + 1 : Nat) : Int), .slice (some ⟨W.heap.size, 0, none⟩) 1 1] (W.alloc (.cells #[v] kindsT)) fun e w' => e = .returned (.int .i64 (nextP l k : Int)) ∧ Below w.heap.size w w') := Lib.hid fun W v hb hv => by
    have hb1 : Below W.heap.size W (W.alloc (.cells #[v] kindsT)) := (Below.refl _ _).alloc (Nat.le_refl _) _
    have hb2 := hb.trans (hb1.mono hb.size)
    refine (ahead_any _ l A c (hl.below hb2) hlen _ W.heap.size 1 1 _ (kinds_one hv) (by omega)).mono ?_
    rintro e w' ⟨rfl, h⟩
    exact ⟨by unfold nextP; rw [← hq], hb2.trans (h.mono hb2.size)⟩
  generalize l.length = n at *
  generalize q + 1 = q1 at *
  clear hl hT hlen hq hpl
  go_enter Tryd.func21, Tryd.ntmps21
  go_wp2_with (first
    | (go_at_call 63; refine (CP.out).mono ?_; rintro e w1 ⟨rfl, rfl⟩)
    | (go_at_call 66; refine (CN.out).mono ?_; rintro e w1 ⟨v, rfl, hv, hb⟩; have HV := Lib.hid hv; have HB := Lib.hid hb; obtain ⟨f, cap, rfl, _⟩ := hv; clear hb)
    | (go_at_call 62; first | rw [i1] | rw [i2] | skip; refine (CA.out _ _ HB.out HV.out).mono ?_; rintro e w2 ⟨rfl, hb2⟩))
  go_ret
  exact ⟨rfl, hb2⟩
set_option maxRecDepth 1000000 in
set_option maxHeartbeats 4000000 in
theorem previous_any (w : World) (hT : WidTab w) (l : List Int) (A : Option Addr) (c : Nat) (hl : Holds1 w (.slice A l.length c) (runeVals l)) (hlen : l.length ≤ 140737488355328) (k : Int) :
    Calls Tryd.prog 23 #[.slice A l.length c, .int .i64 k] w fun e w' => e = .returned (.int .i64 (prevP l k : Int)) ∧ Below w.heap.size w w' := by
  have CN := Lib.hid (not_any w beginsP _ (FV.begins hT))
  obtain ⟨q, hq⟩ : ∃ q, q = backs l [fun r => !beginsP r] (placeN l.length k) := ⟨_, rfl⟩
  have hql : q ≤ l.length := by rw [hq]; exact Nat.le_trans (backs_le _ _ _) (placeN_le _ _)
  have HQ : Hid (prevP l k = q - 1) := Lib.hid (by unfold prevP; rw [← hq])
  have CA : Hid (∀ W v, Below w.heap.size w W → FV W v (fun r => !beginsP r) → Calls Tryd.prog 64 #[.slice A l.length c, .int .i64 k, .slice (some ⟨W.heap.size, 0, none⟩) 1 1] (W.alloc (.cells #[v] kindsT)) fun e w' => e = .returned (.int .i64 (q : Int)) ∧ Below w.heap.size w w') := Lib.hid fun W v hb hv => by
    have hb1 : Below W.heap.size W (W.alloc (.cells #[v] kindsT)) := (Below.refl _ _).alloc (Nat.le_refl _) _
    have hb2 := hb.trans (hb1.mono hb.size)
    refine (back_any _ l A c (hl.below hb2) hlen k W.heap.size 1 1 _ (kinds_one hv) (by omega)).mono ?_
    rintro e w' ⟨rfl, h⟩
    exact ⟨by rw [hq], hb2.trans (h.mono hb2.size)⟩
  have i3 : IntKind.i64.wrap ((q : Int) - 1) = (q : Int) - 1 := IntWalk.i64_in _ (by omega)
  have i4 : max ((q : Int) - 1) 0 = ((q - 1 : Nat) : Int) := by omega
  generalize l.length = n at *
  clear hl hT hlen hq hql
  go_enter Tryd.func23, Tryd.ntmps23
  go_wp2_with (first
    | (go_at_call 66; refine (CN.out).mono ?_; rintro e w1 ⟨v, rfl, hv, hb⟩; have HV := Lib.hid hv; have HB := Lib.hid hb; obtain ⟨f, cap, rfl, _⟩ := hv; clear hb)
    | (go_at_call 64; refine (CA.out _ _ HB.out HV.out).mono ?_; rintro e w2 ⟨rfl, hb2⟩))
  go_ret
  exact ⟨by rw [HQ.out, ← i4]; rfl, hb2⟩
end Go.Proofs.YtepbhmebidmnbaaDoor
