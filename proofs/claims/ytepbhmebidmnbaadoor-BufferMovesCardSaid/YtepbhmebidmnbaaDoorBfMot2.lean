/-
  The motions by blanks; where a rune stands.
-/
import Derived.Test.YtepbhmebidmnbaaDoorBfMot
namespace Go.Proofs.YtepbhmebidmnbaaDoor
open Go.RowKit Go.Shelf Go.Lib
attribute [local go_sem] Oper.semAt_some

set_option maxRecDepth 1000000 in
theorem blank_any (w : World) (r : Int) : Calls Tryd.prog 71 #[.int .i32 r] w fun e w' => e = .returned (.bool (blankP r)) ∧ Below w.heap.size w w' := by
  by_cases h1 : r = 32
  · subst h1
    go_enter Tryd.func71, Tryd.ntmps71
    go_wp2
    go_ret
    exact ⟨rfl, Below.refl _ _⟩
  · have i0 : (r == 32) = false := by simpa using h1
    have i1 : (r = 32) = False := by simpa using h1
    by_cases h2 : r = 9
    · subst h2
      go_enter Tryd.func71, Tryd.ntmps71
      go_wp2
      go_ret
      exact ⟨rfl, Below.refl _ _⟩
    · have i2 : (r == 9) = false := by simpa using h2
      have i3 : (r = 9) = False := by simpa using h2
      have HB : Hid (blankP r = false) := Lib.hid (by unfold blankP; simp [h1, h2])
      clear h1 h2
      go_enter Tryd.func71, Tryd.ntmps71
      go_wp2
      go_ret
      exact ⟨by rw [HB.out]; rfl, Below.refl _ _⟩
theorem FV.blank (w : World) : FV w (.func (.func 71) #[] #[]) blankP :=
  ⟨71, #[], rfl, enters_of Tryd.func71 (by kernel_rfl) rfl, fun W _ r => blank_any W r⟩
def blankStartP (l : List Int) (k : Int) : Nat := backs l [blankP, fun r => !blankP r] (placeN l.length k)
def blankEndP (l : List Int) (k : Int) : Nat := aheads l [blankP, fun r => !blankP r] (placeN l.length k)
set_option maxRecDepth 1000000 in
set_option maxHeartbeats 4000000 in
theorem blankStart_any (w : World) (l : List Int) (A : Option Addr) (c : Nat) (hl : Holds1 w (.slice A l.length c) (runeVals l)) (hlen : l.length ≤ 140737488355328) (k : Int) :
    Calls Tryd.prog 29 #[.slice A l.length c, .int .i64 k] w fun e w' => e = .returned (.int .i64 (blankStartP l k : Int)) ∧ Below w.heap.size w w' := by
  have CN := Lib.hid (not_any w blankP _ (FV.blank w))
  have CA : Hid (∀ W v, Below w.heap.size w W → FV W v (fun r => !blankP r) → Calls Tryd.prog 64 #[.slice A l.length c, .int .i64 k, .slice (some ⟨W.heap.size, 0, none⟩) 2 2] (W.alloc (.cells #[.func (.func 71) #[] #[], v] kindsT)) fun e w' => e = .returned (.int .i64 (blankStartP l k : Int)) ∧ Below w.heap.size w w') := Lib.hid fun W v hb hv => by
    have hb1 : Below W.heap.size W (W.alloc (.cells #[.func (.func 71) #[] #[], v] kindsT)) := (Below.refl _ _).alloc (Nat.le_refl _) _
    have hb2 := hb.trans (hb1.mono hb.size)
    refine (back_any _ l A c (hl.below hb2) hlen k W.heap.size 2 2 _ (kinds_two (FV.blank W) hv) (Nat.le_refl _)).mono ?_
    rintro e w' ⟨rfl, h⟩
    exact ⟨rfl, hb2.trans (h.mono hb2.size)⟩
  generalize l.length = n at *
  clear hl hlen
  go_enter Tryd.func29, Tryd.ntmps29
  go_wp2_with (first
    | (go_at_call 66; refine (CN.out).mono ?_; rintro e w1 ⟨v, rfl, hv, hb⟩; have HV := Lib.hid hv; have HB := Lib.hid hb; obtain ⟨f, cap, rfl, _⟩ := hv; clear hb)
    | (go_at_call 64; refine (CA.out _ _ HB.out HV.out).mono ?_; rintro e w2 ⟨rfl, hb2⟩))
  go_ret
  exact ⟨rfl, hb2⟩
set_option maxRecDepth 1000000 in
set_option maxHeartbeats 4000000 in
theorem blankEnd_any (w : World) (l : List Int) (A : Option Addr) (c : Nat) (hl : Holds1 w (.slice A l.length c) (runeVals l)) (hlen : l.length ≤ 140737488355328) (k : Int) :
    Calls Tryd.prog 31 #[.slice A l.length c, .int .i64 k] w fun e w' => e = .returned (.int .i64 (blankEndP l k : Int)) ∧ Below w.heap.size w w' := by
  have CN := Lib.hid (not_any w blankP _ (FV.blank w))
  have CA : Hid (∀ W v, Below w.heap.size w W → FV W v (fun r => !blankP r) → Calls Tryd.prog 62 #[.slice A l.length c, .int .i64 k, .slice (some ⟨W.heap.size, 0, none⟩) 2 2] (W.alloc (.cells #[.func (.func 71) #[] #[], v] kindsT)) fun e w' => e = .returned (.int .i64 (blankEndP l k : Int)) ∧ Below w.heap.size w w') := Lib.hid fun W v hb hv => by
    have hb1 : Below W.heap.size W (W.alloc (.cells #[.func (.func 71) #[] #[], v] kindsT)) := (Below.refl _ _).alloc (Nat.le_refl _) _
    have hb2 := hb.trans (hb1.mono hb.size)
    refine (ahead_any _ l A c (hl.below hb2) hlen k W.heap.size 2 2 _ (kinds_two (FV.blank W) hv) (Nat.le_refl _)).mono ?_
    rintro e w' ⟨rfl, h⟩
    exact ⟨rfl, hb2.trans (h.mono hb2.size)⟩
  generalize l.length = n at *
  clear hl hlen
  go_enter Tryd.func31, Tryd.ntmps31
  go_wp2_with (first
    | (go_at_call 66; refine (CN.out).mono ?_; rintro e w1 ⟨v, rfl, hv, hb⟩; have HV := Lib.hid hv; have HB := Lib.hid hb; obtain ⟨f, cap, rfl, _⟩ := hv; clear hb)
    | (go_at_call 62; refine (CA.out _ _ HB.out HV.out).mono ?_; rintro e w2 ⟨rfl, hb2⟩))
  go_ret
  exact ⟨rfl, hb2⟩
end Go.Proofs.YtepbhmebidmnbaaDoor
