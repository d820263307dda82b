/-
  WordEnd; the law's check that the program lives.
-/
import Derived.Test.YtepbhmebidmnbaaDoorBfGo
namespace Go.Proofs.YtepbhmebidmnbaaDoor
open Go.RowKit Go.Shelf Go.Lib
attribute [local go_sem] Oper.semAt_some

abbrev kindsT : TypeId := 79
theorem kinds_two {w : World} {x y : Value} {p q : Int → Bool} (h1 : FV w x p) (h2 : FV w y q) : Kinds (w.alloc (.cells #[x, y] kindsT)) w.heap.size 2 [p, q] := by
  have hb : Below w.heap.size w (w.alloc (.cells #[x, y] kindsT)) := (Below.refl _ _).alloc (Nat.le_refl _) _
  have hn : (w.alloc (.cells #[x, y] kindsT)).heap[w.heap.size]? = some (.cells #[x, y] kindsT (0, 0)) := alloc_new _ _
  refine ⟨rfl, fun k r hk => ?_, by simp⟩
  match k, hk with
  | 0, hk => obtain rfl : p = r := by simpa using hk
             exact ⟨x, cell_of_row _ _ 0 _ _ _ hn, h1.below hb⟩
  | 1, hk => obtain rfl : q = r := by simpa using hk
             exact ⟨y, cell_of_row _ _ 1 _ _ _ hn, h2.below hb⟩
  | k + 2, hk => simp at hk
theorem kinds_one {w : World} {x : Value} {p : Int → Bool} (h1 : FV w x p) : Kinds (w.alloc (.cells #[x] kindsT)) w.heap.size 1 [p] := by
  have hb : Below w.heap.size w (w.alloc (.cells #[x] kindsT)) := (Below.refl _ _).alloc (Nat.le_refl _) _
  have hn : (w.alloc (.cells #[x] kindsT)).heap[w.heap.size]? = some (.cells #[x] kindsT (0, 0)) := alloc_new _ _
  refine ⟨rfl, fun k r hk => ?_, by simp⟩
  match k, hk with
  | 0, hk => obtain rfl : p = r := by simpa using hk
             exact ⟨x, cell_of_row _ _ 0 _ _ _ hn, h1.below hb⟩
  | k + 1, hk => simp at hk
def wordEndP (l : List Int) (k : Int) : Nat := aheads l [fun r => !letter r, letter] (placeN l.length k)
def wordStartP (l : List Int) (k : Int) : Nat := backs l [fun r => !letter r, letter] (placeN l.length k)
set_option maxRecDepth 1000000 in
set_option maxHeartbeats 4000000 in
theorem wordEnd_any (w : World) (hT : WidTab w) (l : List Int) (A : Option Addr) (c : Nat) (hl : Holds1 w (.slice A l.length c) (runeVals l)) (hlen : l.length ≤ 140737488355328) (k : Int) :
    Calls Tryd.prog 25 #[.slice A l.length c, .int .i64 k] w fun e w' => e = .returned (.int .i64 (wordEndP l k : Int)) ∧ Below w.heap.size w w' := by
  have CN := Lib.hid (not_any w letter _ (FV.letter hT))
  have CA : Hid (∀ W v, Below w.heap.size w W → FV W v (fun r => !letter r) → Calls Tryd.prog 62 #[.slice A l.length c, .int .i64 k, .slice (some ⟨W.heap.size, 0, none⟩) 2 2] (W.alloc (.cells #[v, .func (.func 69) #[] #[]] kindsT)) fun e w' => e = .returned (.int .i64 (wordEndP l k : Int)) ∧ Below w.heap.size w w') := Lib.hid fun W v hb hv => by
    have hb1 : Below W.heap.size W (W.alloc (.cells #[v, .func (.func 69) #[] #[]] kindsT)) := (Below.refl _ _).alloc (Nat.le_refl _) _
    have hb2 := hb.trans (hb1.mono hb.size)
    refine (ahead_any _ l A c (hl.below hb2) hlen k W.heap.size 2 2 _ (kinds_two hv (FV.letter (hT.below hb))) (Nat.le_refl _)).mono ?_
    rintro e w' ⟨rfl, h⟩
    exact ⟨rfl, hb2.trans (h.mono hb2.size)⟩
  generalize l.length = n at *
  clear hl hT hlen
  go_enter Tryd.func25, Tryd.ntmps25
  go_wp2_with (first
    | (go_at_call 66; refine (CN.out).mono ?_; rintro e w1 ⟨v, rfl, hv, hb⟩; have HV := Lib.hid hv; have HB := Lib.hid hb; obtain ⟨f, cap, rfl, _⟩ := hv; clear hb)
    | (go_at_call 62; refine (CA.out _ _ HB.out HV.out).mono ?_; rintro e w2 ⟨rfl, hb2⟩))
  go_ret
  exact ⟨rfl, hb2⟩
def foo : List Int := [102, 111, 111, 32, 32, 98, 97, 114]
theorem foo_end : wordEndP foo 3 = 8 := by decide
set_option maxRecDepth 1000000 in
theorem runesOf_any (w : World) : Calls Tryd.prog 49 #[.string ⟨#[102, 111, 111, 32, 32, 98, 97, 114]⟩] w fun e w' => ∃ A c, e = .returned (.slice A 8 c) ∧ Holds1 w' (.slice A 8 c) (runeVals foo) ∧ Below w.heap.size w w' := by
  have hr : Conv.runesFrom ⟨#[102, 111, 111, 32, 32, 98, 97, 114]⟩ (ByteArray.mk #[102, 111, 111, 32, 32, 98, 97, 114]).size 0 #[] = (runeVals foo).toArray := by kernel_rfl
  have h := run_runes_of_string (P := Tryd.prog) w 9 22 21 ⟨#[102, 111, 111, 32, 32, 98, 97, 114]⟩ Tryd.underlying9 Tryd.underlying22 Tryd.underlying21 (by rw [hr]; decide)
  rw [hr] at h
  have h8 : (runeVals foo).toArray.size = 8 := rfl
  rw [h8] at h
  have hge := grownCap_ge w 8 0 21
  generalize grownCap w 8 0 21 = cp at *
  obtain ⟨row, hrow⟩ : ∃ row, row = (runeVals foo).toArray ++ Array.replicate (cp - 8) (.int .i32 0) := ⟨_, rfl⟩
  rw [← hrow] at h
  have HR := Lib.hid hrow
  have HG := Lib.hid hge
  clear hr hrow hge h8
  go_enter Tryd.func49, Tryd.ntmps49
  go_wp2
  go_ret
  refine ⟨_, _, rfl, ⟨_, _, rfl, ⟨HG.out, fun e => by cases e⟩, fun _ => ⟨w.heap.size, 0, rfl, by simp, fun j u hu => ?_⟩⟩, ((Below.refl _ _).drew).alloc (by simp) _⟩
  rw [Nat.zero_add]
  have hn : (w.alloc (.cells row 21)).drew.heap[w.heap.size]? = some (.cells row 21 (0, 0)) := alloc_new w _
  rw [cell_of_row _ _ j _ _ _ hn, HR.out, Array.getElem?_append_left (by have := (List.getElem?_eq_some_iff.1 hu).1; simpa using this)]
  simpa using hu
theorem letters_ab : (newS [97, 98]) = ⟨[97, 98], 2, -1⟩ := rfl
theorem live_ins : rS (newS [97, 98]) 2 2 [99] = ⟨[97, 98, 99], 3, -1⟩ ∧ rE (newS [97, 98]) 2 2 [99] = (2, [], [99]) ∧ replErr (newS [97, 98]) 2 2 1 = 0 := ⟨rfl, rfl, rfl⟩
set_option maxRecDepth 1000000 in
set_option maxHeartbeats 4000000 in
theorem live_any (w : World) (hT : WidTab w) : Calls Tryd.prog 13 #[] w fun e w' => e = .returned (.bool true) ∧ Below w.heap.size w w' := by
  have hb0 : Below w.heap.size w (w.alloc (.cells #[.int .i32 97, .int .i32 98] 21)) := (Below.refl _ _).alloc (Nat.le_refl _) _
  have CN := Lib.hid (new_any (w.alloc (.cells #[.int .i32 97, .int .i32 98] 21)) [97, 98] _ (Holds1.built (xs := runeVals [97, 98])) (by show 2 ≤ _; omega))
  have CN2 : Hid (Calls Tryd.prog 11 #[.slice (some ⟨w.heap.size, 0, none⟩) 2 2] (w.alloc (.cells #[.int .i32 97, .int .i32 98] 21)) fun e w' => ∃ g, e = .returned (.tuple #[.pointer (some ⟨g, 0, none⟩), .int .i64 0]) ∧ BufAt w' g (newS [97, 98]) ∧ w.heap.size ≤ g ∧ Below w.heap.size w w') := Lib.hid (CN.out.mono (by
    rintro e w' ⟨⟨_, g, rfl, h1, h2⟩ | ⟨hno, _⟩, hb⟩
    · exact ⟨g, rfl, h1, Nat.le_trans hb0.size h2, hb0.trans (hb.mono hb0.size)⟩
    · exact absurd (show ([97, 98] : List Int).length ≤ 1024 by simp) hno))
  have CI : Hid (∀ W g, BufAt W g (newS [97, 98]) → Calls Tryd.prog 40 #[.pointer (some ⟨g, 0, none⟩), .slice (some ⟨W.heap.size, 0, none⟩) 1 1] (W.alloc (.cells #[.int .i32 99] 21)) fun e w' => ∃ Ad nd cd Ai ni ci, e = .returned (.tuple #[editV 2 (.slice Ad nd cd) (.slice Ai ni ci), .int .i64 0]) ∧ BufAt w' g ⟨[97, 98, 99], 3, -1⟩ ∧ Touch (Only g) W w') := Lib.hid fun W g h => by
    have hb : Below W.heap.size W (W.alloc (.cells #[.int .i32 99] 21)) := (Below.refl _ _).alloc (Nat.le_refl _) _
    have hrow : RRow (W.alloc (.cells #[.int .i32 99] 21)) W.heap.size (.slice (some ⟨W.heap.size, 0, none⟩) 1 1) [99] := ⟨rfl, .inr ⟨W.heap.size, 1, #[.int .i32 99], rfl, Nat.le_refl _, alloc_new _ _, Nat.le_refl _, by first | simp | decide, by first | simp | decide, by first | rfl | simp [runeVals]⟩⟩
    refine (insert_any _ g _ (h.below hb) [99] _ (hrow.off h.lt) (by show 1 ≤ _; omega)).mono ?_
    rintro e w' ⟨dv, iv, rfl, hd, hi, hS, ht⟩
    obtain ⟨Ad, nd, cd, rfl⟩ := hd.form3
    obtain ⟨Ai, ni, ci, rfl⟩ := hi.form3
    refine ⟨Ad, nd, cd, Ai, ni, ci, ?_, ?_, (Touch.of_below hb).trans ht⟩
    · show Ending.returned (.tuple #[editV (rE (newS [97, 98]) 2 2 [99]).1 _ _, .int .i64 (replErr (newS [97, 98]) 2 2 1)]) = _
      rw [live_ins.2.1, live_ins.2.2]
    · rw [← live_ins.1]; exact hS
  have CL := Lib.hid fun W g (h : BufAt W g ⟨[97, 98, 99], 3, -1⟩) => lenB_any W g _ h
  have CP := Lib.hid fun W g (h : BufAt W g ⟨[97, 98, 99], 3, -1⟩) => pointB_any W g _ h
  have CM := Lib.hid fun W g (h : BufAt W g ⟨[97, 98, 99], 3, -1⟩) => markB_any W g _ h
  have CR := Lib.hid fun W => runesOf_any W
  have CW : Hid (∀ W A c, Below w.heap.size w W → Holds1 W (.slice A 8 c) (runeVals foo) → Calls Tryd.prog 25 #[.slice A 8 c, .int .i64 3] W fun e w' => e = .returned (.int .i64 8) ∧ Below w.heap.size w w') := Lib.hid fun W A c hb h => by
    refine (wordEnd_any W (hT.below hb) foo A c h (by simp [foo]) 3).mono ?_
    rintro e w' ⟨rfl, h2⟩
    exact ⟨by rw [foo_end]; rfl, hb.trans (h2.mono hb.size)⟩
  clear hb0 CN hT
  go_enter Tryd.func13, Tryd.ntmps13
  go_wp2_with (first
    | (go_at_call 11; refine (CN2.out).mono ?_; rintro e w1 ⟨g, rfl, hS, hg, hb⟩; have H := Lib.hid hS; have HG := Lib.hid hg; have B := Lib.hid hb; clear hS hg hb)
    | (go_at_call 40; refine (CI.out _ _ H.out).mono ?_; rintro e w2 ⟨Ad, nd, cd, Ai, ni, ci, rfl, hS, ht⟩; have hb : Below w2.heap.size w2 (w2.alloc (.cells #[.int .i64 2, .slice Ad nd cd, .slice Ai ni ci] 33)) := (Below.refl _ _).alloc (Nat.le_refl _) _; have H3 := Lib.hid (hS.below hb); have B3 := Lib.hid ((only_below B.out ht HG.out).trans (hb.mono (only_below B.out ht HG.out).size)); clear hS ht hb)
    | (go_at_call 45; refine (CL.out _ _ H3.out).mono ?_; rintro e w3 ⟨rfl, hb⟩; have H3 := Lib.hid (H3.out.below hb); have B3 := Lib.hid (B3.out.trans (hb.mono B3.out.size)); clear hb)
    | (go_at_call 35; refine (CP.out _ _ H3.out).mono ?_; rintro e w4 ⟨rfl, rfl⟩)
    | (go_at_call 46; refine (CM.out _ _ H3.out).mono ?_; rintro e w4 ⟨rfl, rfl⟩)
    | (go_at_call 49; refine (CR.out _).mono ?_; rintro e w4 ⟨A4, c4, rfl, h4, hb⟩; have H4 := Lib.hid h4; have B4 := Lib.hid (B3.out.trans (hb.mono B3.out.size)); clear h4 hb)
    | (go_at_call 25; refine (CW.out _ _ _ B4.out H4.out).mono ?_; rintro e w5 ⟨rfl, hb⟩))
  go_ret
  exact ⟨rfl, hb⟩
end Go.Proofs.YtepbhmebidmnbaaDoor
