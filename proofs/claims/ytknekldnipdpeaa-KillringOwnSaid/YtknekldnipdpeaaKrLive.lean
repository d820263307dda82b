/-
  The law package's check that the program lives.
-/
import Derived.Test.YtknekldnipdpeaaKrAll
import Derived.Laws.Cover4
namespace Go.Proofs.Ytknekldnipdpeaa
open Go.RowKit Go.Shelf Go.Lib
attribute [local go_sem] Oper.semAt_some

/-- a slice of runes as a string -/
theorem str_of_runes {w : World} {A : Option Addr} {n c : Nat} {l : List Int} (h : Holds1 w (.slice A n c) (runeVals l)) {s : ByteArray} (hs : runesBytes l = s) : (convert 30 9 (.slice A n c)).run Try.prog w = .ok (.string s) w := by
  obtain ⟨A', c', e, ⟨hc, hn⟩, hcell⟩ := h
  injection e with e1 e2 e3
  subst e1 e3
  rw [runeVals_length] at e2 hcell
  subst e2
  cases A with
  | none =>
    obtain rfl : l = [] := List.eq_nil_of_length_eq_zero (by have := hn rfl; rw [runeVals_length] at hc; omega)
    rw [run_convert_runes_nil (P := Try.prog) w 30 9 21 _ _ Try.underlying30 Try.underlying21 Try.underlying9, ← hs]
    rfl
  | some a =>
    have hr := run_convert_runes (P := Try.prog) w 30 9 21 a l.length c l (Nat.le_refl _) Try.underlying30 Try.underlying21 Try.underlying9 (fun j hj => by
      obtain ⟨b, off, e, _, hcj⟩ := hcell (by omega)
      injection e with e
      subst e
      rw [add_off, hcj j (.int .i32 l[j]) (by unfold runeVals; rw [List.getElem?_map, List.getElem?_eq_getElem hj]; rfl)]
      rw [List.getD_eq_getElem?_getD, List.getElem?_eq_getElem hj]
      rfl)
    rw [hr, List.take_length, hs]
theorem bytes_ab : runesBytes [97, 98] = ⟨#[97, 98]⟩ := by kernel_rfl
def ks1 : KS := ⟨[[97]], 0⟩
def ks2 : KS := ⟨[[97, 98]], 0⟩
theorem live1 : killErr ks0 0 [97] = 0 ∧ killS ks0 0 [97] = ks1 := by
  have h : killErr ks0 0 [97] = 0 := by decide
  refine ⟨h, ?_⟩
  unfold killS
  rw [if_neg (by rw [h]; simp), if_pos rfl, if_neg (by simp)]
  rfl
theorem live2 : killErr ks1 1 [98] = 0 ∧ killS ks1 1 [98] = ks2 := by
  have h : killErr ks1 1 [98] = 0 := by decide
  refine ⟨h, ?_⟩
  unfold killS
  rw [if_neg (by rw [h]; simp), if_neg (by decide)]
  rfl
/-- a ring, whatever its blocks are -/
def REx (w : World) (g : Nat) (S : KS) : Prop := ∃ K, RAt K w g S
theorem REx.below {w w' : World} {g : Nat} {S : KS} (h : REx w g S) (hb : Below w.heap.size w w') : REx w' g S := by
  obtain ⟨K, h⟩ := h
  exact ⟨K, h.below hb⟩
theorem kill_ex (w : World) (g : Nat) (S S' : KS) (h : REx w g S) (way er : Int) (A : Option Addr) (n c : Nat) (l : List Int) (hv : Holds1 w (.slice A n c) (runeVals l)) (he : killErr S way l = er ∧ killS S way l = S') : Calls Try.prog 11 #[.pointer (some ⟨g, 0, none⟩), .int .i64 way, .slice A n c] w fun e w' => e = .returned (.int .i64 er) ∧ REx w' g S' ∧ Touch (Only g) w w' := by
  obtain ⟨K, h⟩ := h
  refine (kill_any w g S h way _ l hv).mono ?_
  rintro e w' ⟨rfl, h2, h3⟩
  rw [he.1]
  rw [he.2] at h2
  exact ⟨rfl, ⟨_, h2⟩, h3⟩
theorem yank_ex (w : World) (g : Nat) (h : REx w g ks2) : Calls Try.prog 13 #[.pointer (some ⟨g, 0, none⟩)] w fun e w' => ∃ A c, e = .returned (.tuple #[.slice A 2 c, .int .i64 0]) ∧ Holds1 w' (.slice A 2 c) (runeVals [97, 98]) ∧ Below w.heap.size w w' := by
  obtain ⟨K, h⟩ := h
  refine (yank_some w g ks2 h (by decide)).mono ?_
  rintro e w' ⟨A, c, he, h1, h2⟩
  exact ⟨A, c, he, RRow.holds h1, h2⟩
theorem len_ex (w : World) (g : Nat) (S : KS) (h : REx w g S) : Calls Try.prog 22 #[.pointer (some ⟨g, 0, none⟩)] w fun e w' => e = .returned (.int .i64 (S.es.length : Int)) ∧ w = w' := by
  obtain ⟨K, h⟩ := h
  exact len_any w g S h
set_option maxRecDepth 1000000 in
set_option maxHeartbeats 4000000 in
theorem live_any (w : World) : Calls Try.prog 10 #[] w fun e w' => e = .returned (.bool true) ∧ Below w.heap.size w w' := by
  have CN := Lib.hid (new_any w)
  have CK1 := Lib.hid fun W A n c (h : REx W w.heap.size ks0) (hv : Holds1 W (.slice A n c) (runeVals [97])) => kill_ex W w.heap.size ks0 ks1 h 0 0 A n c [97] hv live1
  have CK2 := Lib.hid fun W A n c (h : REx W w.heap.size ks1) (hv : Holds1 W (.slice A n c) (runeVals [98])) => kill_ex W w.heap.size ks1 ks2 h 1 0 A n c [98] hv live2
  have CY := Lib.hid fun W (h : REx W w.heap.size ks2) => yank_ex W w.heap.size h
  have CL : Hid (∀ W, REx W w.heap.size ks2 → Calls Try.prog 22 #[.pointer (some ⟨w.heap.size, 0, none⟩)] W fun e w' => e = .returned (.int .i64 1) ∧ W = w') := Lib.hid fun W h => len_ex W w.heap.size ks2 h
  have tok1 : True := trivial
  go_enter Try.func10, Try.ntmps10
  go_wp2_with (first
    | (go_at_call 9; refine (CN.out).mono ?_; rintro e w1 ⟨rfl, hr, hb⟩; have R0 : Hid (REx w1 w.heap.size ks0) := Lib.hid ⟨_, hr⟩; have B := Lib.hid hb; clear hr hb)
    | (go_at_call 11; have tk := tok1; have hbn := (Below.refl w1.heap.size w1).alloc (Nat.le_refl _) (.cells #[.int .i32 97] 21); refine (CK1.out _ _ _ _ (R0.out.below hbn) Holds1.built).mono ?_; rintro e w2 ⟨rfl, hr, ht⟩; have R1 := Lib.hid hr; have B := Lib.hid (only_below (B.out.trans (hbn.mono B.out.size)) ht (Nat.le_refl _)); have tok2 : True := trivial; clear hr ht hbn tk tok1)
    | (go_at_call 11; have tk := tok2; have hbn := (Below.refl w2.heap.size w2).alloc (Nat.le_refl _) (.cells #[.int .i32 98] 21); refine (CK2.out _ _ _ _ (R1.out.below hbn) Holds1.built).mono ?_; rintro e w3 ⟨rfl, hr, ht⟩; have R2 := Lib.hid hr; have B := Lib.hid (only_below (B.out.trans (hbn.mono B.out.size)) ht (Nat.le_refl _)); clear hr ht hbn tk tok2)
    | (go_at_call 13; refine (CY.out _ R2.out).mono ?_; rintro e w4 ⟨A, c, rfl, hh, hb⟩; have hconv := str_of_runes hh bytes_ab; have R2 := Lib.hid (R2.out.below hb); have B := Lib.hid (B.out.trans (hb.mono B.out.size)); clear hh hb)
    | (go_at_call 22; refine (CL.out _ R2.out).mono ?_; rintro e w5 ⟨rfl, rfl⟩))
  go_ret
  exact ⟨rfl, B.out⟩
end Go.Proofs.Ytknekldnipdpeaa
