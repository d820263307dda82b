/-
  The law package's check that the program lives.
-/
import Derived.Test.YtjgjbdpknfplkaaUdApply
import Derived.Laws.Cover4
namespace Go.Proofs.Ytjgjbdpknfplkaa
open Go.RowKit Go.Shelf Go.Lib
attribute [local go_sem] Oper.semAt_some

set_option maxRecDepth 1000000 in
theorem runesOf_a (w : World) : Calls Try.prog 50 #[.string ⟨#[97]⟩] w fun e w' => ∃ A c, e = .returned (.slice A 1 c) ∧ Holds1 w' (.slice A 1 c) (runeVals [97]) ∧ Below w.heap.size w w' := by
  have hr : Conv.runesFrom ⟨#[97]⟩ (ByteArray.mk #[97]).size 0 #[] = (runeVals [97]).toArray := by kernel_rfl
  have h := run_runes_of_string (P := Try.prog) w 9 22 21 ⟨#[97]⟩ Try.underlying9 Try.underlying22 Try.underlying21 (by rw [hr]; decide)
  rw [hr] at h
  have h8 : (runeVals [97]).toArray.size = 1 := rfl
  rw [h8] at h
  have hge := grownCap_ge w 1 0 21
  generalize grownCap w 1 0 21 = cp at *
  obtain ⟨row, hrow⟩ : ∃ row, row = (runeVals [97]).toArray ++ Array.replicate (cp - 1) (.int .i32 0) := ⟨_, rfl⟩
  rw [← hrow] at h
  have HR := Lib.hid hrow
  have HG := Lib.hid hge
  clear hr hrow hge h8
  go_enter Try.func50, Try.ntmps50
  go_wp2
  go_ret
  refine ⟨_, _, rfl, ⟨_, _, rfl, ⟨HG.out, fun e => by cases e⟩, fun _ => ⟨w.heap.size, 0, rfl, by simp, fun j u hu => ?_⟩⟩, ((Below.refl _ _).drew).alloc (by simp) _⟩
  rw [Nat.zero_add]
  have hn : (w.alloc (.cells row 21)).drew.heap[w.heap.size]? = some (.cells row 21 (0, 0)) := alloc_new w _
  rw [cell_of_row _ _ j _ _ _ hn, HR.out, Array.getElem?_append_left (by have := (List.getElem?_eq_some_iff.1 hu).1; simpa using this)]
  simpa using hu
set_option maxRecDepth 1000000 in
theorem runesOf_b (w : World) : Calls Try.prog 50 #[.string ⟨#[98]⟩] w fun e w' => ∃ A c, e = .returned (.slice A 1 c) ∧ Holds1 w' (.slice A 1 c) (runeVals [98]) ∧ Below w.heap.size w w' := by
  have hr : Conv.runesFrom ⟨#[98]⟩ (ByteArray.mk #[98]).size 0 #[] = (runeVals [98]).toArray := by kernel_rfl
  have h := run_runes_of_string (P := Try.prog) w 9 22 21 ⟨#[98]⟩ Try.underlying9 Try.underlying22 Try.underlying21 (by rw [hr]; decide)
  rw [hr] at h
  have h8 : (runeVals [98]).toArray.size = 1 := rfl
  rw [h8] at h
  have hge := grownCap_ge w 1 0 21
  generalize grownCap w 1 0 21 = cp at *
  obtain ⟨row, hrow⟩ : ∃ row, row = (runeVals [98]).toArray ++ Array.replicate (cp - 1) (.int .i32 0) := ⟨_, rfl⟩
  rw [← hrow] at h
  have HR := Lib.hid hrow
  have HG := Lib.hid hge
  clear hr hrow hge h8
  go_enter Try.func50, Try.ntmps50
  go_wp2
  go_ret
  refine ⟨_, _, rfl, ⟨_, _, rfl, ⟨HG.out, fun e => by cases e⟩, fun _ => ⟨w.heap.size, 0, rfl, by simp, fun j u hu => ?_⟩⟩, ((Below.refl _ _).drew).alloc (by simp) _⟩
  rw [Nat.zero_add]
  have hn : (w.alloc (.cells row 21)).drew.heap[w.heap.size]? = some (.cells row 21 (0, 0)) := alloc_new w _
  rw [cell_of_row _ _ j _ _ _ hn, HR.out, Array.getElem?_append_left (by have := (List.getElem?_eq_some_iff.1 hu).1; simpa using this)]
  simpa using hu
/-- a slice of runes as a string -/
theorem str_of_runes {w : World} {A : Option Addr} {n c : Nat} {l : List Int} (h : Holds1 w (.slice A n c) (runeVals l)) {s : ByteArray} (hs : runesBytes l = s) : (convert 22 9 (.slice A n c)).run Try.prog w = .ok (.string s) w := by
  obtain ⟨A', c', e, ⟨hc, hn⟩, hcell⟩ := h
  injection e with e1 e2 e3
  subst e1 e3
  rw [runeVals_length] at e2 hcell
  subst e2
  cases A with
  | none =>
    obtain rfl : l = [] := List.eq_nil_of_length_eq_zero (by have := hn rfl; rw [runeVals_length] at hc; omega)
    rw [run_convert_runes_nil (P := Try.prog) w 22 9 21 _ _ Try.underlying22 Try.underlying21 Try.underlying9, ← hs]
    rfl
  | some a =>
    have hr := run_convert_runes (P := Try.prog) w 22 9 21 a l.length c l (Nat.le_refl _) Try.underlying22 Try.underlying21 Try.underlying9 (fun j hj => by
      obtain ⟨b, off, e, _, hcj⟩ := hcell (by omega)
      injection e with e
      subst e
      rw [add_off, hcj j (.int .i32 l[j]) (by unfold runeVals; rw [List.getElem?_map, List.getElem?_eq_getElem hj]; rfl)]
      rw [List.getD_eq_getElem?_getD, List.getElem?_eq_getElem hj]
      rfl)
    rw [hr, List.take_length, hs]
def edA : Ed := ⟨0, [], [97]⟩
theorem edA_err : apErr [98] edA = 0 ∧ apRes [98] edA = [97, 98] := by constructor <;> decide
theorem edA_add : addErr ls0 edA = 0 ∧ addS ls0 edA = ⟨[[edA]], 0, false⟩ := by
  have : addErr ls0 edA = 0 := by decide
  exact ⟨this, by unfold addS; rw [if_pos this]; rfl⟩
theorem bytes_ab : runesBytes [97, 98] = ⟨#[97, 98]⟩ := by kernel_rfl
theorem bytes_a : runesBytes [97] = ⟨#[97]⟩ := by kernel_rfl
def LEx (w : World) (g : Nat) (S : LS) : Prop := ∃ K, LAt K w g S
theorem LEx.below {w w' : World} {g : Nat} {S : LS} (h : LEx w g S) (hb : Below w.heap.size w w') : LEx w' g S := by
  obtain ⟨K, h⟩ := h
  exact ⟨K, h.below hb⟩
set_option maxRecDepth 1000000 in
set_option maxHeartbeats 4000000 in
theorem begun_any (w : World) : Calls Try.prog 13 #[] w fun e w' => e = .returned (.bool true) ∧ Below w.heap.size w w' := by
  have CN := Lib.hid (new_any w)
  have CA := Lib.hid fun W => runesOf_a W
  have CB := Lib.hid fun W => runesOf_b W
  have CP : Hid (∀ W A c Ai ni ci, Holds1 W (.slice A 1 c) (runeVals [98]) → Holds1 W (.slice Ai ni ci) (runeVals [97]) → Calls Try.prog 9 #[.slice A 1 c, editV 0 (.slice none 0 0) (.slice Ai ni ci)] W fun e w' => ∃ A n c, e = .returned (.tuple #[.slice A n c, .int .i64 0]) ∧ Holds1 w' (.slice A n c) (runeVals [97, 98]) ∧ Below W.heap.size W w') := Lib.hid fun W A c Ai ni ci h1 h2 => by
    refine (apply_any W [98] edA _ _ _ h1 (RRow.nil W 0).holds h2 (by decide) (by decide) (by decide)).mono ?_
    rintro e w' ⟨A, n, c, rfl, h3, h4⟩
    rw [edA_err.2] at h3
    rw [edA_err.1]
    exact ⟨A, n, c, rfl, h3.holds, h4⟩
  have CADD : Hid (∀ W g Ai ni ci, LEx W g ls0 → Holds1 W (.slice Ai ni ci) (runeVals [97]) → Calls Try.prog 19 #[.pointer (some ⟨g, 0, none⟩), editV 0 (.slice none 0 0) (.slice Ai ni ci)] W fun e w' => e = .returned (.int .i64 0) ∧ LEx w' g ⟨[[edA]], 0, false⟩ ∧ Touch (Only g) W w') := Lib.hid fun W g Ai ni ci h1 h2 => by
    obtain ⟨K, h1⟩ := h1
    refine (add_any W g ls0 h1 edA _ _ (RRow.nil W 0).holds h2 (by decide) (by decide) (by decide)).mono ?_
    rintro e w' ⟨rfl, h3, h4⟩
    rw [edA_add.2] at h3
    rw [edA_add.1]
    exact ⟨rfl, ⟨_, h3⟩, h4⟩
  have CL : Hid (∀ W g, LEx W g ⟨[[edA]], 0, false⟩ → Calls Try.prog 33 #[.pointer (some ⟨g, 0, none⟩)] W fun e w' => e = .returned (.int .i64 1) ∧ W = w') := Lib.hid fun W g h => by
    obtain ⟨K, h⟩ := h
    exact len_any W g _ h
  have CU : Hid (∀ W g, LEx W g ⟨[[edA]], 0, false⟩ → Calls Try.prog 25 #[.pointer (some ⟨g, 0, none⟩)] W fun e w' => ∃ b cc dA dn dc, e = .returned (.tuple #[.slice (some ⟨b, 0, none⟩) 1 cc, .int .i64 0]) ∧ w'.cell? ⟨b, 1, none⟩ = some (.slice dA dn dc) ∧ Holds1 w' (.slice dA dn dc) (runeVals [97]) ∧ Touch (Only g) W w') := Lib.hid fun W g h => by
    obtain ⟨K, h⟩ := h
    refine (undo_some W g _ h [edA] [] rfl).mono ?_
    rintro e w' ⟨A, n, c, rfl, h1, _, h3⟩
    obtain ⟨A', c', e1, h4⟩ := h1.holds
    injection e1 with e1 e2 e3
    subst e1 e2 e3
    obtain ⟨b, off, rfl, _, h5⟩ := h4 (by decide)
    obtain ⟨dv, iv, ⟨_, c1, _⟩, hd, _⟩ := h5 0 _ rfl
    obtain ⟨xs, _, h6, _⟩ := h1
    have : off = 0 := by
      rcases h6.2 with ⟨h7, _⟩ | ⟨g, cap, cur, h7, _⟩
      · cases h7
      · injection h7 with h7
        injection h7 with h7
        injection h7
    subst this
    obtain ⟨dA, dc, e, _⟩ := id hd
    subst e
    exact ⟨b, c, dA, _, dc, rfl, c1, hd, h3⟩
  have SZ := Lib.hid (Nat.le_refl w.heap.size)
  go_enter Try.func13, Try.ntmps13
  go_wp2_with (first
    | (go_at_call 18; refine (CN.out).mono ?_; rintro e w1 ⟨rfl, hl, hb⟩; have L := Lib.hid (show LEx w1 w.heap.size ls0 from ⟨_, hl⟩); have B := Lib.hid hb; clear hl hb)
    | (go_at_call 50; refine (CA.out _).mono ?_; rintro e w2 ⟨Aa, ca, rfl, ha, hb⟩; have L := Lib.hid (L.out.below hb); have B := Lib.hid (B.out.trans (hb.mono B.out.size)); have HA := Lib.hid ha; clear ha hb))
  generalize hw3 : w2.alloc (.cells #[.int .i64 0, .slice none 0 0, .slice Aa 1 ca] 24) = w3
  have b3 : Below w2.heap.size w2 w3 := by rw [← hw3]; exact (Below.refl _ _).alloc (Nat.le_refl _) _
  have X : Hid (EBox w3 w2.heap.size #[.int .i64 0, .slice none 0 0, .slice Aa 1 ca]) := Lib.hid (by rw [← hw3]; exact alloc_new _ _)
  have L := Lib.hid (L.out.below b3)
  have B := Lib.hid (B.out.trans (b3.mono B.out.size))
  have HA := Lib.hid (HA.out.below b3)
  clear hw3 b3
  generalize w2.heap.size = eb at *
  have D : Hid (Below w3.heap.size w3 w3.drew) := Lib.hid (Below.refl _ _).drew
  have HX : Hid (∀ W, Below w3.heap.size w3 W → W.cell? ⟨eb, 0, none⟩ = some (.int .i64 0) ∧ W.cell? ⟨eb, 1, none⟩ = some (.slice none 0 0) ∧ W.cell? ⟨eb, 2, none⟩ = some (.slice Aa 1 ca)) := Lib.hid fun W hb => ⟨(X.out.below hb).cell 0, (X.out.below hb).cell 1, (X.out.below hb).cell 2⟩
  have hT0 := HX.out _ D.out
  go_region_held3 (fun W => W.cell? ⟨eb, 0, none⟩ = some (.int .i64 0) ∧ W.cell? ⟨eb, 1, none⟩ = some (.slice none 0 0) ∧ W.cell? ⟨eb, 2, none⟩ = some (.slice Aa 1 ca)) (first | with_reducible exact hT0 | with_reducible exact hT1 | with_reducible exact hT2 | fail) (first
    | (go_at_call 50; refine (CB.out _).mono ?_; rintro e w4 ⟨Ab, cb, rfl, hh, hb⟩; have D := Lib.hid (D.out.trans (hb.mono D.out.size)); have hT1 := HX.out _ D.out; have HB := Lib.hid hh; clear hh hb)
    | (go_at_call 9; refine (CP.out _ _ _ _ _ _ HB.out (HA.out.below D.out)).mono ?_; rintro e w5 ⟨Ar, nr, cr, rfl, hh, hb⟩; have D := Lib.hid (D.out.trans (hb.mono D.out.size)); have hT2 := HX.out _ D.out; have hcv := str_of_runes hh bytes_ab; clear hh hb))
  all_goals
    have x0 := hT2.1
    have x1 := hT2.2.1
    have x2 := hT2.2.2
    have L5 := Lib.hid (L.out.below D.out)
    have B5 := Lib.hid (B.out.trans (D.out.mono B.out.size))
    have HA5 := Lib.hid (HA.out.below D.out)
    go_wp2_with (first
      | (go_at_call 19; refine (CADD.out _ _ _ _ _ L5.out HA5.out).mono ?_; rintro e w6 ⟨rfl, hl, ht⟩; have L6 := Lib.hid hl; have B6 := Lib.hid (only_below B5.out ht (Nat.le_refl _)); clear hl ht)
      | (go_at_call 33; refine (CL.out _ _ L6.out).mono ?_; rintro e w7 ⟨rfl, rfl⟩)
      | (go_at_call 25; refine (CU.out _ _ L6.out).mono ?_; rintro e w8 ⟨b, cc, dA, dn, dc, rfl, hc, hh, ht⟩; have hcv2 := str_of_runes hh bytes_a; have B8 := Lib.hid (only_below B6.out ht (Nat.le_refl _)); clear hh ht))
    go_ret
    exact ⟨rfl, B8.out⟩
end Go.Proofs.Ytjgjbdpknfplkaa
