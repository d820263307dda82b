/-
  What Kill answers, and what the ring then has.
-/
import Derived.Test.YtknekldnipdpeaaKrRot
namespace Go.Proofs.Ytknekldnipdpeaa
open Go.RowKit Go.Shelf Go.Lib
attribute [local go_sem] Oper.semAt_some

section
variable {K : Nat → Prop}
set_option maxRecDepth 1000000 in
theorem rotate_none (w : World) (g : Nat) (S : KS) (h : RAt K w g S) (hn : S.es = []) (by' : Int) : Calls Try.prog 15 #[.pointer (some ⟨g, 0, none⟩), .int .i64 by'] w fun e w' => e = .returned (.tuple #[.slice none 0 0, .int .i64 6]) ∧ w = w' := by
  have CL := len_any w g S h
  rw [hn] at CL
  have CL := Lib.hid CL
  have CY := Lib.hid (yank_none w g S h hn)
  clear h hn
  go_enter Try.func15, Try.ntmps15
  go_wp2_with (first
    | (go_at_call 22; refine (CL.out).mono ?_; rintro e w1 ⟨rfl, rfl⟩)
    | (go_at_call 13; refine (CY.out).mono ?_; rintro e w1 ⟨rfl, rfl⟩))
  go_ret2
  exact ⟨rfl, rfl⟩
theorem RAt.more {w W : World} {g : Nat} {S : KS} (h : RAt K w g S) (hb : Below w.heap.size w W) : RAt (More K w W) W g S := by
  obtain ⟨⟨vs, nw, h1, h4⟩, h6, h7, h8, h9⟩ := h.below hb
  refine ⟨⟨vs, nw, h1, h4.mono fun k hk => .inl hk⟩, h6, h7, ?_, ?_⟩
  · rintro (hk | ⟨hk, _⟩)
    · exact h8 hk
    · exact absurd h.lt (by omega)
  · rintro k (hk | ⟨_, hk⟩)
    · exact h9 k hk
    · exact hk
theorem more_off {w W : World} {g : Nat} {S : KS} (h : RAt K w g S) : ¬ More K w W g := by
  rintro (hk | ⟨hk, _⟩)
  · exact h.off hk
  · exact absurd h.lt (by omega)
theorem more_in {w W : World} {g : Nat} {S : KS} (h : RAt K w g S) (hs : w.heap.size ≤ W.heap.size) : ∀ k, More K w W k → k < W.heap.size := by
  rintro k (hk | ⟨_, hk⟩)
  · exact Nat.lt_of_lt_of_le (h.inw k hk) hs
  · exact hk
theorem ents_old {w W : World} {g : Nat} {S : KS} {vs : List Value} {nw : Nat} (h : RAt K w g S) (he : Ents K w vs nw S.es) (ht : Touch (Only g) w W) : Ents (More K w W) W vs nw S.es :=
  (he.to (Agree.of_touch ht fun k hk e => by simp only [Only] at e; subst e; exact h.off hk)).mono fun _ hk => .inl hk
theorem next_slot (nw i : Nat) : (nextS nw + (i + 1)) % 60 = (nw + i) % 60 := by
  unfold nextS
  omega
theorem next_ne {nw i : Nat} (_ : nw < 60) (hi : i < 59) : nextS nw ≠ (nw + i) % 60 := by
  unfold nextS
  omega
/-- a ring behind a new entry -/
theorem RAt.pushed {w W : World} {g : Nat} {S : KS} {vs : List Value} {nw : Nat} (h : RAt K w g S) (hr : Row w g vs nw S.es.length S.pl) (he : Ents K w vs nw S.es) {v : Value} {l : List Int} (hl : l.length ≤ 1024) (hW : Row W g (vs.set (nextS nw) v) (nextS nw) (min (S.es.length + 1) 60) 0) (hv : RIn (More K w W) W v l) (ht : Touch (Only g) w W) : RAt (More K w W) W g ⟨(l :: S.es).take 60, 0⟩ := by
  have he2 := ents_old h he ht
  have hlen : ((l :: S.es).take 60).length = min (S.es.length + 1) 60 := by rw [List.length_take, List.length_cons]; omega
  refine ⟨⟨_, _, by rw [hlen]; exact hW, ?_⟩, .inl (by rw [hlen]; show 0 < _; omega), hW.lt', more_off h, more_in h ht.size⟩
  intro i x hx
  rw [List.getElem?_take] at hx
  split at hx
  · next hi =>
    cases i with
    | zero =>
      simp at hx
      subst hx
      refine ⟨v, ?_, hv, hl⟩
      rw [Nat.add_zero, Nat.mod_eq_of_lt hW.lt, List.getElem?_set_self (by rw [hr.len]; exact hW.lt)]
    | succ i =>
      rw [List.getElem?_cons_succ] at hx
      obtain ⟨u, h1, h2, h3⟩ := he2 i x hx
      refine ⟨u, ?_, h2, h3⟩
      rw [next_slot, List.getElem?_set_ne (next_ne hr.lt (by omega))]
      exact h1
  · cases hx
/-- a ring whose newest entry became another one -/
theorem RAt.replaced {w W : World} {g : Nat} {S : KS} {vs : List Value} {nw : Nat} {x0 : List Int} {r : List (List Int)} (h : RAt K w g S) (hS : S.es = x0 :: r) (hr : Row w g vs nw S.es.length S.pl) (he : Ents K w vs nw S.es) {v : Value} {l : List Int} (hl : l.length ≤ 1024) (hW : Row W g (vs.set nw v) nw S.es.length 0) (hv : RIn (More K w W) W v l) (ht : Touch (Only g) w W) : RAt (More K w W) W g ⟨l :: r, 0⟩ := by
  have he2 := ents_old h he ht
  have hlen : (l :: r).length = S.es.length := by rw [hS]; rfl
  have hm := h.many
  refine ⟨⟨_, _, by rw [hlen]; exact hW, ?_⟩, .inl (by simp), hW.lt', more_off h, more_in h ht.size⟩
  intro i x hx
  cases i with
  | zero =>
    simp at hx
    subst hx
    refine ⟨v, ?_, hv, hl⟩
    rw [Nat.add_zero, Nat.mod_eq_of_lt hW.lt, List.getElem?_set_self (by rw [hr.len]; exact hW.lt)]
  | succ i =>
    have hx' := hx
    rw [List.getElem?_cons_succ] at hx
    have hi : i + 1 < 60 := by
      have := (List.getElem?_eq_some_iff.1 hx').1
      rw [hlen] at this
      omega
    obtain ⟨u, h1, h2, h3⟩ := he2 (i + 1) x (by rw [hS, List.getElem?_cons_succ]; exact hx)
    refine ⟨u, ?_, h2, h3⟩
    rw [List.getElem?_set_ne (by have := hr.lt; omega)]
    exact h1
/-- what Kill answers -/
def killErr (S : KS) (way : Int) (l : List Int) : Int :=
  if ¬ (way = 0 ∨ way = 1 ∨ way = 2) then 1 else if 1024 < l.length then 3 else if way = 0 then 0 else match S.es with
    | [] => 0
    | x :: _ => if 1024 < x.length + l.length then 3 else 0
/-- what a ring then says -/
def killS (S : KS) (way : Int) (l : List Int) : KS :=
  if killErr S way l ≠ 0 then S else if way = 0 then (if l = [] then S else ⟨(l :: S.es).take 60, 0⟩) else match S.es with
    | [] => ⟨[l], 0⟩
    | x :: r => ⟨joinP way x l :: r, 0⟩
def KPost (K : Nat → Prop) (w : World) (g : Nat) (err : Int) (S : KS) (e : Ending) (w' : World) : Prop := e = .returned (.int .i64 err) ∧ RAt (More K w w') w' g S ∧ Touch (Only g) w w'
set_option maxRecDepth 1000000 in
/-- a way that is none -/
theorem kill_way (w : World) (g : Nat) (S : KS) (h : RAt K w g S) (way : Int) (A : Option Addr) (n c : Nat) (h0 : way ≠ 0) (h1 : way ≠ 1) (h2 : way ≠ 2) : Calls Try.prog 11 #[.pointer (some ⟨g, 0, none⟩), .int .i64 way, .slice A n c] w (KPost K w g 1 S) := by
  obtain ⟨vs, nw, hr, he⟩ := h.row
  have CU := Lib.hid (usable_row w g hr.cells.c0)
  have H := Lib.hid h
  have i0 : (way = 0) = False := eq_false h0
  have i1 : (way = 1) = False := eq_false h1
  have i2 : (way = 2) = False := eq_false h2
  have j0 : (way != 0) = true := by simpa using h0
  have j1 : (way != 1) = true := by simpa using h1
  have j2 : (way != 2) = true := by simpa using h2
  clear h hr he h0 h1 h2
  go_enter Try.func11, Try.ntmps11
  go_wp2_with (first
    | (go_at_call 24; refine (CU.out).mono ?_; rintro e w1 ⟨rfl, rfl⟩))
  go_ret
  exact ⟨rfl, H.out.more (Below.refl _ _), Touch.refl _ _⟩
set_option maxRecDepth 1000000 in
/-- too long a text -/
theorem kill_long (w : World) (g : Nat) (S : KS) (h : RAt K w g S) (way : Int) (A : Option Addr) (n c : Nat) (hw : way = 0 ∨ way = 1 ∨ way = 2) (hn : 1024 < n) : Calls Try.prog 11 #[.pointer (some ⟨g, 0, none⟩), .int .i64 way, .slice A n c] w (KPost K w g 3 S) := by
  obtain ⟨vs, nw, hr, he⟩ := h.row
  have CU := Lib.hid (usable_row w g hr.cells.c0)
  have CT := tooLong_any w A n c
  rw [decide_eq_true hn] at CT
  have CT := Lib.hid CT
  have H := Lib.hid h
  clear h hr he hn
  rcases hw with rfl | rfl | rfl
  all_goals
    go_enter Try.func11, Try.ntmps11
    go_wp2_with (first
      | (go_at_call 24; refine (CU.out).mono ?_; rintro e w1 ⟨rfl, rfl⟩)
      | (go_at_call 25; refine (CT.out).mono ?_; rintro e w1 ⟨rfl, rfl⟩))
    go_ret
    exact ⟨rfl, H.out.more (Below.refl _ _), Touch.refl _ _⟩
set_option maxRecDepth 1000000 in
/-- nothing -/
theorem kill_nil (w : World) (g : Nat) (S : KS) (h : RAt K w g S) (A : Option Addr) (c : Nat) : Calls Try.prog 11 #[.pointer (some ⟨g, 0, none⟩), .int .i64 0, .slice A 0 c] w (KPost K w g 0 S) := by
  obtain ⟨vs, nw, hr, he⟩ := h.row
  have CU := Lib.hid (usable_row w g hr.cells.c0)
  have CT := tooLong_any w A 0 c
  rw [decide_eq_false (by omega)] at CT
  have CT := Lib.hid CT
  have H := Lib.hid h
  clear h hr he
  go_enter Try.func11, Try.ntmps11
  go_wp2_with (first
    | (go_at_call 24; refine (CU.out).mono ?_; rintro e w1 ⟨rfl, rfl⟩)
    | (go_at_call 25; refine (CT.out).mono ?_; rintro e w1 ⟨rfl, rfl⟩))
  go_ret
  exact ⟨rfl, H.out.more (Below.refl _ _), Touch.refl _ _⟩
end
end Go.Proofs.Ytknekldnipdpeaa
