/-
  An edit added to a list: Add, in every case.
-/
import Derived.Test.YtjgjbdpknfplkaaUdPush
namespace Go.Proofs.Ytjgjbdpknfplkaa
open Go.RowKit Go.Shelf Go.Lib
attribute [local go_sem] Oper.semAt_some

def emptyE (e : Ed) : Bool := decide (e.d.length = 0 ∧ e.i.length = 0)
def addErr (S : LS) (e : Ed) : Int := if emptyE e = true ∨ e.p < 0 then 1 else if many S.gs = 16384 then 3 else 0
def addS (S : LS) (e : Ed) : LS := if addErr S e = 0 then ⟨pushG S.gs e S.joins, S.opn, decide (0 < S.opn)⟩ else S
theorem LAt.more {K : Nat → Prop} {w w' : World} {g : Nat} {S : LS} (h : LAt K w' g S) (hg : g < w.heap.size) : LAt (More K w w') w' g S := by
  obtain ⟨p, h1, h2⟩ := h.ex
  refine ⟨⟨p, h1, h2.cell, h2.chain.mono fun k hk => .inl hk, h2.full, h2.many, h2.lt, ?_, ?_⟩, h.ok⟩
  · rintro (hk | ⟨hk, _⟩)
    · exact h2.off hk
    · omega
  · rintro k (hk | ⟨_, hk⟩)
    · exact h2.inw k hk
    · exact hk
section
variable {K : Nat → Prop}
theorem APost.bad {w w' : World} {g : Nat} {S : LS} {e : Ed} {c : Int} (h : LAt K w g S) (hc : addErr S e = c) (h0 : c ≠ 0) (hb : Below w.heap.size w w') : APost K w g (.int .i64 (addErr S e)) (addS S e) (.returned (.int .i64 c)) w' := by
  refine ⟨by rw [hc], ?_, Touch.of_below hb⟩
  unfold addS
  rw [if_neg (by rw [hc]; exact h0)]
  exact (h.below hb).more h.lt
theorem edit_cells {w w1 : World} {x y z : Value} (hw1 : w1 = w.alloc (.cells #[x, y, z] 24)) : EBox w1 w.heap.size #[x, y, z] := by rw [hw1]; exact alloc_new _ _
/-- the list behind an edit that was added, its last mark written -/
theorem add_end {w W : World} {g : Nat} {S : LS} {e : Ed} (h : LAt (More K w W) W g ⟨pushG S.gs e S.joins, S.opn, S.joins⟩) (ht : Touch (Only g) w W) (he : addErr S e = 0) {b : Bool} (hb : b = decide (0 < S.opn)) :
    APost K w g (.int .i64 (addErr S e)) (addS S e) (.returned (.int .i64 0)) (W.setCell ⟨g, 3, none⟩ (.bool b)) := by
  subst hb
  have h1 : Touch (Only g) W (W.setCell ⟨g, 3, none⟩ (.bool (decide (0 < S.opn)))) := only_set W g 3 _
  refine ⟨by rw [he], ?_, ht.trans h1⟩
  unfold addS
  rw [if_pos he]
  obtain ⟨p, h2, h3⟩ := h.ex
  have hL : LAt (More K w W) (W.setCell ⟨g, 3, none⟩ (.bool (decide (0 < S.opn)))) g ⟨pushG S.gs e S.joins, S.opn, decide (0 < S.opn)⟩ :=
    LAt.put h3 h1 (heap_setCell_same W g 3 _ _ _ h2) rfl ⟨fun _ => push_ne, h.ok.open'⟩
  have hK : ∀ k, More K w W k ↔ More K w (W.setCell ⟨g, 3, none⟩ (.bool (decide (0 < S.opn)))) k := fun k => by unfold More; simp [World.setCell]
  rw [show More K w (W.setCell ⟨g, 3, none⟩ (.bool (decide (0 < S.opn)))) = More K w W from funext fun k => propext (hK k).symm]
  exact hL
set_option maxRecDepth 1000000 in
set_option maxHeartbeats 4000000 in
theorem add_empty (w : World) (g : Nat) (S : LS) (h : LAt K w g S) (e : Ed) (A1 A2 : Option Addr) (n1 n2 c1 c2 : Nat) (hl1 : e.d.length = n1) (hl2 : e.i.length = n2) (h1 : n1 = 0) (h2 : n2 = 0) :
    Calls Try.prog 19 #[.pointer (some ⟨g, 0, none⟩), editV e.p (.slice A1 n1 c1) (.slice A2 n2 c2)] w (APost K w g (.int .i64 (addErr S e)) (addS S e)) := by
  obtain ⟨pp, hc, hg, hr⟩ := h.parts
  obtain ⟨w1, hw1⟩ : ∃ w1, w1 = w.alloc (.cells #[.int .i64 e.p, .slice A1 n1 c1, .slice A2 n2 c2] 24) := ⟨_, rfl⟩
  have b1 : Below w.heap.size w w1 := by rw [hw1]; exact (Below.refl _ _).alloc (Nat.le_refl _) _
  have X := Lib.hid (edit_cells hw1)
  have B := Lib.hid b1
  have H := Lib.hid (h.below b1)
  have HE : Hid (addErr S e = 1) := Lib.hid (by
    unfold addErr emptyE
    rw [hl1, hl2]
    simp
    omega)
  have CU := Lib.hid (usable_any w1 g S (h.below b1))
  have HW1 := Lib.hid hw1
  have x0 := X.out.cell 0
  have x1 := X.out.cell 1
  have x2 := X.out.cell 2
  have k1 : ((n1 : Int) == 0) = true := by simp; omega
  have k2 : ((n1 : Int) = 0) = True := by simp; omega
  have k7 : (n1 = 0) = True := by simp; omega
  have k3 : ((n2 : Int) == 0) = true := by simp; omega
  have k4 : ((n2 : Int) = 0) = True := by simp; omega
  have k8 : (n2 = 0) = True := by simp; omega
  have HP := Lib.hid fun (W : World) (hb : Below w.heap.size w W) => APost.bad h HE.out (by decide) hb
  clear h hc hg hr b1 hw1 hl1 hl2 H
  clear h1 h2
  go_enter Try.func19, Try.ntmps19
  go_wp2_with fail
  rw [← HW1.out]
  go_wp2_with (first
    | (go_at_call 51; refine (CU.out).mono ?_; rintro e w1 ⟨rfl, rfl⟩))
  go_ret
  exact HP.out _ B.out
set_option maxRecDepth 1000000 in
set_option maxHeartbeats 4000000 in
theorem add_neg_d (w : World) (g : Nat) (S : LS) (h : LAt K w g S) (e : Ed) (A1 A2 : Option Addr) (n1 n2 c1 c2 : Nat) (hl1 : e.d.length = n1) (hl2 : e.i.length = n2) (h1 : n1 ≠ 0) (hp : e.p < 0) :
    Calls Try.prog 19 #[.pointer (some ⟨g, 0, none⟩), editV e.p (.slice A1 n1 c1) (.slice A2 n2 c2)] w (APost K w g (.int .i64 (addErr S e)) (addS S e)) := by
  obtain ⟨pp, hc, hg, hr⟩ := h.parts
  obtain ⟨w1, hw1⟩ : ∃ w1, w1 = w.alloc (.cells #[.int .i64 e.p, .slice A1 n1 c1, .slice A2 n2 c2] 24) := ⟨_, rfl⟩
  have b1 : Below w.heap.size w w1 := by rw [hw1]; exact (Below.refl _ _).alloc (Nat.le_refl _) _
  have X := Lib.hid (edit_cells hw1)
  have B := Lib.hid b1
  have H := Lib.hid (h.below b1)
  have HE : Hid (addErr S e = 1) := Lib.hid (by
    unfold addErr emptyE
    rw [hl1, hl2]
    simp
    omega)
  have CU := Lib.hid (usable_any w1 g S (h.below b1))
  have HW1 := Lib.hid hw1
  have x0 := X.out.cell 0
  have x1 := X.out.cell 1
  have x2 := X.out.cell 2
  have k1 : ((n1 : Int) == 0) = false := by simp; omega
  have k2 : ((n1 : Int) = 0) = False := by simp; omega
  have k7 : (n1 = 0) = False := by simp; omega
  have k5 : (e.p < 0) = True := by simp; omega
  have HP := Lib.hid fun (W : World) (hb : Below w.heap.size w W) => APost.bad h HE.out (by decide) hb
  clear h hc hg hr b1 hw1 hl1 hl2 H
  clear h1 hp
  go_enter Try.func19, Try.ntmps19
  go_wp2_with fail
  rw [← HW1.out]
  go_wp2_with (first
    | (go_at_call 51; refine (CU.out).mono ?_; rintro e w1 ⟨rfl, rfl⟩))
  go_ret
  exact HP.out _ B.out
set_option maxRecDepth 1000000 in
set_option maxHeartbeats 4000000 in
theorem add_full_d (w : World) (g : Nat) (S : LS) (h : LAt K w g S) (e : Ed) (A1 A2 : Option Addr) (n1 n2 c1 c2 : Nat) (hl1 : e.d.length = n1) (hl2 : e.i.length = n2) (h1 : n1 ≠ 0) (hp : ¬ e.p < 0) (hf : many S.gs = 16384) :
    Calls Try.prog 19 #[.pointer (some ⟨g, 0, none⟩), editV e.p (.slice A1 n1 c1) (.slice A2 n2 c2)] w (APost K w g (.int .i64 (addErr S e)) (addS S e)) := by
  obtain ⟨pp, hc, hg, hr⟩ := h.parts
  obtain ⟨w1, hw1⟩ : ∃ w1, w1 = w.alloc (.cells #[.int .i64 e.p, .slice A1 n1 c1, .slice A2 n2 c2] 24) := ⟨_, rfl⟩
  have b1 : Below w.heap.size w w1 := by rw [hw1]; exact (Below.refl _ _).alloc (Nat.le_refl _) _
  have X := Lib.hid (edit_cells hw1)
  have B := Lib.hid b1
  have H := Lib.hid (h.below b1)
  have HE : Hid (addErr S e = 3) := Lib.hid (by
    unfold addErr emptyE
    rw [hl1, hl2]
    simp
    omega)
  have CU := Lib.hid (usable_any w1 g S (h.below b1))
  have HW1 := Lib.hid hw1
  have x0 := X.out.cell 0
  have x1 := X.out.cell 1
  have x2 := X.out.cell 2
  have k1 : ((n1 : Int) == 0) = false := by simp; omega
  have k2 : ((n1 : Int) = 0) = False := by simp; omega
  have k7 : (n1 = 0) = False := by simp; omega
  have k5 : (e.p < 0) = False := by simp; omega
  have CE0 := edits_any K w1 g S.gs pp (by
    have := (h.below b1).parts
    obtain ⟨q, hc2, hg2, hr2⟩ := this
    have e0 := hr2.symm.trans ((b1.block g hg.lt).trans hr)
    injection e0 with e0
    injection e0 with e0
    simp [lrow] at e0
    rw [e0] at hg2
    exact hg2)
  rw [numbered_length] at CE0
  have CE := Lib.hid CE0
  clear CE0
  rw [hf] at CE
  have HP := Lib.hid fun (W : World) (hb : Below w.heap.size w W) => APost.bad h HE.out (by decide) hb
  clear h hc hg hr b1 hw1 hl1 hl2 H hf hp h1
  go_enter Try.func19, Try.ntmps19
  go_wp2_with fail
  rw [← HW1.out]
  go_wp2_with (first
    | (go_at_call 51; refine (CU.out).mono ?_; rintro e w1 ⟨rfl, rfl⟩)
    | (go_at_call 52; refine (CE.out).mono ?_; rintro e w1 ⟨rfl, rfl⟩))
  go_ret
  exact HP.out _ B.out
set_option maxRecDepth 1000000 in
set_option maxHeartbeats 4000000 in
theorem add_ok_d (w : World) (g : Nat) (S : LS) (h : LAt K w g S) (e : Ed) (A1 A2 : Option Addr) (n1 n2 c1 c2 : Nat) (hd : Holds1 w (.slice A1 n1 c1) (runeVals e.d)) (hi : Holds1 w (.slice A2 n2 c2) (runeVals e.i)) (hl1 : e.d.length = n1) (hl2 : e.i.length = n2) (hn1 : n1 ≤ 35184372088832) (hn2 : n2 ≤ 35184372088832) (hp9 : e.p ≤ 9223372036854775807) (h1 : n1 ≠ 0) (hp : ¬ e.p < 0) (hf : many S.gs < 16384) :
    Calls Try.prog 19 #[.pointer (some ⟨g, 0, none⟩), editV e.p (.slice A1 n1 c1) (.slice A2 n2 c2)] w (APost K w g (.int .i64 (addErr S e)) (addS S e)) := by
  obtain ⟨pp, hc, hg, hr⟩ := h.parts
  obtain ⟨w1, hw1⟩ : ∃ w1, w1 = w.alloc (.cells #[.int .i64 e.p, .slice A1 n1 c1, .slice A2 n2 c2] 24) := ⟨_, rfl⟩
  have b1 : Below w.heap.size w w1 := by rw [hw1]; exact (Below.refl _ _).alloc (Nat.le_refl _) _
  have X := Lib.hid (edit_cells hw1)
  have B := Lib.hid b1
  have H := Lib.hid (h.below b1)
  have HE : Hid (addErr S e = 0) := Lib.hid (by
    unfold addErr emptyE
    rw [hl1, hl2]
    simp
    omega)
  have CU := Lib.hid (usable_any w1 g S (h.below b1))
  have HW1 := Lib.hid hw1
  have x0 := X.out.cell 0
  have x1 := X.out.cell 1
  have x2 := X.out.cell 2
  have k1 : ((n1 : Int) == 0) = false := by simp; omega
  have k2 : ((n1 : Int) = 0) = False := by simp; omega
  have k7 : (n1 = 0) = False := by simp; omega
  have k5 : (e.p < 0) = False := by simp; omega
  have CE0 := edits_any K w1 g S.gs pp (by
    have := (h.below b1).parts
    obtain ⟨q, hc2, hg2, hr2⟩ := this
    have e0 := hr2.symm.trans ((b1.block g hg.lt).trans hr)
    injection e0 with e0
    injection e0 with e0
    simp [lrow] at e0
    rw [e0] at hg2
    exact hg2)
  rw [numbered_length] at CE0
  have CE := Lib.hid CE0
  clear CE0
  have k6 : ((many S.gs : Int) == 16384) = false := by simp; omega
  have k9 : ((many S.gs : Int) = 16384) = False := by simp; omega
  have ka : (many S.gs = 16384) = False := by simp; omega
  have bd : Below w1.heap.size w1 w1.drew := (Below.refl _ _).drew
  have bd2 : Below w.heap.size w w1.drew := b1.trans (bd.mono b1.size)
  have ok : EdOk e := ⟨⟨by omega, hp9⟩, by have := hn1; omega, by have := hn2; omega⟩
  have CP := Lib.hid (push_any w1.drew g S (h.below bd2) e _ _ (hd.below bd2) (hi.below bd2) ok hf S.joins h.ok.joins)
  have c3 : w1.drew.cell? ⟨g, 3, none⟩ = some (.bool S.joins) := (bd2.cell (p := ⟨g, 3, none⟩) hg.lt).trans hc.c3
  have HM : Hid (∀ W, LAt (More K w1.drew W) W g ⟨pushG S.gs e S.joins, S.opn, S.joins⟩ → Touch (Only g) w1.drew W → LAt (More K w W) W g ⟨pushG S.gs e S.joins, S.opn, S.joins⟩) := Lib.hid fun W hW ht => by
    obtain ⟨p', h2, h3⟩ := hW.ex
    refine ⟨⟨p', h2, ⟨h3.cell, h3.chain.mono ?_, h3.full, h3.many, h3.lt, ?_, ?_⟩⟩, hW.ok⟩
    · rintro k (hk | ⟨hk, hk2⟩)
      · exact .inl hk
      · exact .inr ⟨Nat.le_trans bd2.size hk, hk2⟩
    · rintro (hk | ⟨hk, _⟩)
      · exact h.off hk
      · have := h.lt; omega
    · rintro k (hk | ⟨_, hk⟩)
      · exact Nat.lt_of_lt_of_le (h.inw k hk) (Nat.le_trans bd2.size ht.size)
      · exact hk
  have HT : Hid (∀ W, Touch (Only g) w1.drew W → W.cell? ⟨w.heap.size, 0, none⟩ = some (.int .i64 e.p) ∧ W.cell? ⟨w.heap.size, 1, none⟩ = some (.slice A1 n1 c1) ∧ W.cell? ⟨w.heap.size, 2, none⟩ = some (.slice A2 n2 c2)) := Lib.hid fun W ht => by
    have hx : EBox W w.heap.size #[.int .i64 e.p, .slice A1 n1 c1, .slice A2 n2 c2] := (X.out.below bd).touch ht h.lt
    exact ⟨hx.cell 0, hx.cell 1, hx.cell 2⟩
  have hT0 := HT.out _ (Touch.refl _ _)
  have HA := Lib.hid fun (W : World) (hW : LAt (More K w W) W g ⟨pushG S.gs e S.joins, S.opn, S.joins⟩) (ht : Touch (Only g) w W) => add_end (b := decide (0 < S.opn)) hW ht HE.out rfl
  have BD := Lib.hid bd2
  clear h hc hg hr b1 hw1 hd hi hn1 hn2 hl1 hl2 hp9 H hf hp h1 ok bd bd2
  obtain ⟨gs, opn, joins⟩ := S
  dsimp only at *
  go_enter Try.func19, Try.ntmps19
  go_wp2_with fail
  rw [← HW1.out]
  go_wp2_with (first
    | (go_at_call 51; refine (CU.out).mono ?_; rintro e w1 ⟨rfl, rfl⟩)
    | (go_at_call 52; refine (CE.out).mono ?_; rintro e w1 ⟨rfl, rfl⟩))
  go_region_held3 (fun W => W.cell? ⟨g, 3, none⟩ = some (.bool joins) ∧ W.cell? ⟨w.heap.size, 0, none⟩ = some (.int .i64 e.p) ∧ W.cell? ⟨w.heap.size, 1, none⟩ = some (.slice A1 n1 c1) ∧ W.cell? ⟨w.heap.size, 2, none⟩ = some (.slice A2 n2 c2)) (first | with_reducible exact ⟨c3, hT0⟩ | with_reducible exact ⟨d3, hT1⟩ | fail) (first
    | (go_at_call 53; refine (CP.out).mono ?_; rintro e w2 ⟨rfl, hl, ht⟩; have L2 := Lib.hid (HM.out _ hl ht); have T2 := Lib.hid ((Touch.of_below BD.out).trans ht); have hT1 := HT.out _ ht; obtain ⟨q, hc2, _⟩ := hl.parts; have d3 := hc2.c3; have d2 := hc2.c2; have df := hc2.f; clear hl ht hc2))
  all_goals
    go_wp2
    go_ret
    exact HA.out _ L2.out T2.out
set_option maxRecDepth 1000000 in
set_option maxHeartbeats 4000000 in
theorem add_neg_i (w : World) (g : Nat) (S : LS) (h : LAt K w g S) (e : Ed) (A1 A2 : Option Addr) (n1 n2 c1 c2 : Nat) (hl1 : e.d.length = n1) (hl2 : e.i.length = n2) (h1 : n1 = 0) (h2 : n2 ≠ 0) (hp : e.p < 0) :
    Calls Try.prog 19 #[.pointer (some ⟨g, 0, none⟩), editV e.p (.slice A1 n1 c1) (.slice A2 n2 c2)] w (APost K w g (.int .i64 (addErr S e)) (addS S e)) := by
  obtain ⟨pp, hc, hg, hr⟩ := h.parts
  obtain ⟨w1, hw1⟩ : ∃ w1, w1 = w.alloc (.cells #[.int .i64 e.p, .slice A1 n1 c1, .slice A2 n2 c2] 24) := ⟨_, rfl⟩
  have b1 : Below w.heap.size w w1 := by rw [hw1]; exact (Below.refl _ _).alloc (Nat.le_refl _) _
  have X := Lib.hid (edit_cells hw1)
  have B := Lib.hid b1
  have H := Lib.hid (h.below b1)
  have HE : Hid (addErr S e = 1) := Lib.hid (by
    unfold addErr emptyE
    rw [hl1, hl2]
    simp
    omega)
  have CU := Lib.hid (usable_any w1 g S (h.below b1))
  have HW1 := Lib.hid hw1
  have x0 := X.out.cell 0
  have x1 := X.out.cell 1
  have x2 := X.out.cell 2
  have k1 : ((n1 : Int) == 0) = true := by simp; omega
  have k2 : ((n1 : Int) = 0) = True := by simp; omega
  have k7 : (n1 = 0) = True := by simp; omega
  have k3 : ((n2 : Int) == 0) = false := by simp; omega
  have k4 : ((n2 : Int) = 0) = False := by simp; omega
  have k8 : (n2 = 0) = False := by simp; omega
  have k5 : (e.p < 0) = True := by simp; omega
  have HP := Lib.hid fun (W : World) (hb : Below w.heap.size w W) => APost.bad h HE.out (by decide) hb
  clear h hc hg hr b1 hw1 hl1 hl2 H
  clear h1 h2 hp
  go_enter Try.func19, Try.ntmps19
  go_wp2_with fail
  rw [← HW1.out]
  go_wp2_with (first
    | (go_at_call 51; refine (CU.out).mono ?_; rintro e w1 ⟨rfl, rfl⟩))
  go_ret
  exact HP.out _ B.out
set_option maxRecDepth 1000000 in
set_option maxHeartbeats 4000000 in
theorem add_full_i (w : World) (g : Nat) (S : LS) (h : LAt K w g S) (e : Ed) (A1 A2 : Option Addr) (n1 n2 c1 c2 : Nat) (hl1 : e.d.length = n1) (hl2 : e.i.length = n2) (h1 : n1 = 0) (h2 : n2 ≠ 0) (hp : ¬ e.p < 0) (hf : many S.gs = 16384) :
    Calls Try.prog 19 #[.pointer (some ⟨g, 0, none⟩), editV e.p (.slice A1 n1 c1) (.slice A2 n2 c2)] w (APost K w g (.int .i64 (addErr S e)) (addS S e)) := by
  obtain ⟨pp, hc, hg, hr⟩ := h.parts
  obtain ⟨w1, hw1⟩ : ∃ w1, w1 = w.alloc (.cells #[.int .i64 e.p, .slice A1 n1 c1, .slice A2 n2 c2] 24) := ⟨_, rfl⟩
  have b1 : Below w.heap.size w w1 := by rw [hw1]; exact (Below.refl _ _).alloc (Nat.le_refl _) _
  have X := Lib.hid (edit_cells hw1)
  have B := Lib.hid b1
  have H := Lib.hid (h.below b1)
  have HE : Hid (addErr S e = 3) := Lib.hid (by
    unfold addErr emptyE
    rw [hl1, hl2]
    simp
    omega)
  have CU := Lib.hid (usable_any w1 g S (h.below b1))
  have HW1 := Lib.hid hw1
  have x0 := X.out.cell 0
  have x1 := X.out.cell 1
  have x2 := X.out.cell 2
  have k1 : ((n1 : Int) == 0) = true := by simp; omega
  have k2 : ((n1 : Int) = 0) = True := by simp; omega
  have k7 : (n1 = 0) = True := by simp; omega
  have k3 : ((n2 : Int) == 0) = false := by simp; omega
  have k4 : ((n2 : Int) = 0) = False := by simp; omega
  have k8 : (n2 = 0) = False := by simp; omega
  have k5 : (e.p < 0) = False := by simp; omega
  have CE0 := edits_any K w1 g S.gs pp (by
    have := (h.below b1).parts
    obtain ⟨q, hc2, hg2, hr2⟩ := this
    have e0 := hr2.symm.trans ((b1.block g hg.lt).trans hr)
    injection e0 with e0
    injection e0 with e0
    simp [lrow] at e0
    rw [e0] at hg2
    exact hg2)
  rw [numbered_length] at CE0
  have CE := Lib.hid CE0
  clear CE0
  rw [hf] at CE
  have HP := Lib.hid fun (W : World) (hb : Below w.heap.size w W) => APost.bad h HE.out (by decide) hb
  clear h hc hg hr b1 hw1 hl1 hl2 H hf hp h1 h2
  go_enter Try.func19, Try.ntmps19
  go_wp2_with fail
  rw [← HW1.out]
  go_wp2_with (first
    | (go_at_call 51; refine (CU.out).mono ?_; rintro e w1 ⟨rfl, rfl⟩)
    | (go_at_call 52; refine (CE.out).mono ?_; rintro e w1 ⟨rfl, rfl⟩))
  go_ret
  exact HP.out _ B.out
set_option maxRecDepth 1000000 in
set_option maxHeartbeats 4000000 in
theorem add_ok_i (w : World) (g : Nat) (S : LS) (h : LAt K w g S) (e : Ed) (A1 A2 : Option Addr) (n1 n2 c1 c2 : Nat) (hd : Holds1 w (.slice A1 n1 c1) (runeVals e.d)) (hi : Holds1 w (.slice A2 n2 c2) (runeVals e.i)) (hl1 : e.d.length = n1) (hl2 : e.i.length = n2) (hn1 : n1 ≤ 35184372088832) (hn2 : n2 ≤ 35184372088832) (hp9 : e.p ≤ 9223372036854775807) (h1 : n1 = 0) (h2 : n2 ≠ 0) (hp : ¬ e.p < 0) (hf : many S.gs < 16384) :
    Calls Try.prog 19 #[.pointer (some ⟨g, 0, none⟩), editV e.p (.slice A1 n1 c1) (.slice A2 n2 c2)] w (APost K w g (.int .i64 (addErr S e)) (addS S e)) := by
  obtain ⟨pp, hc, hg, hr⟩ := h.parts
  obtain ⟨w1, hw1⟩ : ∃ w1, w1 = w.alloc (.cells #[.int .i64 e.p, .slice A1 n1 c1, .slice A2 n2 c2] 24) := ⟨_, rfl⟩
  have b1 : Below w.heap.size w w1 := by rw [hw1]; exact (Below.refl _ _).alloc (Nat.le_refl _) _
  have X := Lib.hid (edit_cells hw1)
  have B := Lib.hid b1
  have H := Lib.hid (h.below b1)
  have HE : Hid (addErr S e = 0) := Lib.hid (by
    unfold addErr emptyE
    rw [hl1, hl2]
    simp
    omega)
  have CU := Lib.hid (usable_any w1 g S (h.below b1))
  have HW1 := Lib.hid hw1
  have x0 := X.out.cell 0
  have x1 := X.out.cell 1
  have x2 := X.out.cell 2
  have k1 : ((n1 : Int) == 0) = true := by simp; omega
  have k2 : ((n1 : Int) = 0) = True := by simp; omega
  have k7 : (n1 = 0) = True := by simp; omega
  have k3 : ((n2 : Int) == 0) = false := by simp; omega
  have k4 : ((n2 : Int) = 0) = False := by simp; omega
  have k8 : (n2 = 0) = False := by simp; omega
  have k5 : (e.p < 0) = False := by simp; omega
  have CE0 := edits_any K w1 g S.gs pp (by
    have := (h.below b1).parts
    obtain ⟨q, hc2, hg2, hr2⟩ := this
    have e0 := hr2.symm.trans ((b1.block g hg.lt).trans hr)
    injection e0 with e0
    injection e0 with e0
    simp [lrow] at e0
    rw [e0] at hg2
    exact hg2)
  rw [numbered_length] at CE0
  have CE := Lib.hid CE0
  clear CE0
  have k6 : ((many S.gs : Int) == 16384) = false := by simp; omega
  have k9 : ((many S.gs : Int) = 16384) = False := by simp; omega
  have ka : (many S.gs = 16384) = False := by simp; omega
  have bd : Below w1.heap.size w1 w1.drew := (Below.refl _ _).drew
  have bd2 : Below w.heap.size w w1.drew := b1.trans (bd.mono b1.size)
  have ok : EdOk e := ⟨⟨by omega, hp9⟩, by have := hn1; omega, by have := hn2; omega⟩
  have CP := Lib.hid (push_any w1.drew g S (h.below bd2) e _ _ (hd.below bd2) (hi.below bd2) ok hf S.joins h.ok.joins)
  have c3 : w1.drew.cell? ⟨g, 3, none⟩ = some (.bool S.joins) := (bd2.cell (p := ⟨g, 3, none⟩) hg.lt).trans hc.c3
  have HM : Hid (∀ W, LAt (More K w1.drew W) W g ⟨pushG S.gs e S.joins, S.opn, S.joins⟩ → Touch (Only g) w1.drew W → LAt (More K w W) W g ⟨pushG S.gs e S.joins, S.opn, S.joins⟩) := Lib.hid fun W hW ht => by
    obtain ⟨p', h2, h3⟩ := hW.ex
    refine ⟨⟨p', h2, ⟨h3.cell, h3.chain.mono ?_, h3.full, h3.many, h3.lt, ?_, ?_⟩⟩, hW.ok⟩
    · rintro k (hk | ⟨hk, hk2⟩)
      · exact .inl hk
      · exact .inr ⟨Nat.le_trans bd2.size hk, hk2⟩
    · rintro (hk | ⟨hk, _⟩)
      · exact h.off hk
      · have := h.lt; omega
    · rintro k (hk | ⟨_, hk⟩)
      · exact Nat.lt_of_lt_of_le (h.inw k hk) (Nat.le_trans bd2.size ht.size)
      · exact hk
  have HT : Hid (∀ W, Touch (Only g) w1.drew W → W.cell? ⟨w.heap.size, 0, none⟩ = some (.int .i64 e.p) ∧ W.cell? ⟨w.heap.size, 1, none⟩ = some (.slice A1 n1 c1) ∧ W.cell? ⟨w.heap.size, 2, none⟩ = some (.slice A2 n2 c2)) := Lib.hid fun W ht => by
    have hx : EBox W w.heap.size #[.int .i64 e.p, .slice A1 n1 c1, .slice A2 n2 c2] := (X.out.below bd).touch ht h.lt
    exact ⟨hx.cell 0, hx.cell 1, hx.cell 2⟩
  have hT0 := HT.out _ (Touch.refl _ _)
  have HA := Lib.hid fun (W : World) (hW : LAt (More K w W) W g ⟨pushG S.gs e S.joins, S.opn, S.joins⟩) (ht : Touch (Only g) w W) => add_end (b := decide (0 < S.opn)) hW ht HE.out rfl
  have BD := Lib.hid bd2
  clear h hc hg hr b1 hw1 hd hi hn1 hn2 hl1 hl2 hp9 H hf hp h1 h2 ok bd bd2
  obtain ⟨gs, opn, joins⟩ := S
  dsimp only at *
  go_enter Try.func19, Try.ntmps19
  go_wp2_with fail
  rw [← HW1.out]
  go_wp2_with (first
    | (go_at_call 51; refine (CU.out).mono ?_; rintro e w1 ⟨rfl, rfl⟩)
    | (go_at_call 52; refine (CE.out).mono ?_; rintro e w1 ⟨rfl, rfl⟩))
  go_region_held3 (fun W => W.cell? ⟨g, 3, none⟩ = some (.bool joins) ∧ W.cell? ⟨w.heap.size, 0, none⟩ = some (.int .i64 e.p) ∧ W.cell? ⟨w.heap.size, 1, none⟩ = some (.slice A1 n1 c1) ∧ W.cell? ⟨w.heap.size, 2, none⟩ = some (.slice A2 n2 c2)) (first | with_reducible exact ⟨c3, hT0⟩ | with_reducible exact ⟨d3, hT1⟩ | fail) (first
    | (go_at_call 53; refine (CP.out).mono ?_; rintro e w2 ⟨rfl, hl, ht⟩; have L2 := Lib.hid (HM.out _ hl ht); have T2 := Lib.hid ((Touch.of_below BD.out).trans ht); have hT1 := HT.out _ ht; obtain ⟨q, hc2, _⟩ := hl.parts; have d3 := hc2.c3; have d2 := hc2.c2; have df := hc2.f; clear hl ht hc2))
  all_goals
    go_wp2
    go_ret
    exact HA.out _ L2.out T2.out
theorem add_any (w : World) (g : Nat) (S : LS) (h : LAt K w g S) (e : Ed) (dv iv : Value) (hd : Holds1 w dv (runeVals e.d)) (hi : Holds1 w iv (runeVals e.i)) (hl1 : e.d.length ≤ 35184372088832) (hl2 : e.i.length ≤ 35184372088832) (hp : e.p ≤ 9223372036854775807) :
    Calls Try.prog 19 #[.pointer (some ⟨g, 0, none⟩), editV e.p dv iv] w (APost K w g (.int .i64 (addErr S e)) (addS S e)) := by
  obtain ⟨A1, c1, rfl, _⟩ := id hd
  obtain ⟨A2, c2, rfl, _⟩ := id hi
  rw [runeVals_length] at hd hi ⊢
  rw [runeVals_length]
  have hm := h.many
  by_cases h1 : e.d.length = 0
  · by_cases h2 : e.i.length = 0
    · exact add_empty w g S h e A1 A2 _ _ c1 c2 rfl rfl h1 h2
    · by_cases h3 : e.p < 0
      · exact add_neg_i w g S h e A1 A2 _ _ c1 c2 rfl rfl h1 h2 h3
      · by_cases h4 : many S.gs = 16384
        · exact add_full_i w g S h e A1 A2 _ _ c1 c2 rfl rfl h1 h2 h3 h4
        · exact add_ok_i w g S h e A1 A2 _ _ c1 c2 hd hi rfl rfl hl1 hl2 hp h1 h2 h3 (by omega)
  · by_cases h3 : e.p < 0
    · exact add_neg_d w g S h e A1 A2 _ _ c1 c2 rfl rfl h1 h3
    · by_cases h4 : many S.gs = 16384
      · exact add_full_d w g S h e A1 A2 _ _ c1 c2 rfl rfl h1 h3 h4
      · exact add_ok_d w g S h e A1 A2 _ _ c1 c2 hd hi rfl rfl hl1 hl2 hp h1 h3 (by omega)
end
end Go.Proofs.Ytjgjbdpknfplkaa

