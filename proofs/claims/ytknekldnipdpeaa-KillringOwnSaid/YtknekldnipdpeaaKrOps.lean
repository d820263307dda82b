/-
  What New, usable, tooLong, Len, joined, Yank, Rotate answer.
-/
import Derived.Test.YtknekldnipdpeaaKrCyc
namespace Go.Proofs.Ytknekldnipdpeaa
open Go.RowKit Go.Shelf Go.Lib
attribute [local go_sem] Oper.semAt_some

def vs0 : List Value := List.replicate 60 (.slice none 0 0)
def ks0 : KS := ⟨[], 0⟩
/-- a ring that was just laid -/
theorem RAt.new {w : World} {g : Nat} {row : Array Value} (h : w.heap[g]? = some (.cells row 58 (0, 0))) (hr : row = krow vs0 0 0 0) : RAt (fun _ => False) w g ks0 :=
  ⟨⟨vs0, 0, ⟨hr ▸ h, List.length_replicate, by omega, by simp [ks0], fun v hv => by rw [(List.mem_replicate.1 hv).2]; rfl⟩, fun i x hx => by simp [ks0] at hx⟩, .inr ⟨rfl, rfl⟩, (Array.getElem?_eq_some_iff.1 h).1, fun h => h, fun _ h => h.elim⟩
set_option maxRecDepth 1000000 in
theorem new_any (w : World) : Calls Try.prog 9 #[] w fun e w' => e = .returned (.pointer (some ⟨w.heap.size, 0, none⟩)) ∧ RAt (fun _ => False) w' w.heap.size ks0 ∧ Below w.heap.size w w' := by
  go_enter Try.func9, Try.ntmps9
  go_wp2
  go_ret
  exact ⟨rfl, RAt.new (alloc_new _ _) (by kernel_rfl), (Below.refl _ _).alloc (Nat.le_refl _) _⟩
section
variable {K : Nat → Prop}
set_option maxRecDepth 1000000 in
theorem usable_row (w : World) (g : Nat) (c1 : w.cell? ⟨g, 0, none⟩ = some (.bool true)) : Calls Try.prog 24 #[.pointer (some ⟨g, 0, none⟩)] w fun e w' => e = .returned (.bool true) ∧ w = w' := by
  go_enter Try.func24, Try.ntmps24
  go_wp2
  go_ret
  exact ⟨rfl, rfl⟩
set_option maxRecDepth 1000000 in
theorem len_any (w : World) (g : Nat) (S : KS) (h : RAt K w g S) : Calls Try.prog 22 #[.pointer (some ⟨g, 0, none⟩)] w fun e w' => e = .returned (.int .i64 (S.es.length : Int)) ∧ w = w' := by
  obtain ⟨vs, nw, hr, _⟩ := h.row
  have c0 := hr.cells.c0
  have c1 := hr.cells.cn
  have CU := Lib.hid (usable_row w g c0)
  clear h hr c0
  generalize S.es.length = n at *
  go_enter Try.func22, Try.ntmps22
  go_wp2_with (first
    | (go_at_call 24; refine (CU.out).mono ?_; rintro e w1 ⟨rfl, rfl⟩))
  go_ret
  exact ⟨rfl, rfl⟩
set_option maxRecDepth 1000000 in
theorem tooLong_any (w : World) (A : Option Addr) (n c : Nat) : Calls Try.prog 25 #[.slice A n c] w fun e w' => e = .returned (.bool (decide (1024 < n))) ∧ w = w' := by
  by_cases h : 1024 < n
  · have h1 : ((n : Int) > 1024) = True := eq_true (by omega)
    have h2 : ((1024 : Int) < (n : Int)) = True := eq_true (by omega)
    have h3 : decide (1024 < n) = true := decide_eq_true h
    rw [h3]
    have h4 : (1024 < n) = True := eq_true h
    clear h
    go_enter Try.func25, Try.ntmps25
    go_wp2
    go_ret
    exact ⟨rfl, rfl⟩
  · have h1 : ((n : Int) > 1024) = False := eq_false (by omega)
    have h2 : ((1024 : Int) < (n : Int)) = False := eq_false (by omega)
    have h3 : decide (1024 < n) = false := decide_eq_false h
    rw [h3]
    have h4 : (1024 < n) = False := eq_false h
    clear h
    go_enter Try.func25, Try.ntmps25
    go_wp2
    go_ret
    exact ⟨rfl, rfl⟩
/-- what two texts are, joined -/
def joinP (way : Int) (x l : List Int) : List Int := if way = 2 then l ++ x else x ++ l
theorem joinP_length (way : Int) (x l : List Int) : (joinP way x l).length = x.length + l.length := by
  unfold joinP
  split <;> simp [Nat.add_comm]
set_option maxRecDepth 1000000 in
theorem joined_any (w : World) (way : Int) (x l : List Int) (v u : Value) (hx : Holds1 w v (runeVals x)) (hl : Holds1 w u (runeVals l)) (hn : x.length ≤ 1024 ∧ l.length ≤ 1024) :
    Calls Try.prog 28 #[.int .i64 way, v, u] w fun e w' => ∃ A c, e = .returned (.slice A (joinP way x l).length c) ∧ RRow w' w.heap.size (.slice A (joinP way x l).length c) (joinP way x l) ∧ Below w.heap.size w w' := by
  obtain ⟨A1, c1, rfl, _⟩ := id hx
  obtain ⟨A2, c2, rfl, _⟩ := id hl
  rw [runeVals_length] at hx hl ⊢
  rw [runeVals_length]
  have hf : ∀ (a b : List Int), [a, b].flatten = a ++ b := fun a b => by simp
  by_cases h2 : way = 2
  · have hj : joinP way x l = l ++ x := if_pos h2
    rw [hj]
    have hb : Below w.heap.size w (w.alloc (.cells #[.slice A2 l.length c2, .slice A1 x.length c1] 30)) := (Below.refl _ _).alloc (Nat.le_refl _) _
    have CC := concat_any _ [l, x] _ _ _ (rows_two (alloc_new w (.cells #[.slice A2 l.length c2, .slice A1 x.length c1] 30)) (hl.below hb) (hx.below hb)) ⟨by rw [hf, List.length_append]; omega, by simp⟩
    rw [hf] at CC
    have CC := Lib.hid CC
    have HB := Lib.hid hb
    subst h2
    clear hx hl hn hj hf hb
    go_enter Try.func28, Try.ntmps28
    go_wp2_with (go_at_call 36; refine (CC.out).mono ?_; rintro e w1 ⟨r, rfl, hr, hbb⟩; have R := Lib.hid hr; have B := Lib.hid hbb; clear hr hbb)
    go_ret
    obtain ⟨A, c, rfl⟩ := RRow.form R.out
    exact ⟨A, c, rfl, own_less R.out (by simp), HB.out.trans (B.out.mono HB.out.size)⟩
  · have hj : joinP way x l = x ++ l := if_neg h2
    rw [hj]
    have hb : Below w.heap.size w (w.alloc (.cells #[.slice A1 x.length c1, .slice A2 l.length c2] 30)) := (Below.refl _ _).alloc (Nat.le_refl _) _
    have CC := concat_any _ [x, l] _ _ _ (rows_two (alloc_new w (.cells #[.slice A1 x.length c1, .slice A2 l.length c2] 30)) (hx.below hb) (hl.below hb)) ⟨by rw [hf, List.length_append]; omega, by simp⟩
    rw [hf] at CC
    have CC := Lib.hid CC
    have HB := Lib.hid hb
    have h3 : (way = 2) = False := eq_false h2
    have h4 : (way == 2) = false := by simpa using h2
    clear hx hl hn hj hf hb h2
    go_enter Try.func28, Try.ntmps28
    go_wp2_with (go_at_call 36; refine (CC.out).mono ?_; rintro e w1 ⟨r, rfl, hr, hbb⟩; have R := Lib.hid hr; have B := Lib.hid hbb; clear hr hbb)
    go_ret
    obtain ⟨A, c, rfl⟩ := RRow.form R.out
    exact ⟨A, c, rfl, own_less R.out (by simp), HB.out.trans (B.out.mono HB.out.size)⟩
theorem below_of_drewN {w w' : World} {n : Nat} (h : Below (w.drewN n).heap.size (w.drewN n) w') : Below w.heap.size w w' := ⟨h.os, h.tape, h.output, h.size, h.block⟩
theorem cloneRow (w : World) (v : Value) (x : List Int) (hx : Holds1 w v (runeVals x)) (hl : x.length ≤ 35184372088832) : Calls Try.prog 27 #[v] w fun e w' => ∃ A c, e = .returned (.slice A x.length c) ∧ RRow w' w.heap.size (.slice A x.length c) x ∧ Below w.heap.size w w' :=
  (cloneR_any w v x hx hl).mono fun e w' ⟨v', he, h1, h2⟩ => by
    obtain ⟨A, c, rfl⟩ := RRow.form h1
    exact ⟨A, c, he, h1, h2⟩
theorem RAt.nonempty {w : World} {g : Nat} {S : KS} (h : RAt K w g S) (hn : S.es ≠ []) : S.pl < S.es.length := by
  rcases h.pl with h | ⟨_, h⟩
  · exact h
  · exact absurd h hn
set_option maxRecDepth 1000000 in
set_option maxHeartbeats 4000000 in
theorem yank_some (w : World) (g : Nat) (S : KS) (h : RAt K w g S) (hp : S.pl < S.es.length) : Calls Try.prog 13 #[.pointer (some ⟨g, 0, none⟩)] w fun e w' => ∃ A c, e = .returned (.tuple #[.slice A S.es[S.pl].length c, .int .i64 0]) ∧ RRow w' w.heap.size (.slice A S.es[S.pl].length c) S.es[S.pl] ∧ Below w.heap.size w w' := by
  obtain ⟨vs, nw, hr, he⟩ := h.row
  obtain ⟨A1, c1, hv, hin, h1024⟩ := he.at hp
  have c0 := hr.cells.c0
  have c1' := hr.cells.cn
  have CU := Lib.hid (usable_row w g c0)
  have CE := Lib.hid (entry_any w.drew g 1 vs nw _ (hr.drewN 1).cyc S.pl (by have := h.many; omega) _ hv)
  have CC := Lib.hid fun m => cloneRow (w.drewN (1 + m)) (.slice A1 S.es[S.pl].length c1) S.es[S.pl] (hin.to ⟨Nat.le_refl _, fun _ _ _ => rfl⟩).now (by omega)
  have HLT := Lib.hid h.lt
  have hT0 : w.drew.cell? ⟨g, 63, none⟩ = some (.int .i64 (S.pl : Int)) := hr.cells.c63
  have hT1 : ∀ m, (w.drewN (1 + m)).cell? ⟨g, 63, none⟩ = some (.int .i64 (S.pl : Int)) := fun _ => hr.cells.c63
  have hne : ((S.es.length : Int) = 0) = False := eq_false (by omega)
  have hne2 : ((S.es.length : Int) == 0) = false := by simp; intro h0; rw [h0] at hp; simp at hp
  have hne3 : (S.es.length = 0) = False := eq_false (by omega)
  have hne4 : (S.es = []) = False := eq_false (by intro h0; rw [h0] at hp; simp at hp)
  generalize S.es[S.pl] = x at *
  generalize S.pl = pl at *
  generalize S.es.length = n at *
  generalize hxl : x.length = xl at *
  clear h hr he hv hin c0 hp h1024 hne4
  go_enter Try.func13, Try.ntmps13
  go_wp2_with (first
    | (go_at_call 24; refine (CU.out).mono ?_; rintro e w1 ⟨rfl, rfl⟩))
  go_region_held3 (fun W => W.cell? ⟨g, 63, none⟩ = some (.int .i64 (pl : Int))) (first | with_reducible exact hT2 | with_reducible exact hT0 | with_reducible exact hT1 _ | fail) (first
    | (go_at_call 29; refine (CE.out).mono ?_; rintro e w2 ⟨rfl, m, rfl⟩)
    | (go_at_call 27; refine (CC.out _).mono ?_; rintro e w3 ⟨A, c, rfl, hr, hb⟩; have hT2 : w3.cell? ⟨g, 63, none⟩ = some (.int .i64 (pl : Int)) := (hb.cell (p := ⟨g, 63, none⟩) HLT.out).trans (hT1 _); have R := Lib.hid hr; have B := Lib.hid hb; clear hr hb))
  all_goals
    go_wp2
    go_ret2
    exact ⟨A, c, rfl, R.out, below_of_drewN B.out⟩
set_option maxRecDepth 1000000 in
theorem yank_none (w : World) (g : Nat) (S : KS) (h : RAt K w g S) (hn : S.es = []) : Calls Try.prog 13 #[.pointer (some ⟨g, 0, none⟩)] w fun e w' => e = .returned (.tuple #[.slice none 0 0, .int .i64 6]) ∧ w = w' := by
  obtain ⟨vs, nw, hr, he⟩ := h.row
  have c0 := hr.cells.c0
  have c1' := hr.cells.cn
  have CU := Lib.hid (usable_row w g c0)
  rw [hn] at c1'
  clear h hr he c0 hn
  go_enter Try.func13, Try.ntmps13
  go_wp2_with (first
    | (go_at_call 24; refine (CU.out).mono ?_; rintro e w1 ⟨rfl, rfl⟩))
  go_ret2
  exact ⟨rfl, rfl⟩
/-- where a rotation leads -/
def rotP (n pl : Nat) (by' : Int) : Nat := (((pl : Int) + by') % (n : Int)).toNat
theorem rotP_lt {n pl : Nat} (h : 0 < n) (by' : Int) : rotP n pl by' < n := by
  unfold rotP
  have h1 := Int.emod_nonneg ((pl : Int) + by') (b := (n : Int)) (by omega)
  have h2 := Int.emod_lt_of_pos ((pl : Int) + by') (b := (n : Int)) (by omega)
  omega
theorem tmod_bounds (x : Int) {n : Nat} (h : 0 < n) : -(n : Int) < x.tmod n ∧ x.tmod n < n := by
  have h1 := Int.lt_tmod_of_pos x (b := (n : Int)) (by omega)
  have h2 := Int.tmod_lt_of_pos x (b := (n : Int)) (by omega)
  exact ⟨h1, h2⟩
theorem tmod_emod (x : Int) (n : Int) (a : Int) : (a + x.tmod n) % n = (a + x) % n := by
  have h := Int.tmod_add_mul_tdiv x n
  have : a + x = (a + x.tmod n) + n * x.tdiv n := by omega
  rw [this, Int.add_mul_emod_self_left]
theorem rot_eq {n pl : Nat} (h : pl < n) (by' : Int) : ((pl : Int) + by'.tmod n + n).tmod n = (rotP n pl by' : Int) := by
  obtain ⟨h1, h2⟩ := tmod_bounds by' (n := n) (by omega)
  rw [Int.tmod_eq_emod_of_nonneg (by omega), Int.add_emod_right, tmod_emod]
  unfold rotP
  have h3 := Int.emod_nonneg ((pl : Int) + by') (b := (n : Int)) (by omega)
  omega
end
end Go.Proofs.Ytknekldnipdpeaa
