/-
  A new buffer, a line's copy, a buffer's copy, an edit's reverse.
-/
import Derived.Test.YtepbhmebidmnbaaDoorBfOps
namespace Go.Proofs.YtepbhmebidmnbaaDoor
open Go.RowKit Go.Shelf Go.Lib
attribute [local go_sem] Oper.semAt_some

def br0 : BR := ⟨List.replicate 1024 0, 0, 0, 0, -1⟩
theorem br0_ok : BROk br0 := ⟨List.length_replicate, Nat.zero_le _⟩
theorem br0_cells : ((Tryd.zeroCells70.setIfInBounds 1026 (Value.bool true)).setIfInBounds 1028 (Value.int .i64 (-1))) = br0.row.toArray := by kernel_rfl
def bs0 : BS := ⟨[], 0, -1⟩
theorem br0_S : br0.S = bs0 := by
  have e : gapLine br0.A br0.u br0.v = [] := List.eq_nil_of_length_eq_zero (gapLine_length br0_ok.len br0_ok.sum)
  show BS.mk (gapLine br0.A br0.u br0.v) _ _ = _
  rw [e]
  rfl
theorem bs0_ok : BOk bs0 := ⟨by simp [bs0], by simp [bs0], by simp [bs0], by simp [bs0]⟩
def newS (x : List Int) : BS := ⟨x, x.length, -1⟩
theorem rS_new {x : List Int} (h : x.length ≤ 1024) : replErr bs0 0 0 x.length = 0 ∧ rS bs0 0 0 x = newS x := by
  have e : replErr bs0 0 0 x.length = 0 := by
    unfold replErr
    rw [if_neg (by simp [bs0]), if_neg (by simp [bs0]; omega)]
  refine ⟨e, ?_⟩
  unfold rS
  rw [if_pos e]
  unfold replP newS
  simp [bs0, pointP, markP]
theorem rS_long {x : List Int} (h : ¬ x.length ≤ 1024) : replErr bs0 0 0 x.length = 3 := by
  unfold replErr
  rw [if_neg (by simp [bs0]), if_pos (by simp [bs0]; omega)]
theorem OffR.of {w w1 : World} {g : Nat} {v : Value} {x : List Int} (h : Holds1 w v (runeVals x)) (hb : Below w.heap.size w w1) (hg : w.heap.size ≤ g) : OffR w1 g v x := fun W hW => by
  obtain ⟨A, c, rfl, hc, h⟩ := h
  refine ⟨A, c, rfl, hc, fun hn => ?_⟩
  obtain ⟨b, off, hA, hlt, hcell⟩ := h hn
  have hlt1 := Nat.lt_of_lt_of_le hlt hb.size
  refine ⟨b, off, hA, Nat.lt_of_lt_of_le hlt1 hW.size, fun j u hu => ?_⟩
  rw [World.cell?_of_block (w := w1) (w' := W) (a := ⟨b, off + j, none⟩) (hW.block b hlt1 (fun e => by simp only [Only] at e; omega))]
  exact (hb.cell (p := ⟨b, off + j, none⟩) hlt).trans (hcell j u hu)
theorem only_below {w w1 w2 : World} {g : Nat} (hb : Below w.heap.size w w1) (ht : Touch (Only g) w1 w2) (hg : w.heap.size ≤ g) : Below w.heap.size w w2 :=
  hb.trans (ht.below hb.size fun k hk => by simp only [Only] at hk; omega)
set_option maxRecDepth 1000000 in
set_option maxHeartbeats 4000000 in
theorem new_any (w : World) (x : List Int) (v : Value) (hx : Holds1 w v (runeVals x)) (hm : x.length ≤ 140737488355328) :
    Calls Tryd.prog 11 #[v] w fun e w' => ((x.length ≤ 1024 ∧ ∃ g, e = .returned (.tuple #[.pointer (some ⟨g, 0, none⟩), .int .i64 0]) ∧ BufAt w' g (newS x) ∧ w.heap.size ≤ g) ∨ (¬ x.length ≤ 1024 ∧ e = .returned (.tuple #[.pointer none, .int .i64 3]))) ∧ Below w.heap.size w w' := by
  have hB0 : Below w.heap.size w (w.alloc (.cells br0.row.toArray 70)) := (Below.refl _ _).alloc (Nat.le_refl _) _
  have hBuf : BufAt (w.alloc (.cells br0.row.toArray 70)) w.heap.size bs0 := ⟨br0, br0_ok, alloc_new _ _, br0_S, bs0_ok⟩
  have CI := Lib.hid (insert_any _ w.heap.size bs0 hBuf x v (OffR.of hx hB0 (Nat.le_refl _)) hm)
  have B := Lib.hid hB0
  have hcl := br0_cells
  obtain ⟨A, c, rfl, _⟩ := hx
  rw [runeVals_length] at CI ⊢
  generalize hrow : br0.row.toArray = row at *
  generalize hw1 : w.alloc (.cells row 70) = w1 at *
  have HW1 := Lib.hid hw1
  clear hB0 hw1 hrow hBuf
  by_cases hl : x.length ≤ 1024
  · have hN := rS_new hl
    have HN := Lib.hid hN
    have CI2 : Hid (Calls Tryd.prog 40 #[.pointer (some ⟨w.heap.size, 0, none⟩), .slice A x.length c] w1 fun e w' => ∃ Ad nd cd Ai ni ci p, e = .returned (.tuple #[editV p (.slice Ad nd cd) (.slice Ai ni ci), .int .i64 0]) ∧ BufAt w' w.heap.size (newS x) ∧ Touch (Only w.heap.size) w1 w') := Lib.hid (CI.out.mono (by
      rintro e w' ⟨dv, iv, rfl, hd, hi, hS, ht⟩
      obtain ⟨Ad, nd, cd, rfl⟩ := hd.form3
      obtain ⟨Ai, ni, ci, rfl⟩ := hi.form3
      refine ⟨Ad, nd, cd, Ai, ni, ci, (rE bs0 bs0.pt bs0.pt x).1, ?_, by rw [← hN.2]; exact hS, ht⟩
      rw [show replErr bs0 (bs0.pt : Int) (bs0.pt : Int) x.length = 0 from hN.1]))
    clear CI hN hm HN
    go_enter Tryd.func11, Tryd.ntmps11
    go_wp2_with fail
    rw [HW1.out]
    go_wp2_with (first
      | (go_at_call 40; refine (CI2.out).mono ?_; rintro e w2 ⟨Ad, nd, cd, Ai, ni, ci, p, rfl, hS, ht⟩; have F := Lib.hid hS; have T := Lib.hid (only_below B.out ht (Nat.le_refl _)); clear hS ht))
    go_ret2
    exact ⟨.inl ⟨hl, _, rfl, F.out.below ((Below.refl _ _).alloc (Nat.le_refl _) _), Nat.le_refl _⟩, T.out.alloc T.out.size _⟩
  · have hN := rS_long hl
    have CI2 : Hid (Calls Tryd.prog 40 #[.pointer (some ⟨w.heap.size, 0, none⟩), .slice A x.length c] w1 fun e w' => ∃ Ad nd cd Ai ni ci p, e = .returned (.tuple #[editV p (.slice Ad nd cd) (.slice Ai ni ci), .int .i64 3]) ∧ Touch (Only w.heap.size) w1 w') := Lib.hid (CI.out.mono (by
      rintro e w' ⟨dv, iv, rfl, hd, hi, hS, ht⟩
      obtain ⟨Ad, nd, cd, rfl⟩ := hd.form3
      obtain ⟨Ai, ni, ci, rfl⟩ := hi.form3
      refine ⟨Ad, nd, cd, Ai, ni, ci, (rE bs0 bs0.pt bs0.pt x).1, ?_, ht⟩
      rw [show replErr bs0 (bs0.pt : Int) (bs0.pt : Int) x.length = 3 from hN]))
    clear CI hN hm
    go_enter Tryd.func11, Tryd.ntmps11
    go_wp2_with fail
    rw [HW1.out]
    go_wp2_with (first
      | (go_at_call 40; refine (CI2.out).mono ?_; rintro e w2 ⟨Ad, nd, cd, Ai, ni, ci, p, rfl, ht⟩; have T := Lib.hid (only_below B.out ht (Nat.le_refl _)); clear ht))
    go_ret2
    exact ⟨.inr ⟨hl, rfl⟩, T.out.alloc T.out.size _⟩

/-- a line in a box of its own -/
abbrev lineV (t : Value) (p m : Int) : Value := .agg #[t, .int .i64 p, .int .i64 m]
set_option maxRecDepth 1000000 in
set_option maxHeartbeats 4000000 in
theorem line_any (w : World) (g : Nat) (S : BS) (h : BufAt w g S) : Calls Tryd.prog 39 #[.pointer (some ⟨g, 0, none⟩)] w fun e w' => ∃ v, e = .returned (lineV v S.pt S.mr) ∧ RRow w' w.heap.size v S.l ∧ Below w.heap.size w w' := by
  have hB0 : Below w.heap.size w (w.alloc (.cells #[.slice none 0 0, .int .i64 0, .int .i64 0] 55)) := (Below.refl _ _).alloc (Nat.le_refl _) _
  have B := Lib.hid hB0
  have H : Hid (BufAt (w.alloc (.cells #[.slice none 0 0, .int .i64 0, .int .i64 0] 55)) g S) := Lib.hid (h.below hB0)
  have hX : (w.alloc (.cells #[.slice none 0 0, .int .i64 0, .int .i64 0] 55)).heap[w.heap.size]? = some (.cells #[.slice none 0 0, .int .i64 0, .int .i64 0] 55 (0, 0)) := alloc_new _ _
  have HR : Hid (w.heap.size < (w.alloc (.cells #[.slice none 0 0, .int .i64 0, .int .i64 0] 55)).heap.size) := Lib.hid (by simp)
  have X := Lib.hid hX
  have CT := Lib.hid fun W (h : BufAt W g S) => textB_any W g S h
  have CP := Lib.hid fun W (h : BufAt W g S) => pointB_any W g S h
  have CM := Lib.hid fun W (h : BufAt W g S) => markB_any W g S h
  generalize hw1 : w.alloc (.cells #[.slice none 0 0, .int .i64 0, .int .i64 0] 55) = w1 at *
  have HW1 := Lib.hid hw1
  clear hw1 hB0 h hX
  go_enter Tryd.func39, Tryd.ntmps39
  go_wp2_with fail
  rw [HW1.out]
  go_wp2_with (first
    | (go_at_call 34; refine (CT.out _ H.out).mono ?_; rintro e w2 ⟨v, rfl, hr, hb⟩; obtain ⟨Av, nv, cv, rfl⟩ := hr.form3; have V := Lib.hid (hr.less B.out.size); have V1 := Lib.hid hr; have H := Lib.hid (H.out.below hb); have X := Lib.hid ((hb.block w.heap.size HR.out).trans X.out); have B := Lib.hid (B.out.trans (hb.mono B.out.size)); have x0 := cell_of_row w2 w.heap.size 0 _ _ _ X.out; have x1 := cell_of_row w2 w.heap.size 1 _ _ _ X.out; have x2 := cell_of_row w2 w.heap.size 2 _ _ _ X.out; have y0 := frozen_of_row w2 w.heap.size 0 _ _ X.out; have y1 := frozen_of_row w2 w.heap.size 1 _ _ X.out; have y2 := frozen_of_row w2 w.heap.size 2 _ _ X.out; clear hr hb)
    | (go_at_call 35; refine (CP.out _ H.out).mono ?_; rintro e w2 ⟨rfl, rfl⟩)
    | (go_at_call 46; refine (CM.out _ H.out).mono ?_; rintro e w2 ⟨rfl, rfl⟩))
  refine bodyPost_ret (results_cell_row rfl _ _ w.heap.size 55 #[.slice Av nv cv, .int .i64 (S.pt : Int), .int .i64 S.mr] (0, 0) _ rfl (heap_setCell_same _ w.heap.size 2 _ _ _ (heap_setCell_same _ w.heap.size 1 _ _ _ (heap_setCell_same _ w.heap.size 0 _ _ _ X.out))) Tryd.underlying55 rfl (by kernel_rfl)) rfl ?_
  refine ⟨_, rfl, own_same V.out fun k hk => three_other _ _ _ _ _ fun e => ?_, below_three w w2 w.heap.size (Nat.le_refl _) _ _ _ B.out⟩
  subst e
  have := (own_lt V1.out _ hk).1
  have := HR.out
  omega
end Go.Proofs.YtepbhmebidmnbaaDoor
