/-
  The document's Kill, where it makes an entry, or turns the newest one.
-/
import Derived.Test.YtknekldnipdpeaaKrRefK2
namespace Go.Proofs.Ytknekldnipdpeaa
open Go.RowKit Go.Shelf Go.Lib
attribute [local go_sem] Oper.semAt_some

theorem own_srcs {w : World} {base size n c : Nat} {e : TypeId} {A : Option Addr} {xs : List Value} (h : w.ownsRow base e size (.slice A n c) n xs) : Src w size A c n xs := by
  have := own_head h (Nat.le_refl n)
  rwa [List.take_of_length_le (by rw [h.1]; exact Nat.le_refl _)] at this
theorem own_cap {w : World} {base size n c : Nat} {e : TypeId} {A : Option Addr} {xs : List Value} (h : w.ownsRow base e size (.slice A n c) n xs) : n ≤ c := by
  obtain ⟨A', c', e1, h1, _⟩ := own_form h
  injection e1 with _ _ e3
  omega
theorem sliceAt_60 (A : Option Addr) (n c : Nat) (hb : 60 ≤ c) (W : World) : (Instr.sliceAt 26 (.slice A n c) none (some (.int .i64 60)) none).run Try.prog W = .ok (.slice A 60 c) W := sliceAt_rows_to A n c 60 hb W
theorem sliceAt_1 (A : Option Addr) (n c : Nat) (ha : 1 ≤ n) (W : World) : (Instr.sliceAt 26 (.slice A n c) (some (.int .i64 1)) none none).run Try.prog W = .ok (.slice (tailA A c 1 1) (n - 1) (c - 1)) W := sliceAt_rows_from A n c 1 ha W
/-- the document's ring's two cells in a world -/
structure RC (W : World) (r : Nat) (v : Value) (p : Int) : Prop where
  c0 : W.cell? ⟨r, 0, none⟩ = some v
  c1 : W.cell? ⟨r, 1, none⟩ = some (.int .i64 p)
  f0 : W.frozen? ⟨r, 0, none⟩ = false
  f1 : W.frozen? ⟨r, 1, none⟩ = false
theorem RC.of {W : World} {r : Nat} {v : Value} {p : Int} {t : TypeId} (h : W.heap[r]? = some (.cells #[v, .int .i64 p] t (0, 0))) : RC W r v p :=
  ⟨cell_of_row W r 0 _ _ _ h, cell_of_row W r 1 _ _ _ h, frozen_of_row W r 0 _ _ h, frozen_of_row W r 1 _ _ h⟩
theorem rset2 {W : World} {r : Nat} {v v' : Value} {p : Int} {t : TypeId} (h : W.heap[r]? = some (.cells #[v, .int .i64 p] t (0, 0))) : ((W.setCell ⟨r, 0, none⟩ v').setCell ⟨r, 1, none⟩ (.int .i64 0)).heap[r]? = some (.cells #[v', .int .i64 0] t (0, 0)) :=
  heap_setCell_same _ r 1 _ _ _ (heap_setCell_same _ r 0 _ _ _ h)
theorem rset3 {W : World} {r : Nat} {v v' v'' : Value} {p : Int} {t : TypeId} (h : W.heap[r]? = some (.cells #[v, .int .i64 p] t (0, 0))) : (((W.setCell ⟨r, 0, none⟩ v').setCell ⟨r, 0, none⟩ v'').setCell ⟨r, 1, none⟩ (.int .i64 0)).heap[r]? = some (.cells #[v'', .int .i64 0] t (0, 0)) :=
  heap_setCell_same _ r 1 _ _ _ (heap_setCell_same _ r 0 _ _ _ (heap_setCell_same _ r 0 _ _ _ h))
theorem tset2 (W : World) (r : Nat) (v' u : Value) : Touch (Only r) W ((W.setCell ⟨r, 0, none⟩ v').setCell ⟨r, 1, none⟩ u) := (only_set _ _ _ _).trans (only_set _ _ _ _)
theorem tset3 (W : World) (r : Nat) (v' v'' u : Value) : Touch (Only r) W (((W.setCell ⟨r, 0, none⟩ v').setCell ⟨r, 0, none⟩ v'').setCell ⟨r, 1, none⟩ u) := (only_set _ _ _ _).trans (tset2 _ _ _ _)
section
variable {K : Nat → Prop}
set_option maxRecDepth 1000000 in
set_option maxHeartbeats 4000000 in
theorem wkill_new_pz (w : World) (r : Nat) (es : List (List Int)) (pl : Nat) (h : WAt K w r ⟨es, pl⟩) (v : Value) (l : List Int) (hv : Holds1 w v (runeVals l)) (hl : l.length ≤ 1024) (hn60 : es.length < 60) (hne : l ≠ []) : Calls Try.prog 12 #[.pointer (some ⟨r, 0, none⟩), .int .i64 0, v] w (WPost K w r 0 ⟨(l :: es).take 60, 0⟩) := by
  obtain ⟨A0, c0, rfl, _⟩ := id hv
  rw [runeVals_length] at hv ⊢
  obtain ⟨A, c, hr, hL, _⟩ := h.cells
  obtain ⟨xs, h1, h2, h3, h4⟩ := hL.one
  dsimp only at hr h1 h3
  have CB := Lib.hid (copy_any w l (.slice A0 l.length c0) hv (by omega))
  have R0 := RC.of hr
  have q0 := R0.c0
  have HR := Lib.hid hr
  have HX := Lib.hid h1
  have HLT := Lib.hid h.lt
  have HONE := Lib.hid h4
  have FIN : Hid (∀ (w1 w2 W : World) (tv : Value) (A' : Option Addr) (n' c' m : Nat), Below w.heap.size w w1 → RRow w1 w.heap.size tv l → n' = es.length + 1 → w2.ownsRow w1.heap.size 30 1 (.slice A' n' c') n' ([tv] ++ xs) → Below w1.heap.size w1 w2 → m ≤ n' → m ≤ 60 → 0 < m → Touch (Only r) w2 W → W.heap[r]? = some (.cells #[.slice A' m c', .int .i64 0] 28 (0, 0)) → WAt (More K w W) W r ⟨(l :: es).take m, 0⟩ ∧ Touch (Only r) w W) := Lib.hid fun w1 w2 W tv A' n' c' m a1 a2 a3 a4 a5 a6 a7 a8 a9 a10 => wkill_fin h hr h3 hl a1 a2 a3 a4 a5 m a6 a7 a8 a9 a10
  have HM60 : Hid (es.length ≤ 60) := Lib.hid (by omega)
  have HN60 := Lib.hid hn60
  have i1 : ((l.length : Int) > 1024) = False := eq_false (by omega)
  have i2 : ((1024 : Int) < (l.length : Int)) = False := eq_false (by omega)
  have i3 : (1024 < l.length) = False := eq_false (by omega)
  have j1 : (l.length = 0) = False := eq_false (by simpa using hne)
  have j2 : ((l.length : Int) = 0) = False := eq_false (by simpa using hne)
  have j3 : ((l.length : Int) == 0) = false := by simpa using hne
  have j4 : (l = []) = False := eq_false hne
  clear hne
  generalize hnn : es.length = n at *
  have HNN := Lib.hid hnn
  have HLL : Hid ((Value.slice A0 l.length c0) = .slice A0 l.length c0) := Lib.hid rfl
  generalize hll : l.length = ll at *
  have HLLL := Lib.hid hll
  clear h hr hL h1 h2 h3 h4 hv hl R0 hn60 hnn hll HLL
  go_enter Try.func12, Try.ntmps12
  go_wp2_with (first
    | (go_at_call 31; refine (CB.out).mono ?_; rintro e w1 ⟨A1, c1, rfl, hrow1, hb1⟩; have ROW1 := Lib.hid hrow1; have B1 := Lib.hid hb1; have hba : Below w1.heap.size w1 (w1.alloc (.cells #[.slice A1 ll c1] 30)) := (Below.refl _ _).alloc (Nat.le_refl _) _; have hra := (hba.block r (Nat.lt_of_lt_of_le HLT.out hb1.size)).trans ((hb1.block r HLT.out).trans HR.out); have q1 := (RC.of hra).c0; have HRA := Lib.hid hra; have BA := Lib.hid hba; have XA := Lib.hid (own_below (own_below HX.out hb1) hba); clear hrow1 hb1 hba hra)
    | (at_builtin; refine wpList_append_rows (by rfl) _ _ (by rfl) w1.heap.size (.slice (some ⟨w1.heap.size, 0, none⟩) 1 1) 1 [.slice A1 ll c1] (by rfl) (built_own _ (Nat.le_refl _)) A n c xs (by rfl) (own_srcs XA.out) HONE.out (by have := HM60.out; omega) BA.out.size ?_; rintro A' n' c' w2 hn' hrow2 hb2 hg2 ho2; have ROW2 := Lib.hid hrow2; have B2 := Lib.hid (BA.out.trans hb2); have HN' : Hid (n' = n + 1) := Lib.hid (by omega); have hr2 := (hb2.block r (Nat.lt_of_lt_of_le HLT.out B1.out.size)).trans HRA.out; have HR2 := Lib.hid hr2; have R2 := RC.of hr2; have z0 := R2.c0; have z1 := R2.c1; have z2 := R2.f0; have z3 := R2.f1; have k60 : ((n' : Int) > 60) = False := eq_false (by have := HN60.out; omega); have k61 : ((60 : Int) < (n' : Int)) = False := eq_false (by have := HN60.out; omega); have k62 : (60 < n') = False := eq_false (by have := HN60.out; omega); clear hrow2 hb2 hg2 ho2 hr2 R2 hn'))
  go_ret
  have hm : (l :: es).take n' = (l :: es).take 60 := by
    rw [List.take_of_length_le (by rw [List.length_cons]; have := HNN.out; have := HN'.out; omega), List.take_of_length_le (by rw [List.length_cons]; have := HNN.out; have := HN60.out; omega)]
  obtain ⟨g1, g2⟩ := FIN.out w1 w2 _ _ A' n' c' n' B1.out ROW1.out HN'.out ROW2.out B2.out (Nat.le_refl _) (by have := HN60.out; have := HN'.out; omega) (by have := HN'.out; omega) (tset2 w2 r _ _) (rset2 HR2.out)
  rw [hm] at g1
  exact ⟨rfl, g1, g2⟩
set_option maxRecDepth 1000000 in
set_option maxHeartbeats 4000000 in
theorem wkill_new_fz (w : World) (r : Nat) (es : List (List Int)) (pl : Nat) (h : WAt K w r ⟨es, pl⟩) (v : Value) (l : List Int) (hv : Holds1 w v (runeVals l)) (hl : l.length ≤ 1024) (hn60 : es.length = 60) (hne : l ≠ []) : Calls Try.prog 12 #[.pointer (some ⟨r, 0, none⟩), .int .i64 0, v] w (WPost K w r 0 ⟨(l :: es).take 60, 0⟩) := by
  obtain ⟨A0, c0, rfl, _⟩ := id hv
  rw [runeVals_length] at hv ⊢
  obtain ⟨A, c, hr, hL, _⟩ := h.cells
  obtain ⟨xs, h1, h2, h3, h4⟩ := hL.one
  dsimp only at hr h1 h3
  have CB := Lib.hid (copy_any w l (.slice A0 l.length c0) hv (by omega))
  have R0 := RC.of hr
  have q0 := R0.c0
  have HR := Lib.hid hr
  have HX := Lib.hid h1
  have HLT := Lib.hid h.lt
  have HONE := Lib.hid h4
  have FIN : Hid (∀ (w1 w2 W : World) (tv : Value) (A' : Option Addr) (n' c' m : Nat), Below w.heap.size w w1 → RRow w1 w.heap.size tv l → n' = es.length + 1 → w2.ownsRow w1.heap.size 30 1 (.slice A' n' c') n' ([tv] ++ xs) → Below w1.heap.size w1 w2 → m ≤ n' → m ≤ 60 → 0 < m → Touch (Only r) w2 W → W.heap[r]? = some (.cells #[.slice A' m c', .int .i64 0] 28 (0, 0)) → WAt (More K w W) W r ⟨(l :: es).take m, 0⟩ ∧ Touch (Only r) w W) := Lib.hid fun w1 w2 W tv A' n' c' m a1 a2 a3 a4 a5 a6 a7 a8 a9 a10 => wkill_fin h hr h3 hl a1 a2 a3 a4 a5 m a6 a7 a8 a9 a10
  have HM60 : Hid (es.length ≤ 60) := Lib.hid (by omega)
  have HN60 := Lib.hid hn60
  have i1 : ((l.length : Int) > 1024) = False := eq_false (by omega)
  have i2 : ((1024 : Int) < (l.length : Int)) = False := eq_false (by omega)
  have i3 : (1024 < l.length) = False := eq_false (by omega)
  have j1 : (l.length = 0) = False := eq_false (by simpa using hne)
  have j2 : ((l.length : Int) = 0) = False := eq_false (by simpa using hne)
  have j3 : ((l.length : Int) == 0) = false := by simpa using hne
  have j4 : (l = []) = False := eq_false hne
  clear hne
  generalize hnn : es.length = n at *
  have HNN := Lib.hid hnn
  have HLL : Hid ((Value.slice A0 l.length c0) = .slice A0 l.length c0) := Lib.hid rfl
  generalize hll : l.length = ll at *
  have HLLL := Lib.hid hll
  clear h hr hL h1 h2 h3 h4 hv hl R0 hn60 hnn hll HLL
  go_enter Try.func12, Try.ntmps12
  go_wp2_with (first
    | (go_at_call 31; refine (CB.out).mono ?_; rintro e w1 ⟨A1, c1, rfl, hrow1, hb1⟩; have ROW1 := Lib.hid hrow1; have B1 := Lib.hid hb1; have hba : Below w1.heap.size w1 (w1.alloc (.cells #[.slice A1 ll c1] 30)) := (Below.refl _ _).alloc (Nat.le_refl _) _; have hra := (hba.block r (Nat.lt_of_lt_of_le HLT.out hb1.size)).trans ((hb1.block r HLT.out).trans HR.out); have q1 := (RC.of hra).c0; have HRA := Lib.hid hra; have BA := Lib.hid hba; have XA := Lib.hid (own_below (own_below HX.out hb1) hba); clear hrow1 hb1 hba hra)
    | (at_builtin; refine wpList_append_rows (by rfl) _ _ (by rfl) w1.heap.size (.slice (some ⟨w1.heap.size, 0, none⟩) 1 1) 1 [.slice A1 ll c1] (by rfl) (built_own _ (Nat.le_refl _)) A n c xs (by rfl) (own_srcs XA.out) HONE.out (by have := HM60.out; omega) BA.out.size ?_; rintro A' n' c' w2 hn' hrow2 hb2 hg2 ho2; have ROW2 := Lib.hid hrow2; have B2 := Lib.hid (BA.out.trans hb2); have HN' : Hid (n' = n + 1) := Lib.hid (by omega); have hr2 := (hb2.block r (Nat.lt_of_lt_of_le HLT.out B1.out.size)).trans HRA.out; have HR2 := Lib.hid hr2; have R2 := RC.of hr2; have z0 := R2.c0; have z1 := R2.c1; have z2 := R2.f0; have z3 := R2.f1; have k60 : ((n' : Int) > 60) = True := eq_true (by have := HN60.out; omega); have k61 : ((60 : Int) < (n' : Int)) = True := eq_true (by have := HN60.out; omega); have k62 : (60 < n') = True := eq_true (by have := HN60.out; omega); have hcap : 60 ≤ c' := (by have := own_cap hrow2; have := HN60.out; omega); have hs60 := fun W => sliceAt_60 A' n' c' hcap W; clear hcap; clear hrow2 hb2 hg2 ho2 hr2 R2 hn'))
  go_ret
  obtain ⟨g1, g2⟩ := FIN.out w1 w2 _ _ A' n' c' 60 B1.out ROW1.out HN'.out ROW2.out B2.out (by have := HN60.out; have := HN'.out; omega) (Nat.le_refl _) (by omega) (tset3 w2 r _ _ _) (rset3 HR2.out)
  exact ⟨rfl, g1, g2⟩
set_option maxRecDepth 1000000 in
set_option maxHeartbeats 4000000 in
theorem wkill_new_p1n (w : World) (r : Nat) (es : List (List Int)) (pl : Nat) (h : WAt K w r ⟨es, pl⟩) (v : Value) (l : List Int) (hv : Holds1 w v (runeVals l)) (hl : l.length ≤ 1024) (hn60 : es.length < 60) (hes : es = []) (hne : l ≠ []) : Calls Try.prog 12 #[.pointer (some ⟨r, 0, none⟩), .int .i64 1, v] w (WPost K w r 0 ⟨(l :: es).take 60, 0⟩) := by
  obtain ⟨A0, c0, rfl, _⟩ := id hv
  rw [runeVals_length] at hv ⊢
  obtain ⟨A, c, hr, hL, _⟩ := h.cells
  obtain ⟨xs, h1, h2, h3, h4⟩ := hL.one
  dsimp only at hr h1 h3
  have CB := Lib.hid (copy_any w l (.slice A0 l.length c0) hv (by omega))
  have R0 := RC.of hr
  have q0 := R0.c0
  have HR := Lib.hid hr
  have HX := Lib.hid h1
  have HLT := Lib.hid h.lt
  have HONE := Lib.hid h4
  have FIN : Hid (∀ (w1 w2 W : World) (tv : Value) (A' : Option Addr) (n' c' m : Nat), Below w.heap.size w w1 → RRow w1 w.heap.size tv l → n' = es.length + 1 → w2.ownsRow w1.heap.size 30 1 (.slice A' n' c') n' ([tv] ++ xs) → Below w1.heap.size w1 w2 → m ≤ n' → m ≤ 60 → 0 < m → Touch (Only r) w2 W → W.heap[r]? = some (.cells #[.slice A' m c', .int .i64 0] 28 (0, 0)) → WAt (More K w W) W r ⟨(l :: es).take m, 0⟩ ∧ Touch (Only r) w W) := Lib.hid fun w1 w2 W tv A' n' c' m a1 a2 a3 a4 a5 a6 a7 a8 a9 a10 => wkill_fin h hr h3 hl a1 a2 a3 a4 a5 m a6 a7 a8 a9 a10
  have HM60 : Hid (es.length ≤ 60) := Lib.hid (by omega)
  have HN60 := Lib.hid hn60
  have i1 : ((l.length : Int) > 1024) = False := eq_false (by omega)
  have i2 : ((1024 : Int) < (l.length : Int)) = False := eq_false (by omega)
  have i3 : (1024 < l.length) = False := eq_false (by omega)
  have j1 : (l.length = 0) = False := eq_false (by simpa using hne)
  have j2 : ((l.length : Int) = 0) = False := eq_false (by simpa using hne)
  have j3 : ((l.length : Int) == 0) = false := by simpa using hne
  have j4 : (l = []) = False := eq_false hne
  clear hne
  have hn0 : es.length = 0 := by rw [hes]; rfl
  have k1 : ((es.length : Int) > 0) = False := eq_false (by omega)
  have k2 : ((0 : Int) < (es.length : Int)) = False := eq_false (by omega)
  have k3 : (0 < es.length) = False := eq_false (by omega)
  clear hes hn0
  generalize hnn : es.length = n at *
  have HNN := Lib.hid hnn
  have HLL : Hid ((Value.slice A0 l.length c0) = .slice A0 l.length c0) := Lib.hid rfl
  generalize hll : l.length = ll at *
  have HLLL := Lib.hid hll
  clear h hr hL h1 h2 h3 h4 hv hl R0 hn60 hnn hll HLL
  go_enter Try.func12, Try.ntmps12
  go_wp2_with (first
    | (go_at_call 31; refine (CB.out).mono ?_; rintro e w1 ⟨A1, c1, rfl, hrow1, hb1⟩; have ROW1 := Lib.hid hrow1; have B1 := Lib.hid hb1; have hba : Below w1.heap.size w1 (w1.alloc (.cells #[.slice A1 ll c1] 30)) := (Below.refl _ _).alloc (Nat.le_refl _) _; have hra := (hba.block r (Nat.lt_of_lt_of_le HLT.out hb1.size)).trans ((hb1.block r HLT.out).trans HR.out); have q1 := (RC.of hra).c0; have HRA := Lib.hid hra; have BA := Lib.hid hba; have XA := Lib.hid (own_below (own_below HX.out hb1) hba); clear hrow1 hb1 hba hra)
    | (at_builtin; refine wpList_append_rows (by rfl) _ _ (by rfl) w1.heap.size (.slice (some ⟨w1.heap.size, 0, none⟩) 1 1) 1 [.slice A1 ll c1] (by rfl) (built_own _ (Nat.le_refl _)) A n c xs (by rfl) (own_srcs XA.out) HONE.out (by have := HM60.out; omega) BA.out.size ?_; rintro A' n' c' w2 hn' hrow2 hb2 hg2 ho2; have ROW2 := Lib.hid hrow2; have B2 := Lib.hid (BA.out.trans hb2); have HN' : Hid (n' = n + 1) := Lib.hid (by omega); have hr2 := (hb2.block r (Nat.lt_of_lt_of_le HLT.out B1.out.size)).trans HRA.out; have HR2 := Lib.hid hr2; have R2 := RC.of hr2; have z0 := R2.c0; have z1 := R2.c1; have z2 := R2.f0; have z3 := R2.f1; have k60 : ((n' : Int) > 60) = False := eq_false (by have := HN60.out; omega); have k61 : ((60 : Int) < (n' : Int)) = False := eq_false (by have := HN60.out; omega); have k62 : (60 < n') = False := eq_false (by have := HN60.out; omega); clear hrow2 hb2 hg2 ho2 hr2 R2 hn'))
  go_ret
  have hm : (l :: es).take n' = (l :: es).take 60 := by
    rw [List.take_of_length_le (by rw [List.length_cons]; have := HNN.out; have := HN'.out; omega), List.take_of_length_le (by rw [List.length_cons]; have := HNN.out; have := HN60.out; omega)]
  obtain ⟨g1, g2⟩ := FIN.out w1 w2 _ _ A' n' c' n' B1.out ROW1.out HN'.out ROW2.out B2.out (Nat.le_refl _) (by have := HN60.out; have := HN'.out; omega) (by have := HN'.out; omega) (tset2 w2 r _ _) (rset2 HR2.out)
  rw [hm] at g1
  exact ⟨rfl, g1, g2⟩
set_option maxRecDepth 1000000 in
set_option maxHeartbeats 4000000 in
theorem wkill_new_p1y (w : World) (r : Nat) (es : List (List Int)) (pl : Nat) (h : WAt K w r ⟨es, pl⟩) (v : Value) (l : List Int) (hv : Holds1 w v (runeVals l)) (hl : l.length ≤ 1024) (hn60 : es.length < 60) (hes : es = []) (hne : l = []) : Calls Try.prog 12 #[.pointer (some ⟨r, 0, none⟩), .int .i64 1, v] w (WPost K w r 0 ⟨(l :: es).take 60, 0⟩) := by
  obtain ⟨A0, c0, rfl, _⟩ := id hv
  rw [runeVals_length] at hv ⊢
  obtain ⟨A, c, hr, hL, _⟩ := h.cells
  obtain ⟨xs, h1, h2, h3, h4⟩ := hL.one
  dsimp only at hr h1 h3
  have CB := Lib.hid (copy_any w l (.slice A0 l.length c0) hv (by omega))
  have R0 := RC.of hr
  have q0 := R0.c0
  have HR := Lib.hid hr
  have HX := Lib.hid h1
  have HLT := Lib.hid h.lt
  have HONE := Lib.hid h4
  have FIN : Hid (∀ (w1 w2 W : World) (tv : Value) (A' : Option Addr) (n' c' m : Nat), Below w.heap.size w w1 → RRow w1 w.heap.size tv l → n' = es.length + 1 → w2.ownsRow w1.heap.size 30 1 (.slice A' n' c') n' ([tv] ++ xs) → Below w1.heap.size w1 w2 → m ≤ n' → m ≤ 60 → 0 < m → Touch (Only r) w2 W → W.heap[r]? = some (.cells #[.slice A' m c', .int .i64 0] 28 (0, 0)) → WAt (More K w W) W r ⟨(l :: es).take m, 0⟩ ∧ Touch (Only r) w W) := Lib.hid fun w1 w2 W tv A' n' c' m a1 a2 a3 a4 a5 a6 a7 a8 a9 a10 => wkill_fin h hr h3 hl a1 a2 a3 a4 a5 m a6 a7 a8 a9 a10
  have HM60 : Hid (es.length ≤ 60) := Lib.hid (by omega)
  have HN60 := Lib.hid hn60
  have i1 : ((l.length : Int) > 1024) = False := eq_false (by omega)
  have i2 : ((1024 : Int) < (l.length : Int)) = False := eq_false (by omega)
  have i3 : (1024 < l.length) = False := eq_false (by omega)
  have j1 : (l.length = 0) = True := eq_true (by rw [hne]; rfl)
  have j2 : ((l.length : Int) = 0) = True := eq_true (by rw [hne]; rfl)
  have j3 : ((l.length : Int) == 0) = true := by rw [hne]; rfl
  clear hne
  have hn0 : es.length = 0 := by rw [hes]; rfl
  have k1 : ((es.length : Int) > 0) = False := eq_false (by omega)
  have k2 : ((0 : Int) < (es.length : Int)) = False := eq_false (by omega)
  have k3 : (0 < es.length) = False := eq_false (by omega)
  clear hes hn0
  generalize hnn : es.length = n at *
  have HNN := Lib.hid hnn
  have HLL : Hid ((Value.slice A0 l.length c0) = .slice A0 l.length c0) := Lib.hid rfl
  generalize hll : l.length = ll at *
  have HLLL := Lib.hid hll
  clear h hr hL h1 h2 h3 h4 hv hl R0 hn60 hnn hll HLL
  go_enter Try.func12, Try.ntmps12
  go_wp2_with (first
    | (go_at_call 31; refine (CB.out).mono ?_; rintro e w1 ⟨A1, c1, rfl, hrow1, hb1⟩; have ROW1 := Lib.hid hrow1; have B1 := Lib.hid hb1; have hba : Below w1.heap.size w1 (w1.alloc (.cells #[.slice A1 ll c1] 30)) := (Below.refl _ _).alloc (Nat.le_refl _) _; have hra := (hba.block r (Nat.lt_of_lt_of_le HLT.out hb1.size)).trans ((hb1.block r HLT.out).trans HR.out); have q1 := (RC.of hra).c0; have HRA := Lib.hid hra; have BA := Lib.hid hba; have XA := Lib.hid (own_below (own_below HX.out hb1) hba); clear hrow1 hb1 hba hra)
    | (at_builtin; refine wpList_append_rows (by rfl) _ _ (by rfl) w1.heap.size (.slice (some ⟨w1.heap.size, 0, none⟩) 1 1) 1 [.slice A1 ll c1] (by rfl) (built_own _ (Nat.le_refl _)) A n c xs (by rfl) (own_srcs XA.out) HONE.out (by have := HM60.out; omega) BA.out.size ?_; rintro A' n' c' w2 hn' hrow2 hb2 hg2 ho2; have ROW2 := Lib.hid hrow2; have B2 := Lib.hid (BA.out.trans hb2); have HN' : Hid (n' = n + 1) := Lib.hid (by omega); have hr2 := (hb2.block r (Nat.lt_of_lt_of_le HLT.out B1.out.size)).trans HRA.out; have HR2 := Lib.hid hr2; have R2 := RC.of hr2; have z0 := R2.c0; have z1 := R2.c1; have z2 := R2.f0; have z3 := R2.f1; have k60 : ((n' : Int) > 60) = False := eq_false (by have := HN60.out; omega); have k61 : ((60 : Int) < (n' : Int)) = False := eq_false (by have := HN60.out; omega); have k62 : (60 < n') = False := eq_false (by have := HN60.out; omega); clear hrow2 hb2 hg2 ho2 hr2 R2 hn'))
  go_ret
  have hm : (l :: es).take n' = (l :: es).take 60 := by
    rw [List.take_of_length_le (by rw [List.length_cons]; have := HNN.out; have := HN'.out; omega), List.take_of_length_le (by rw [List.length_cons]; have := HNN.out; have := HN60.out; omega)]
  obtain ⟨g1, g2⟩ := FIN.out w1 w2 _ _ A' n' c' n' B1.out ROW1.out HN'.out ROW2.out B2.out (Nat.le_refl _) (by have := HN60.out; have := HN'.out; omega) (by have := HN'.out; omega) (tset2 w2 r _ _) (rset2 HR2.out)
  rw [hm] at g1
  exact ⟨rfl, g1, g2⟩
set_option maxRecDepth 1000000 in
set_option maxHeartbeats 4000000 in
theorem wkill_new_p2n (w : World) (r : Nat) (es : List (List Int)) (pl : Nat) (h : WAt K w r ⟨es, pl⟩) (v : Value) (l : List Int) (hv : Holds1 w v (runeVals l)) (hl : l.length ≤ 1024) (hn60 : es.length < 60) (hes : es = []) (hne : l ≠ []) : Calls Try.prog 12 #[.pointer (some ⟨r, 0, none⟩), .int .i64 2, v] w (WPost K w r 0 ⟨(l :: es).take 60, 0⟩) := by
  obtain ⟨A0, c0, rfl, _⟩ := id hv
  rw [runeVals_length] at hv ⊢
  obtain ⟨A, c, hr, hL, _⟩ := h.cells
  obtain ⟨xs, h1, h2, h3, h4⟩ := hL.one
  dsimp only at hr h1 h3
  have CB := Lib.hid (copy_any w l (.slice A0 l.length c0) hv (by omega))
  have R0 := RC.of hr
  have q0 := R0.c0
  have HR := Lib.hid hr
  have HX := Lib.hid h1
  have HLT := Lib.hid h.lt
  have HONE := Lib.hid h4
  have FIN : Hid (∀ (w1 w2 W : World) (tv : Value) (A' : Option Addr) (n' c' m : Nat), Below w.heap.size w w1 → RRow w1 w.heap.size tv l → n' = es.length + 1 → w2.ownsRow w1.heap.size 30 1 (.slice A' n' c') n' ([tv] ++ xs) → Below w1.heap.size w1 w2 → m ≤ n' → m ≤ 60 → 0 < m → Touch (Only r) w2 W → W.heap[r]? = some (.cells #[.slice A' m c', .int .i64 0] 28 (0, 0)) → WAt (More K w W) W r ⟨(l :: es).take m, 0⟩ ∧ Touch (Only r) w W) := Lib.hid fun w1 w2 W tv A' n' c' m a1 a2 a3 a4 a5 a6 a7 a8 a9 a10 => wkill_fin h hr h3 hl a1 a2 a3 a4 a5 m a6 a7 a8 a9 a10
  have HM60 : Hid (es.length ≤ 60) := Lib.hid (by omega)
  have HN60 := Lib.hid hn60
  have i1 : ((l.length : Int) > 1024) = False := eq_false (by omega)
  have i2 : ((1024 : Int) < (l.length : Int)) = False := eq_false (by omega)
  have i3 : (1024 < l.length) = False := eq_false (by omega)
  have j1 : (l.length = 0) = False := eq_false (by simpa using hne)
  have j2 : ((l.length : Int) = 0) = False := eq_false (by simpa using hne)
  have j3 : ((l.length : Int) == 0) = false := by simpa using hne
  have j4 : (l = []) = False := eq_false hne
  clear hne
  have hn0 : es.length = 0 := by rw [hes]; rfl
  have k1 : ((es.length : Int) > 0) = False := eq_false (by omega)
  have k2 : ((0 : Int) < (es.length : Int)) = False := eq_false (by omega)
  have k3 : (0 < es.length) = False := eq_false (by omega)
  clear hes hn0
  generalize hnn : es.length = n at *
  have HNN := Lib.hid hnn
  have HLL : Hid ((Value.slice A0 l.length c0) = .slice A0 l.length c0) := Lib.hid rfl
  generalize hll : l.length = ll at *
  have HLLL := Lib.hid hll
  clear h hr hL h1 h2 h3 h4 hv hl R0 hn60 hnn hll HLL
  go_enter Try.func12, Try.ntmps12
  go_wp2_with (first
    | (go_at_call 31; refine (CB.out).mono ?_; rintro e w1 ⟨A1, c1, rfl, hrow1, hb1⟩; have ROW1 := Lib.hid hrow1; have B1 := Lib.hid hb1; have hba : Below w1.heap.size w1 (w1.alloc (.cells #[.slice A1 ll c1] 30)) := (Below.refl _ _).alloc (Nat.le_refl _) _; have hra := (hba.block r (Nat.lt_of_lt_of_le HLT.out hb1.size)).trans ((hb1.block r HLT.out).trans HR.out); have q1 := (RC.of hra).c0; have HRA := Lib.hid hra; have BA := Lib.hid hba; have XA := Lib.hid (own_below (own_below HX.out hb1) hba); clear hrow1 hb1 hba hra)
    | (at_builtin; refine wpList_append_rows (by rfl) _ _ (by rfl) w1.heap.size (.slice (some ⟨w1.heap.size, 0, none⟩) 1 1) 1 [.slice A1 ll c1] (by rfl) (built_own _ (Nat.le_refl _)) A n c xs (by rfl) (own_srcs XA.out) HONE.out (by have := HM60.out; omega) BA.out.size ?_; rintro A' n' c' w2 hn' hrow2 hb2 hg2 ho2; have ROW2 := Lib.hid hrow2; have B2 := Lib.hid (BA.out.trans hb2); have HN' : Hid (n' = n + 1) := Lib.hid (by omega); have hr2 := (hb2.block r (Nat.lt_of_lt_of_le HLT.out B1.out.size)).trans HRA.out; have HR2 := Lib.hid hr2; have R2 := RC.of hr2; have z0 := R2.c0; have z1 := R2.c1; have z2 := R2.f0; have z3 := R2.f1; have k60 : ((n' : Int) > 60) = False := eq_false (by have := HN60.out; omega); have k61 : ((60 : Int) < (n' : Int)) = False := eq_false (by have := HN60.out; omega); have k62 : (60 < n') = False := eq_false (by have := HN60.out; omega); clear hrow2 hb2 hg2 ho2 hr2 R2 hn'))
  go_ret
  have hm : (l :: es).take n' = (l :: es).take 60 := by
    rw [List.take_of_length_le (by rw [List.length_cons]; have := HNN.out; have := HN'.out; omega), List.take_of_length_le (by rw [List.length_cons]; have := HNN.out; have := HN60.out; omega)]
  obtain ⟨g1, g2⟩ := FIN.out w1 w2 _ _ A' n' c' n' B1.out ROW1.out HN'.out ROW2.out B2.out (Nat.le_refl _) (by have := HN60.out; have := HN'.out; omega) (by have := HN'.out; omega) (tset2 w2 r _ _) (rset2 HR2.out)
  rw [hm] at g1
  exact ⟨rfl, g1, g2⟩
set_option maxRecDepth 1000000 in
set_option maxHeartbeats 4000000 in
theorem wkill_new_p2y (w : World) (r : Nat) (es : List (List Int)) (pl : Nat) (h : WAt K w r ⟨es, pl⟩) (v : Value) (l : List Int) (hv : Holds1 w v (runeVals l)) (hl : l.length ≤ 1024) (hn60 : es.length < 60) (hes : es = []) (hne : l = []) : Calls Try.prog 12 #[.pointer (some ⟨r, 0, none⟩), .int .i64 2, v] w (WPost K w r 0 ⟨(l :: es).take 60, 0⟩) := by
  obtain ⟨A0, c0, rfl, _⟩ := id hv
  rw [runeVals_length] at hv ⊢
  obtain ⟨A, c, hr, hL, _⟩ := h.cells
  obtain ⟨xs, h1, h2, h3, h4⟩ := hL.one
  dsimp only at hr h1 h3
  have CB := Lib.hid (copy_any w l (.slice A0 l.length c0) hv (by omega))
  have R0 := RC.of hr
  have q0 := R0.c0
  have HR := Lib.hid hr
  have HX := Lib.hid h1
  have HLT := Lib.hid h.lt
  have HONE := Lib.hid h4
  have FIN : Hid (∀ (w1 w2 W : World) (tv : Value) (A' : Option Addr) (n' c' m : Nat), Below w.heap.size w w1 → RRow w1 w.heap.size tv l → n' = es.length + 1 → w2.ownsRow w1.heap.size 30 1 (.slice A' n' c') n' ([tv] ++ xs) → Below w1.heap.size w1 w2 → m ≤ n' → m ≤ 60 → 0 < m → Touch (Only r) w2 W → W.heap[r]? = some (.cells #[.slice A' m c', .int .i64 0] 28 (0, 0)) → WAt (More K w W) W r ⟨(l :: es).take m, 0⟩ ∧ Touch (Only r) w W) := Lib.hid fun w1 w2 W tv A' n' c' m a1 a2 a3 a4 a5 a6 a7 a8 a9 a10 => wkill_fin h hr h3 hl a1 a2 a3 a4 a5 m a6 a7 a8 a9 a10
  have HM60 : Hid (es.length ≤ 60) := Lib.hid (by omega)
  have HN60 := Lib.hid hn60
  have i1 : ((l.length : Int) > 1024) = False := eq_false (by omega)
  have i2 : ((1024 : Int) < (l.length : Int)) = False := eq_false (by omega)
  have i3 : (1024 < l.length) = False := eq_false (by omega)
  have j1 : (l.length = 0) = True := eq_true (by rw [hne]; rfl)
  have j2 : ((l.length : Int) = 0) = True := eq_true (by rw [hne]; rfl)
  have j3 : ((l.length : Int) == 0) = true := by rw [hne]; rfl
  clear hne
  have hn0 : es.length = 0 := by rw [hes]; rfl
  have k1 : ((es.length : Int) > 0) = False := eq_false (by omega)
  have k2 : ((0 : Int) < (es.length : Int)) = False := eq_false (by omega)
  have k3 : (0 < es.length) = False := eq_false (by omega)
  clear hes hn0
  generalize hnn : es.length = n at *
  have HNN := Lib.hid hnn
  have HLL : Hid ((Value.slice A0 l.length c0) = .slice A0 l.length c0) := Lib.hid rfl
  generalize hll : l.length = ll at *
  have HLLL := Lib.hid hll
  clear h hr hL h1 h2 h3 h4 hv hl R0 hn60 hnn hll HLL
  go_enter Try.func12, Try.ntmps12
  go_wp2_with (first
    | (go_at_call 31; refine (CB.out).mono ?_; rintro e w1 ⟨A1, c1, rfl, hrow1, hb1⟩; have ROW1 := Lib.hid hrow1; have B1 := Lib.hid hb1; have hba : Below w1.heap.size w1 (w1.alloc (.cells #[.slice A1 ll c1] 30)) := (Below.refl _ _).alloc (Nat.le_refl _) _; have hra := (hba.block r (Nat.lt_of_lt_of_le HLT.out hb1.size)).trans ((hb1.block r HLT.out).trans HR.out); have q1 := (RC.of hra).c0; have HRA := Lib.hid hra; have BA := Lib.hid hba; have XA := Lib.hid (own_below (own_below HX.out hb1) hba); clear hrow1 hb1 hba hra)
    | (at_builtin; refine wpList_append_rows (by rfl) _ _ (by rfl) w1.heap.size (.slice (some ⟨w1.heap.size, 0, none⟩) 1 1) 1 [.slice A1 ll c1] (by rfl) (built_own _ (Nat.le_refl _)) A n c xs (by rfl) (own_srcs XA.out) HONE.out (by have := HM60.out; omega) BA.out.size ?_; rintro A' n' c' w2 hn' hrow2 hb2 hg2 ho2; have ROW2 := Lib.hid hrow2; have B2 := Lib.hid (BA.out.trans hb2); have HN' : Hid (n' = n + 1) := Lib.hid (by omega); have hr2 := (hb2.block r (Nat.lt_of_lt_of_le HLT.out B1.out.size)).trans HRA.out; have HR2 := Lib.hid hr2; have R2 := RC.of hr2; have z0 := R2.c0; have z1 := R2.c1; have z2 := R2.f0; have z3 := R2.f1; have k60 : ((n' : Int) > 60) = False := eq_false (by have := HN60.out; omega); have k61 : ((60 : Int) < (n' : Int)) = False := eq_false (by have := HN60.out; omega); have k62 : (60 < n') = False := eq_false (by have := HN60.out; omega); clear hrow2 hb2 hg2 ho2 hr2 R2 hn'))
  go_ret
  have hm : (l :: es).take n' = (l :: es).take 60 := by
    rw [List.take_of_length_le (by rw [List.length_cons]; have := HNN.out; have := HN'.out; omega), List.take_of_length_le (by rw [List.length_cons]; have := HNN.out; have := HN60.out; omega)]
  obtain ⟨g1, g2⟩ := FIN.out w1 w2 _ _ A' n' c' n' B1.out ROW1.out HN'.out ROW2.out B2.out (Nat.le_refl _) (by have := HN60.out; have := HN'.out; omega) (by have := HN'.out; omega) (tset2 w2 r _ _) (rset2 HR2.out)
  rw [hm] at g1
  exact ⟨rfl, g1, g2⟩
end
end Go.Proofs.Ytknekldnipdpeaa
