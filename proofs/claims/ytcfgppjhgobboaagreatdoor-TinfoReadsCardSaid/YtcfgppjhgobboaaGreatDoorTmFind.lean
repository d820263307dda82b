/-
  What find and present of package tinfo return, where the table of names knows the name.
  What present, Text and Flag of package tinfo return, where the entry has what is asked for.
-/
import Derived.Test.YtcfgppjhgobboaaGreatDoorTiVt
namespace Go.Proofs.YtcfgppjhgobboaaGreatDoor
section
open Go.RowKit Go.Shelf Go.Lib
attribute [local go_sem] Oper.semAt_some

def FoundPost (w : World) (k : Int) (c : CapD) (e : Ending) (w' : World) : Prop := e = .returned (.tuple #[.int .i64 k, capVal c, .bool true]) ∧ Below w.heap.size w w'
theorem getP_at {l : List CapD} {n : Nat} {c : CapD} (h : l[n]? = some c) : getP l n = c := by simp [getP, h]
theorem getP_none {l : List CapD} {n : Nat} (h : l.length ≤ n) : getP l n = cap0 := by simp [getP, List.getElem?_eq_none h]
theorem CapsV.form {w : World} {v : Value} {l : List CapD} (h : CapsV w v l) : ∃ A cap, v = .slice A l.length cap ∧ l.length * 32 ≤ 140737488355328 := by
  obtain ⟨A, cap, e, _, h2, _⟩ := h
  exact ⟨A, cap, e, h2⟩
theorem ExtsV.form {w : World} {v : Value} {l : List ExtD} (h : ExtsV w v l) : ∃ A cap, v = .slice A l.length cap ∧ l.length * 56 ≤ 140737488355328 := by
  obtain ⟨A, cap, e, _, h2, _⟩ := h
  exact ⟨A, cap, e, h2⟩
/-- a result of three cells, written into its box -/
abbrev storeCap (W : World) (b : Nat) (c : CapD) : World := ((W.setCell ⟨b, 0, none⟩ (.int .i64 c.st)).setCell ⟨b, 1, none⟩ (.int .i64 c.num)).setCell ⟨b, 2, none⟩ (str c.text)
theorem storeCap_touch (W : World) (b : Nat) (c : CapD) : Touch (fun k => k = b) W (storeCap W b c) :=
  ((Touch.setCell (T := fun k => k = b) W ⟨b, 0, none⟩ _ rfl).trans (Touch.setCell _ ⟨b, 1, none⟩ _ rfl)).trans (Touch.setCell _ ⟨b, 2, none⟩ _ rfl)
abbrev capZero : Obj := .cells #[.int .i64 0, .int .i64 0, .string ⟨#[]⟩] 37
theorem storeCap_box {W : World} {b : Nat} {c : CapD} (h : W.heap[b]? = some capZero) : (storeCap W b c).heap[b]? = some (.cells #[.int .i64 c.st, .int .i64 c.num, str c.text] 37 (0, 0)) := by
  have s0 := heap_setCell_same W b 0 _ _ (.int .i64 c.st) h
  have s1 := heap_setCell_same _ b 1 _ _ (.int .i64 c.num) s0
  exact heap_setCell_same _ b 2 _ _ (str c.text) s1
theorem storeCap_cells {W : World} {b : Nat} {c : CapD} (h : W.heap[b]? = some capZero) : (storeCap W b c).cell? ⟨b, 0, none⟩ = some (.int .i64 c.st) ∧ (storeCap W b c).cell? ⟨b, 1, none⟩ = some (.int .i64 c.num) ∧ (storeCap W b c).cell? ⟨b, 2, none⟩ = some (str c.text) :=
  ⟨cell_of_row _ b 0 _ _ _ (storeCap_box h), cell_of_row _ b 1 _ _ _ (storeCap_box h), cell_of_row _ b 2 _ _ _ (storeCap_box h)⟩
/-- what lies in find and its like: the entry's box, the result's box behind it -/
theorem two_boxes {w w2 : World} {X Y : Obj} (h : Below ((w.alloc X).alloc Y).heap.size ((w.alloc X).alloc Y) w2) : w2.heap[w.heap.size]? = some X ∧ w2.heap[w.heap.size + 1]? = some Y ∧ Below w.heap.size w w2 ∧ w.heap.size + 1 < w2.heap.size := by
  have e1 : ((w.alloc X).alloc Y).heap[w.heap.size]? = some X := by rw [Below.heap_alloc _ _ _ (by simp)]; exact World.alloc_heap_new w X
  have e2 : ((w.alloc X).alloc Y).heap[w.heap.size + 1]? = some Y := by have := World.alloc_heap_new (w.alloc X) Y; rwa [World.size_alloc] at this
  have hs := h.size
  simp at hs
  exact ⟨(h.block _ (by simp; omega)).trans e1, (h.block _ (by simp)).trans e2, (((Below.refl _ w).alloc (Nat.le_refl _) X).alloc (by simp) Y).trans (h.mono (by simp; omega)), by omega⟩
abbrev termCells (t : TermD) (v : Nat → Value) (ve : Value) : Obj := .cells #[str t.names, .bool t.wide, v 0, v 1, v 2, ve] 26

set_option maxRecDepth 100000 in
set_option maxHeartbeats 2000000 in
theorem find_known0 (w : World) (t : TermD) (v : Nat → Value) (ve : Value) (h : TermV w v ve t) (hT : Tabs w) (name : List UInt8) (n : Nat) (hp : placeP name = some ((0 : Int), (n : Int))) (hn : n ≤ 164) :
    Calls Tryz.prog 56 #[termVal t v ve, str name] w (FoundPost w 0 (getP (listOf t 0) n)) := by
  have CP := Lib.hid (fun W (hW : Tabs W) => place_any name W hW.run)
  have hres : placeRes name = .tuple #[.int .i64 0, .int .i64 n, .bool true] := by unfold placeRes; rw [hp]
  unfold PlacePost at CP
  rw [hres] at CP
  have HT := Lib.hid hT
  have hcv := h.caps 0 (by omega)
  have hbz := build_cap0
  obtain ⟨A, cap, e0, hsm⟩ := hcv.form
  have e0' : v 0 = .slice A (listOf t 0).length cap := e0
  have hcv' : CapsV w (.slice A (listOf t 0).length cap) (listOf t 0) := by rw [← e0']; exact hcv
  generalize listOf t 0 = l at *
  clear hcv hres hp hT h e0
  have HCV := Lib.hid hcv'
  have E0 := Lib.hid e0'
  clear hcv' e0'
  obtain ⟨m, hm⟩ : ∃ m, l.length = m := ⟨_, rfl⟩
  have HM := Lib.hid hm
  rw [hm] at HCV E0 hsm
  clear hm
  by_cases hle : m ≤ n
  · have hle' : (m : Int) ≤ (n : Int) := by omega
    go_enter Tryz.func56, Tryz.ntmps56
    go_wp2_with (first
      | (go_at_call 30; refine (CP.out _ (HT.out.below (((Below.refl _ w).alloc (Nat.le_refl _) _).alloc (by simp) _))).mono ?_; rintro e w2 ⟨rfl, hb2⟩; obtain ⟨x1, x2, x3, x4⟩ := two_boxes hb2; have HB2 := Lib.hid (And.intro x1 (And.intro x2 (And.intro x3 x4))); have c0 := cell_of_row w2 w.heap.size 2 _ _ _ x1; have d0 := cell_of_row w2 (w.heap.size + 1) 0 _ _ _ x2; have d1 := cell_of_row w2 (w.heap.size + 1) 1 _ _ _ x2; have d2 := cell_of_row w2 (w.heap.size + 1) 2 _ _ _ x2; have f0 := frozen_of_row w2 (w.heap.size + 1) 0 _ _ x2; have f1 := frozen_of_row w2 (w.heap.size + 1) 1 _ _ x2; have f2 := frozen_of_row w2 (w.heap.size + 1) 2 _ _ x2; simp only [List.getElem?_toArray, List.getElem?_cons_zero, List.getElem?_cons_succ] at c0 d0 d1 d2; rw [E0.out] at c0; clear hb2 x1 x2 x3 x4)
      | (go_at_call 100; refine (list_any _ _ _).mono ?_; rintro e w' ⟨rfl, rfl⟩))
    have hX := storeCap_touch w2 (w.heap.size + 1) cap0
    have hr := storeCap_cells (c := cap0) HB2.out.2.1
    simp only [storeCap, cap0] at hr
    obtain ⟨r0, r1, r2⟩ := hr
    refine bodyPost_ret (v := .tuple #[.int .i64 0, capVal cap0, .bool true]) (by simp [results, Tryz.results56, go_sem, r0, r1, r2, cap0]) rfl ?_
    exact ⟨by rw [getP_none (by rw [HM.out]; exact hle)], HB2.out.2.2.1.trans (hX.below HB2.out.2.2.1.size fun k hk => by omega)⟩
  · have hle' : ¬ (m : Int) ≤ (n : Int) := by omega
    have hi1 : 0 ≤ (n : Int) := by omega
    have hi2 : (n : Int) < (m : Int) := by omega
    obtain ⟨c, hc⟩ : ∃ c, l[n]? = some c := ⟨_, List.getElem?_eq_getElem (by rw [HM.out]; omega)⟩
    obtain ⟨kb, off, rfl, hkb, g0, g1, g2⟩ := HCV.out.cells hc
    have HC := Lib.hid hc
    have G := Lib.hid (And.intro hkb (And.intro g0 (And.intro g1 g2)))
    clear hc hkb g0 g1 g2
    go_enter Tryz.func56, Tryz.ntmps56
    go_wp2_with (first
      | (go_at_call 30; refine (CP.out _ (HT.out.below (((Below.refl _ w).alloc (Nat.le_refl _) _).alloc (by simp) _))).mono ?_; rintro e w2 ⟨rfl, hb2⟩; obtain ⟨x1, x2, x3, x4⟩ := two_boxes hb2; have HB2 := Lib.hid (And.intro x1 (And.intro x2 (And.intro x3 x4))); have c0 := cell_of_row w2 w.heap.size 2 _ _ _ x1; have d0 := cell_of_row w2 (w.heap.size + 1) 0 _ _ _ x2; have d1 := cell_of_row w2 (w.heap.size + 1) 1 _ _ _ x2; have d2 := cell_of_row w2 (w.heap.size + 1) 2 _ _ _ x2; have f0 := frozen_of_row w2 (w.heap.size + 1) 0 _ _ x2; have f1 := frozen_of_row w2 (w.heap.size + 1) 1 _ _ x2; have f2 := frozen_of_row w2 (w.heap.size + 1) 2 _ _ x2; simp only [List.getElem?_toArray, List.getElem?_cons_zero, List.getElem?_cons_succ] at c0 d0 d1 d2; rw [E0.out] at c0; have b0 := x3.cell (p := ⟨kb, off + n * 3, none⟩) G.out.1; have b1 := x3.cell (p := ⟨kb, off + n * 3 + 1, none⟩) G.out.1; have b2 := x3.cell (p := ⟨kb, off + n * 3 + 2, none⟩) G.out.1; rw [G.out.2.1] at b0; rw [G.out.2.2.1] at b1; rw [G.out.2.2.2] at b2; have hkn : ¬ kb = w.heap.size + 1 := (by have := G.out.1; omega); clear hb2 x1 x2 x3 x4)
      | (go_at_call 100; refine (list_any _ _ _).mono ?_; rintro e w' ⟨rfl, rfl⟩))
    go_region
    all_goals
      go_wp2
      have hX := storeCap_touch w2 (w.heap.size + 1) c
      obtain ⟨r0, r1, r2⟩ := storeCap_cells (c := c) HB2.out.2.1
      refine bodyPost_ret (v := .tuple #[.int .i64 0, capVal c, .bool true]) (by simp [results, Tryz.results56, go_sem, r0, r1, r2]) rfl ?_
      exact ⟨by rw [getP_at HC.out], HB2.out.2.2.1.trans ((hX.drew).below HB2.out.2.2.1.size fun k hk => by omega)⟩


set_option maxRecDepth 100000 in
set_option maxHeartbeats 2000000 in
theorem find_known1 (w : World) (t : TermD) (v : Nat → Value) (ve : Value) (h : TermV w v ve t) (hT : Tabs w) (name : List UInt8) (n : Nat) (hp : placeP name = some ((1 : Int), (n : Int))) (hn : n ≤ 164) :
    Calls Tryz.prog 56 #[termVal t v ve, str name] w (FoundPost w 1 (getP (listOf t 1) n)) := by
  have CP := Lib.hid (fun W (hW : Tabs W) => place_any name W hW.run)
  have hres : placeRes name = .tuple #[.int .i64 1, .int .i64 n, .bool true] := by unfold placeRes; rw [hp]
  unfold PlacePost at CP
  rw [hres] at CP
  have HT := Lib.hid hT
  have hcv := h.caps 1 (by omega)
  have hbz := build_cap0
  obtain ⟨A, cap, e0, hsm⟩ := hcv.form
  have e0' : v 1 = .slice A (listOf t 1).length cap := e0
  have hcv' : CapsV w (.slice A (listOf t 1).length cap) (listOf t 1) := by rw [← e0']; exact hcv
  generalize listOf t 1 = l at *
  clear hcv hres hp hT h e0
  have HCV := Lib.hid hcv'
  have E0 := Lib.hid e0'
  clear hcv' e0'
  obtain ⟨m, hm⟩ : ∃ m, l.length = m := ⟨_, rfl⟩
  have HM := Lib.hid hm
  rw [hm] at HCV E0 hsm
  clear hm
  by_cases hle : m ≤ n
  · have hle' : (m : Int) ≤ (n : Int) := by omega
    go_enter Tryz.func56, Tryz.ntmps56
    go_wp2_with (first
      | (go_at_call 30; refine (CP.out _ (HT.out.below (((Below.refl _ w).alloc (Nat.le_refl _) _).alloc (by simp) _))).mono ?_; rintro e w2 ⟨rfl, hb2⟩; obtain ⟨x1, x2, x3, x4⟩ := two_boxes hb2; have HB2 := Lib.hid (And.intro x1 (And.intro x2 (And.intro x3 x4))); have c0 := cell_of_row w2 w.heap.size 3 _ _ _ x1; have d0 := cell_of_row w2 (w.heap.size + 1) 0 _ _ _ x2; have d1 := cell_of_row w2 (w.heap.size + 1) 1 _ _ _ x2; have d2 := cell_of_row w2 (w.heap.size + 1) 2 _ _ _ x2; have f0 := frozen_of_row w2 (w.heap.size + 1) 0 _ _ x2; have f1 := frozen_of_row w2 (w.heap.size + 1) 1 _ _ x2; have f2 := frozen_of_row w2 (w.heap.size + 1) 2 _ _ x2; simp only [List.getElem?_toArray, List.getElem?_cons_zero, List.getElem?_cons_succ] at c0 d0 d1 d2; rw [E0.out] at c0; clear hb2 x1 x2 x3 x4)
      | (go_at_call 100; refine (list_any _ _ _).mono ?_; rintro e w' ⟨rfl, rfl⟩))
    have hX := storeCap_touch w2 (w.heap.size + 1) cap0
    have hr := storeCap_cells (c := cap0) HB2.out.2.1
    simp only [storeCap, cap0] at hr
    obtain ⟨r0, r1, r2⟩ := hr
    refine bodyPost_ret (v := .tuple #[.int .i64 1, capVal cap0, .bool true]) (by simp [results, Tryz.results56, go_sem, r0, r1, r2, cap0]) rfl ?_
    exact ⟨by rw [getP_none (by rw [HM.out]; exact hle)], HB2.out.2.2.1.trans (hX.below HB2.out.2.2.1.size fun k hk => by omega)⟩
  · have hle' : ¬ (m : Int) ≤ (n : Int) := by omega
    have hi1 : 0 ≤ (n : Int) := by omega
    have hi2 : (n : Int) < (m : Int) := by omega
    obtain ⟨c, hc⟩ : ∃ c, l[n]? = some c := ⟨_, List.getElem?_eq_getElem (by rw [HM.out]; omega)⟩
    obtain ⟨kb, off, rfl, hkb, g0, g1, g2⟩ := HCV.out.cells hc
    have HC := Lib.hid hc
    have G := Lib.hid (And.intro hkb (And.intro g0 (And.intro g1 g2)))
    clear hc hkb g0 g1 g2
    go_enter Tryz.func56, Tryz.ntmps56
    go_wp2_with (first
      | (go_at_call 30; refine (CP.out _ (HT.out.below (((Below.refl _ w).alloc (Nat.le_refl _) _).alloc (by simp) _))).mono ?_; rintro e w2 ⟨rfl, hb2⟩; obtain ⟨x1, x2, x3, x4⟩ := two_boxes hb2; have HB2 := Lib.hid (And.intro x1 (And.intro x2 (And.intro x3 x4))); have c0 := cell_of_row w2 w.heap.size 3 _ _ _ x1; have d0 := cell_of_row w2 (w.heap.size + 1) 0 _ _ _ x2; have d1 := cell_of_row w2 (w.heap.size + 1) 1 _ _ _ x2; have d2 := cell_of_row w2 (w.heap.size + 1) 2 _ _ _ x2; have f0 := frozen_of_row w2 (w.heap.size + 1) 0 _ _ x2; have f1 := frozen_of_row w2 (w.heap.size + 1) 1 _ _ x2; have f2 := frozen_of_row w2 (w.heap.size + 1) 2 _ _ x2; simp only [List.getElem?_toArray, List.getElem?_cons_zero, List.getElem?_cons_succ] at c0 d0 d1 d2; rw [E0.out] at c0; have b0 := x3.cell (p := ⟨kb, off + n * 3, none⟩) G.out.1; have b1 := x3.cell (p := ⟨kb, off + n * 3 + 1, none⟩) G.out.1; have b2 := x3.cell (p := ⟨kb, off + n * 3 + 2, none⟩) G.out.1; rw [G.out.2.1] at b0; rw [G.out.2.2.1] at b1; rw [G.out.2.2.2] at b2; have hkn : ¬ kb = w.heap.size + 1 := (by have := G.out.1; omega); clear hb2 x1 x2 x3 x4)
      | (go_at_call 100; refine (list_any _ _ _).mono ?_; rintro e w' ⟨rfl, rfl⟩))
    go_region
    all_goals
      go_wp2
      have hX := storeCap_touch w2 (w.heap.size + 1) c
      obtain ⟨r0, r1, r2⟩ := storeCap_cells (c := c) HB2.out.2.1
      refine bodyPost_ret (v := .tuple #[.int .i64 1, capVal c, .bool true]) (by simp [results, Tryz.results56, go_sem, r0, r1, r2]) rfl ?_
      exact ⟨by rw [getP_at HC.out], HB2.out.2.2.1.trans ((hX.drew).below HB2.out.2.2.1.size fun k hk => by omega)⟩


set_option maxRecDepth 100000 in
set_option maxHeartbeats 2000000 in
theorem find_known2 (w : World) (t : TermD) (v : Nat → Value) (ve : Value) (h : TermV w v ve t) (hT : Tabs w) (name : List UInt8) (n : Nat) (hp : placeP name = some ((2 : Int), (n : Int))) (hn : n ≤ 164) :
    Calls Tryz.prog 56 #[termVal t v ve, str name] w (FoundPost w 2 (getP (listOf t 2) n)) := by
  have CP := Lib.hid (fun W (hW : Tabs W) => place_any name W hW.run)
  have hres : placeRes name = .tuple #[.int .i64 2, .int .i64 n, .bool true] := by unfold placeRes; rw [hp]
  unfold PlacePost at CP
  rw [hres] at CP
  have HT := Lib.hid hT
  have hcv := h.caps 2 (by omega)
  have hbz := build_cap0
  obtain ⟨A, cap, e0, hsm⟩ := hcv.form
  have e0' : v 2 = .slice A (listOf t 2).length cap := e0
  have hcv' : CapsV w (.slice A (listOf t 2).length cap) (listOf t 2) := by rw [← e0']; exact hcv
  generalize listOf t 2 = l at *
  clear hcv hres hp hT h e0
  have HCV := Lib.hid hcv'
  have E0 := Lib.hid e0'
  clear hcv' e0'
  obtain ⟨m, hm⟩ : ∃ m, l.length = m := ⟨_, rfl⟩
  have HM := Lib.hid hm
  rw [hm] at HCV E0 hsm
  clear hm
  by_cases hle : m ≤ n
  · have hle' : (m : Int) ≤ (n : Int) := by omega
    go_enter Tryz.func56, Tryz.ntmps56
    go_wp2_with (first
      | (go_at_call 30; refine (CP.out _ (HT.out.below (((Below.refl _ w).alloc (Nat.le_refl _) _).alloc (by simp) _))).mono ?_; rintro e w2 ⟨rfl, hb2⟩; obtain ⟨x1, x2, x3, x4⟩ := two_boxes hb2; have HB2 := Lib.hid (And.intro x1 (And.intro x2 (And.intro x3 x4))); have c0 := cell_of_row w2 w.heap.size 4 _ _ _ x1; have d0 := cell_of_row w2 (w.heap.size + 1) 0 _ _ _ x2; have d1 := cell_of_row w2 (w.heap.size + 1) 1 _ _ _ x2; have d2 := cell_of_row w2 (w.heap.size + 1) 2 _ _ _ x2; have f0 := frozen_of_row w2 (w.heap.size + 1) 0 _ _ x2; have f1 := frozen_of_row w2 (w.heap.size + 1) 1 _ _ x2; have f2 := frozen_of_row w2 (w.heap.size + 1) 2 _ _ x2; simp only [List.getElem?_toArray, List.getElem?_cons_zero, List.getElem?_cons_succ] at c0 d0 d1 d2; rw [E0.out] at c0; clear hb2 x1 x2 x3 x4)
      | (go_at_call 100; refine (list_any _ _ _).mono ?_; rintro e w' ⟨rfl, rfl⟩))
    have hX := storeCap_touch w2 (w.heap.size + 1) cap0
    have hr := storeCap_cells (c := cap0) HB2.out.2.1
    simp only [storeCap, cap0] at hr
    obtain ⟨r0, r1, r2⟩ := hr
    refine bodyPost_ret (v := .tuple #[.int .i64 2, capVal cap0, .bool true]) (by simp [results, Tryz.results56, go_sem, r0, r1, r2, cap0]) rfl ?_
    exact ⟨by rw [getP_none (by rw [HM.out]; exact hle)], HB2.out.2.2.1.trans (hX.below HB2.out.2.2.1.size fun k hk => by omega)⟩
  · have hle' : ¬ (m : Int) ≤ (n : Int) := by omega
    have hi1 : 0 ≤ (n : Int) := by omega
    have hi2 : (n : Int) < (m : Int) := by omega
    obtain ⟨c, hc⟩ : ∃ c, l[n]? = some c := ⟨_, List.getElem?_eq_getElem (by rw [HM.out]; omega)⟩
    obtain ⟨kb, off, rfl, hkb, g0, g1, g2⟩ := HCV.out.cells hc
    have HC := Lib.hid hc
    have G := Lib.hid (And.intro hkb (And.intro g0 (And.intro g1 g2)))
    clear hc hkb g0 g1 g2
    go_enter Tryz.func56, Tryz.ntmps56
    go_wp2_with (first
      | (go_at_call 30; refine (CP.out _ (HT.out.below (((Below.refl _ w).alloc (Nat.le_refl _) _).alloc (by simp) _))).mono ?_; rintro e w2 ⟨rfl, hb2⟩; obtain ⟨x1, x2, x3, x4⟩ := two_boxes hb2; have HB2 := Lib.hid (And.intro x1 (And.intro x2 (And.intro x3 x4))); have c0 := cell_of_row w2 w.heap.size 4 _ _ _ x1; have d0 := cell_of_row w2 (w.heap.size + 1) 0 _ _ _ x2; have d1 := cell_of_row w2 (w.heap.size + 1) 1 _ _ _ x2; have d2 := cell_of_row w2 (w.heap.size + 1) 2 _ _ _ x2; have f0 := frozen_of_row w2 (w.heap.size + 1) 0 _ _ x2; have f1 := frozen_of_row w2 (w.heap.size + 1) 1 _ _ x2; have f2 := frozen_of_row w2 (w.heap.size + 1) 2 _ _ x2; simp only [List.getElem?_toArray, List.getElem?_cons_zero, List.getElem?_cons_succ] at c0 d0 d1 d2; rw [E0.out] at c0; have b0 := x3.cell (p := ⟨kb, off + n * 3, none⟩) G.out.1; have b1 := x3.cell (p := ⟨kb, off + n * 3 + 1, none⟩) G.out.1; have b2 := x3.cell (p := ⟨kb, off + n * 3 + 2, none⟩) G.out.1; rw [G.out.2.1] at b0; rw [G.out.2.2.1] at b1; rw [G.out.2.2.2] at b2; have hkn : ¬ kb = w.heap.size + 1 := (by have := G.out.1; omega); clear hb2 x1 x2 x3 x4)
      | (go_at_call 100; refine (list_any _ _ _).mono ?_; rintro e w' ⟨rfl, rfl⟩))
    go_region
    all_goals
      go_wp2
      have hX := storeCap_touch w2 (w.heap.size + 1) c
      obtain ⟨r0, r1, r2⟩ := storeCap_cells (c := c) HB2.out.2.1
      refine bodyPost_ret (v := .tuple #[.int .i64 2, capVal c, .bool true]) (by simp [results, Tryz.results56, go_sem, r0, r1, r2]) rfl ?_
      exact ⟨by rw [getP_at HC.out], HB2.out.2.2.1.trans ((hX.drew).below HB2.out.2.2.1.size fun k hk => by omega)⟩


/-- find, where the table knows the name -/
theorem find_known (w : World) (t : TermD) (v : Nat → Value) (ve : Value) (h : TermV w v ve t) (hT : Tabs w) (name : List UInt8) (k n : Int) (hp : placeP name = some (k, n)) :
    Calls Tryz.prog 56 #[termVal t v ve, str name] w (FoundPost w k (getP (listOf t k) n.toNat)) := by
  obtain ⟨hk, hn0, hn⟩ := placeP_small hp
  obtain ⟨n', rfl⟩ : ∃ n' : Nat, n = n' := ⟨n.toNat, by omega⟩
  rcases hk with rfl | rfl | rfl
  · exact find_known0 w t v ve h hT name n' hp (by omega)
  · exact find_known1 w t v ve h hT name n' hp (by omega)
  · exact find_known2 w t v ve h hT name n' hp (by omega)
end

section
open Go.RowKit Go.Shelf Go.Lib
attribute [local go_sem] Oper.semAt_some

theorem capZero_facts {W : World} {b : Nat} (h : W.heap[b]? = some capZero) : W.cell? ⟨b, 0, none⟩ = some (.int .i64 0) ∧ W.cell? ⟨b, 1, none⟩ = some (.int .i64 0) ∧ W.cell? ⟨b, 2, none⟩ = some (.string ⟨#[]⟩) ∧ W.frozen? ⟨b, 0, none⟩ = false ∧ W.frozen? ⟨b, 1, none⟩ = false ∧ W.frozen? ⟨b, 2, none⟩ = false :=
  ⟨cell_of_row W b 0 _ _ _ h, cell_of_row W b 1 _ _ _ h, cell_of_row W b 2 _ _ _ h, frozen_of_row W b 0 _ _ h, frozen_of_row W b 1 _ _ h, frozen_of_row W b 2 _ _ h⟩

set_option maxRecDepth 100000 in
set_option maxHeartbeats 2000000 in
theorem present_yes (w : World) (t : TermD) (v : Nat → Value) (ve : Value) (h : TermV w v ve t) (hT : Tabs w) (name : List UInt8) (k n : Int) (hp : placeP name = some (k, n)) (hc : (getP (listOf t k) n.toNat).st = 1) :
    Calls Tryz.prog 84 #[termVal t v ve, str name, .int .i64 k] w fun e w' => e = .returned (.tuple #[capVal (getP (listOf t k) n.toNat), .bool true]) ∧ Below w.heap.size w w' := by
  have CF := Lib.hid (fun W (hb : Below w.heap.size w W) => find_known W t v ve (h.below hb) (hT.below hb) name k n hp)
  clear h hT hp
  generalize getP (listOf t k) n.toNat = c at *
  obtain ⟨st, num, text⟩ := c
  simp only at hc
  subst hc
  unfold FoundPost at CF
  go_enter Tryz.func84, Tryz.ntmps84
  go_wp2_with (go_at_call 56; refine (CF.out _ (((Below.refl _ w).alloc (Nat.le_refl _) _).alloc (by simp) _)).mono ?_; rintro e w2 ⟨rfl, hb2⟩; obtain ⟨x1, x2, x3, x4⟩ := two_boxes hb2; have HB2 := Lib.hid (And.intro x1 (And.intro x2 (And.intro x3 x4))); have D := (fun o => capZero_facts ((Below.heap_alloc w2 o (w.heap.size + 1) x4).trans x2)); have d0 := (fun o => (D o).1); have d1 := (fun o => (D o).2.1); have d2 := (fun o => (D o).2.2.1); have f0 := (fun o => (D o).2.2.2.1); have f1 := (fun o => (D o).2.2.2.2.1); have f2 := (fun o => (D o).2.2.2.2.2); clear D; clear hb2 x1 x2 x3 x4)
  have hB3 := HB2.out.2.2.1.trans (((Below.refl _ w2).alloc (Nat.le_refl _) (.cells #[.int .i64 1, .int .i64 num, str text] 37)).mono HB2.out.2.2.1.size)
  have hbox := (Below.heap_alloc w2 (.cells #[.int .i64 1, .int .i64 num, str text] 37) (w.heap.size + 1) HB2.out.2.2.2).trans HB2.out.2.1
  generalize w2.alloc (.cells #[.int .i64 1, .int .i64 num, str text] 37) = w3 at *
  have hX := storeCap_touch w3 (w.heap.size + 1) ⟨1, num, text⟩
  obtain ⟨r0, r1, r2⟩ := storeCap_cells (c := ⟨1, num, text⟩) hbox
  refine bodyPost_ret (v := .tuple #[.agg #[.int .i64 1, .int .i64 num, str text], .bool true]) (by simp [results, Tryz.results84, go_sem, r0, r1, r2]) rfl ?_
  exact ⟨rfl, hB3.trans (hX.below hB3.size fun k hk => by omega)⟩

set_option maxRecDepth 100000 in
theorem text_yes (w : World) (t : TermD) (v : Nat → Value) (ve : Value) (h : TermV w v ve t) (hT : Tabs w) (name : List UInt8) (n : Int) (hp : placeP name = some (2, n)) (hc : (getP (listOf t 2) n.toNat).st = 1) :
    Calls Tryz.prog 29 #[termVal t v ve, str name] w fun e w' => e = .returned (.tuple #[str (getP (listOf t 2) n.toNat).text, .bool true]) ∧ Below w.heap.size w w' := by
  have CF := Lib.hid (fun W (hb : Below w.heap.size w W) => present_yes W t v ve (h.below hb) (hT.below hb) name 2 n hp hc)
  clear h hT hp hc
  generalize getP (listOf t 2) n.toNat = c at *
  go_enter Tryz.func29, Tryz.ntmps29
  go_wp2_with (go_at_call 84; refine (CF.out _ ((Below.refl _ w).alloc (Nat.le_refl _) _)).mono ?_; rintro e w2 ⟨rfl, hb2⟩; have HB2 := Lib.hid (((Below.refl _ w).alloc (Nat.le_refl _) _).trans (hb2.mono (by simp))); clear hb2)
  go_ret2
  exact ⟨rfl, HB2.out.alloc HB2.out.size _⟩

set_option maxRecDepth 100000 in
theorem flag_yes (w : World) (t : TermD) (v : Nat → Value) (ve : Value) (h : TermV w v ve t) (hT : Tabs w) (name : List UInt8) (n : Int) (hp : placeP name = some (0, n)) (hc : (getP (listOf t 0) n.toNat).st = 1) :
    Calls Tryz.prog 31 #[termVal t v ve, str name] w fun e w' => e = .returned (.bool true) ∧ Below w.heap.size w w' := by
  have CF := Lib.hid (fun W (hb : Below w.heap.size w W) => present_yes W t v ve (h.below hb) (hT.below hb) name 0 n hp hc)
  clear h hT hp hc
  generalize getP (listOf t 0) n.toNat = c at *
  go_enter Tryz.func31, Tryz.ntmps31
  go_wp2_with (go_at_call 84; refine (CF.out _ ((Below.refl _ w).alloc (Nat.le_refl _) _)).mono ?_; rintro e w2 ⟨rfl, hb2⟩; have HB2 := Lib.hid (((Below.refl _ w).alloc (Nat.le_refl _) _).trans (hb2.mono (by simp))); clear hb2)
  go_ret
  exact ⟨rfl, HB2.out.alloc HB2.out.size _⟩
end
end Go.Proofs.YtcfgppjhgobboaaGreatDoor
