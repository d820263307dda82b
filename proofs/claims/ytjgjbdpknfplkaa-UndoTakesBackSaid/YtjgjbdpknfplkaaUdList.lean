/-
  What the methods of a list of edits answer that add and remove nothing: count, edits, usable, Len, Edits, Open, closeAll, Begin, End, Clear, Clone, New.
-/
import Derived.Test.YtjgjbdpknfplkaaUdRep
namespace Go.Proofs.Ytjgjbdpknfplkaa
open Go.RowKit Go.Shelf Go.Lib
attribute [local go_sem] Oper.semAt_some

/-- the first entry's two numbers -/
theorem GAt.numbers {K : Nat → Prop} {w : World} {g : Nat} {gs : List (List Ed)} {p : Option Addr} (h : GAt K w g gs p) : (gs = [] ∧ p = none) ∨ ∃ b, p = some ⟨b, 0, none⟩ ∧ w.cell? ⟨b, 4, none⟩ = some (.int .i64 ((numbered gs).length : Int)) ∧ w.cell? ⟨b, 5, none⟩ = some (.int .i64 (gs.length : Int)) := by
  cases hn : numbered gs with
  | nil =>
    refine .inl ⟨(full_nil h.full).1 hn, ?_⟩
    have := h.chain
    rw [hn] at this
    exact this
  | cons x l =>
    obtain ⟨e, n⟩ := x
    obtain ⟨b, r, dv, iv, rfl, _, _, hh, _⟩ := h.head hn
    obtain ⟨h1, h2⟩ := numbered_head hn h.full
    refine .inr ⟨b, rfl, ?_, ?_⟩
    · rw [cell_of_row w b 4 _ _ _ hh]
      simp
    · rw [cell_of_row w b 5 _ _ _ hh, ← h1]
      rfl
set_option maxRecDepth 1000000 in
theorem count_any (K : Nat → Prop) (w : World) (g : Nat) (gs : List (List Ed)) (p : Option Addr) (h : GAt K w g gs p) : Calls Try.prog 56 #[.pointer (some ⟨g, 0, none⟩)] w fun e w' => e = .returned (.int .i64 (gs.length : Int)) ∧ w = w' := by
  have c0 := h.cell
  rcases h.numbers with ⟨rfl, rfl⟩ | ⟨b, rfl, h1, h2⟩
  · clear h
    go_enter Try.func56, Try.ntmps56
    go_wp2
    go_ret
    exact ⟨rfl, rfl⟩
  · clear h h1
    generalize gs.length = n at *
    go_enter Try.func56, Try.ntmps56
    go_wp2
    go_ret
    exact ⟨rfl, rfl⟩
set_option maxRecDepth 1000000 in
theorem edits_any (K : Nat → Prop) (w : World) (g : Nat) (gs : List (List Ed)) (p : Option Addr) (h : GAt K w g gs p) : Calls Try.prog 52 #[.pointer (some ⟨g, 0, none⟩)] w fun e w' => e = .returned (.int .i64 ((numbered gs).length : Int)) ∧ w = w' := by
  have c0 := h.cell
  rcases h.numbers with ⟨rfl, rfl⟩ | ⟨b, rfl, h1, h2⟩
  · clear h
    go_enter Try.func52, Try.ntmps52
    go_wp2
    go_ret
    exact ⟨rfl, rfl⟩
  · clear h h2
    generalize (numbered gs).length = n at *
    go_enter Try.func52, Try.ntmps52
    go_wp2
    go_ret
    exact ⟨rfl, rfl⟩
section
variable {K : Nat → Prop}
theorem LAt.parts {w : World} {g : Nat} {S : LS} (h : LAt K w g S) : ∃ p, LCells w g S p ∧ GAt K w g S.gs p ∧ w.heap[g]? = some (.cells (lrow S p) 73 (0, 0)) := by
  obtain ⟨p, h1, h2⟩ := h.ex
  exact ⟨p, lcells h1, h2, h1⟩
set_option maxRecDepth 1000000 in
theorem usable_any (w : World) (g : Nat) (S : LS) (h : LAt K w g S) : Calls Try.prog 51 #[.pointer (some ⟨g, 0, none⟩)] w fun e w' => e = .returned (.bool true) ∧ w = w' := by
  obtain ⟨p, hc, _⟩ := h.parts
  have c1 := hc.c1
  clear h hc
  go_enter Try.func51, Try.ntmps51
  go_wp2
  go_ret
  exact ⟨rfl, rfl⟩
set_option maxRecDepth 1000000 in
theorem len_any (w : World) (g : Nat) (S : LS) (h : LAt K w g S) : Calls Try.prog 33 #[.pointer (some ⟨g, 0, none⟩)] w fun e w' => e = .returned (.int .i64 (S.gs.length : Int)) ∧ w = w' := by
  obtain ⟨p, hc, hg, _⟩ := h.parts
  have CU := Lib.hid (usable_any w g S h)
  have CC := Lib.hid (count_any K w g S.gs p hg)
  clear h hc hg
  generalize S.gs.length = n at *
  go_enter Try.func33, Try.ntmps33
  go_wp2_with (first
    | (go_at_call 51; refine (CU.out).mono ?_; rintro e w1 ⟨rfl, rfl⟩)
    | (go_at_call 56; refine (CC.out).mono ?_; rintro e w1 ⟨rfl, rfl⟩))
  go_ret
  exact ⟨rfl, rfl⟩
set_option maxRecDepth 1000000 in
theorem editsL_any (w : World) (g : Nat) (S : LS) (h : LAt K w g S) : Calls Try.prog 35 #[.pointer (some ⟨g, 0, none⟩)] w fun e w' => e = .returned (.int .i64 (many S.gs : Int)) ∧ w = w' := by
  obtain ⟨p, hc, hg, _⟩ := h.parts
  have CU := Lib.hid (usable_any w g S h)
  have CC := edits_any K w g S.gs p hg
  rw [numbered_length] at CC
  have CC := Lib.hid CC
  clear h hc hg
  generalize many S.gs = n at *
  go_enter Try.func35, Try.ntmps35
  go_wp2_with (first
    | (go_at_call 51; refine (CU.out).mono ?_; rintro e w1 ⟨rfl, rfl⟩)
    | (go_at_call 52; refine (CC.out).mono ?_; rintro e w1 ⟨rfl, rfl⟩))
  go_ret
  exact ⟨rfl, rfl⟩
set_option maxRecDepth 1000000 in
theorem open_any (w : World) (g : Nat) (S : LS) (h : LAt K w g S) : Calls Try.prog 37 #[.pointer (some ⟨g, 0, none⟩)] w fun e w' => e = .returned (.int .i64 (S.opn : Int)) ∧ w = w' := by
  obtain ⟨p, hc, hg, _⟩ := h.parts
  have CU := Lib.hid (usable_any w g S h)
  have c2 := hc.c2
  clear h hc hg
  generalize S.opn = n at *
  go_enter Try.func37, Try.ntmps37
  go_wp2_with (first
    | (go_at_call 51; refine (CU.out).mono ?_; rintro e w1 ⟨rfl, rfl⟩))
  go_ret
  exact ⟨rfl, rfl⟩
theorem touch_two (g : Nat) (w : World) (i j : Nat) (x y : Value) : Touch (Only g) w ((w.setCell ⟨g, i, none⟩ x).setCell ⟨g, j, none⟩ y) := (only_set w g i x).trans (only_set _ g j y)
theorem touch_four (g : Nat) (w : World) (a b c d : Value) : Touch (Only g) w ((((w.setCell ⟨g, 0, none⟩ a).setCell ⟨g, 1, none⟩ b).setCell ⟨g, 2, none⟩ c).setCell ⟨g, 3, none⟩ d) := (touch_two g w 0 1 a b).trans (touch_two g _ 2 3 c d)
def LPost (K : Nat → Prop) (w : World) (g : Nat) (v : Value) (S : LS) (e : Ending) (w' : World) : Prop := e = .returned v ∧ LAt K w' g S ∧ Touch (Only g) w w'
set_option maxRecDepth 1000000 in
theorem closeAll_any (w : World) (g : Nat) (S : LS) (h : LAt K w g S) : Calls Try.prog 54 #[.pointer (some ⟨g, 0, none⟩)] w (LPost K w g (.tuple #[]) ⟨S.gs, 0, false⟩) := by
  obtain ⟨p, hc, hg, hr⟩ := h.parts
  have HG := Lib.hid hg
  have HR := Lib.hid hr
  have f := hc.f
  have c2 := hc.c2
  have c3 := hc.c3
  clear h hc hg hr
  go_enter Try.func54, Try.ntmps54
  go_wp2
  go_end0
  exact ⟨rfl, LAt.put HG.out (touch_two g w 2 3 _ _) (heap_setCell_same _ g 3 _ _ _ (heap_setCell_same w g 2 _ _ _ HR.out)) rfl ⟨(fun h => by cases h), by simp⟩, touch_two g w 2 3 _ _⟩
set_option maxRecDepth 1000000 in
theorem begin_any (w : World) (g : Nat) (S : LS) (h : LAt K w g S) (ho : S.opn < 4611686018427387904) : Calls Try.prog 21 #[.pointer (some ⟨g, 0, none⟩)] w (LPost K w g (.int .i64 0) ⟨S.gs, S.opn + 1, S.joins⟩) := by
  obtain ⟨p, hc, hg, hr⟩ := h.parts
  have CU := Lib.hid (usable_any w g S h)
  have HG := Lib.hid hg
  have HR := Lib.hid hr
  have HO := Lib.hid h.ok
  have HL := Lib.hid ho
  have f := hc.f
  have c2 := hc.c2
  have hw : wrap64 ((S.opn : Int) + 1) = ((S.opn + 1 : Nat) : Int) := by unfold wrap64; omega
  clear h hc hg hr ho
  obtain ⟨gs, n, j⟩ := S
  dsimp only at *
  generalize hm : n + 1 = m at *
  have HM := Lib.hid hm
  clear hm
  go_enter Try.func21, Try.ntmps21
  go_wp2_with (first
    | (go_at_call 51; refine (CU.out).mono ?_; rintro e w1 ⟨rfl, rfl⟩))
  go_ret
  exact ⟨rfl, LAt.put HG.out (only_set w g 2 _) (heap_setCell_same w g 2 _ _ _ HR.out) rfl ⟨HO.out.joins, by have := HL.out; have := HM.out; show m ≤ _; omega⟩, only_set w g 2 _⟩
def endS (S : LS) : LS := if S.opn = 0 then S else if S.opn = 1 then ⟨S.gs, 0, false⟩ else ⟨S.gs, S.opn - 1, S.joins⟩
set_option maxRecDepth 1000000 in
theorem end_any (w : World) (g : Nat) (S : LS) (h : LAt K w g S) : Calls Try.prog 23 #[.pointer (some ⟨g, 0, none⟩)] w (LPost K w g (.int .i64 (if S.opn = 0 then 1 else 0)) (endS S)) := by
  obtain ⟨p, hc, hg, hr⟩ := h.parts
  have CU := Lib.hid (usable_any w g S h)
  have CL := Lib.hid (closeAll_any w g S h)
  have H := Lib.hid h
  have HG := Lib.hid hg
  have HR := Lib.hid hr
  have HO := Lib.hid h.ok
  have f := hc.f
  have c2 := hc.c2
  clear h hc hg hr
  obtain ⟨gs, n, j⟩ := S
  dsimp only at *
  by_cases h0 : n = 0
  · subst h0
    go_enter Try.func23, Try.ntmps23
    go_wp2_with (first
      | (go_at_call 51; refine (CU.out).mono ?_; rintro e w1 ⟨rfl, rfl⟩))
    go_ret
    exact ⟨rfl, H.out, Touch.refl _ _⟩
  · by_cases h1 : n = 1
    · subst h1
      go_enter Try.func23, Try.ntmps23
      go_wp2_with (first
        | (go_at_call 51; refine (CU.out).mono ?_; rintro e w1 ⟨rfl, rfl⟩)
        | (go_at_call 54; refine (CL.out).mono ?_; rintro e w1 ⟨rfl, hl, ht⟩))
      go_ret
      exact ⟨rfl, hl, ht⟩
    · have e0 : (if n = 0 then (1 : Int) else 0) = 0 := if_neg h0
      have e1 : endS ⟨gs, n, j⟩ = ⟨gs, n - 1, j⟩ := by unfold endS; rw [if_neg h0, if_neg h1]
      rw [e0, e1]
      have i0 : ((n : Int) == 0) = false := by simp; omega
      have i1 : ((n : Int) == 1) = false := by simp; omega
      have i2 : ((n : Int) = 0) = False := by simp; omega
      have i3 : ((n : Int) = 1) = False := by simp; omega
      have i4 : (n = 0) = False := by simp; omega
      have i5 : (n = 1) = False := by simp; omega
      have hw : wrap64 ((n : Int) - 1) = ((n - 1 : Nat) : Int) := by have := HO.out.open'; dsimp only at this; unfold wrap64; omega
      have HM : Hid (n - 1 ≤ n) := Lib.hid (by omega)
      clear h0 h1 e0 e1
      generalize n - 1 = m at *
      go_enter Try.func23, Try.ntmps23
      go_wp2_with (first
        | (go_at_call 51; refine (CU.out).mono ?_; rintro e w1 ⟨rfl, rfl⟩))
      go_ret
      exact ⟨rfl, LAt.put HG.out (only_set w g 2 _) (heap_setCell_same w g 2 _ _ _ HR.out) rfl ⟨HO.out.joins, by have := HO.out.open'; have := HM.out; dsimp only at *; omega⟩, only_set w g 2 _⟩
theorem full_none : Full [] := fun g hg => by simp at hg
theorem GAt.none {K : Nat → Prop} {w : World} {g : Nat} (hc : w.cell? ⟨g, 0, Option.none⟩ = some (.pointer Option.none)) (hl : g < w.heap.size) (ho : ¬ K g) (hi : ∀ k, K k → k < w.heap.size) : GAt K w g [] Option.none :=
  ⟨hc, rfl, full_none, by simp [numbered], hl, ho, hi⟩
abbrev ls0 : LS := ⟨[], 0, false⟩
theorem ls0_ok : LOk ls0 := ⟨(fun h => by cases h), by simp⟩
theorem lat_new {K : Nat → Prop} {w : World} {g : Nat} (h : w.heap[g]? = some (.cells #[.pointer none, .bool true, .int .i64 0, .bool false] 73 (0, 0))) (ho : ¬ K g) (hi : ∀ k, K k → k < w.heap.size) : LAt K w g ls0 :=
  ⟨⟨none, h, GAt.none (cell_of_row w g 0 _ _ _ h) (Array.getElem?_eq_some_iff.1 h).1 ho hi⟩, ls0_ok⟩
set_option maxRecDepth 1000000 in
theorem new_any (w : World) : Calls Try.prog 18 #[] w fun e w' => e = .returned (.pointer (some ⟨w.heap.size, 0, none⟩)) ∧ LAt (fun _ => False) w' w.heap.size ls0 ∧ Below w.heap.size w w' := by
  go_enter Try.func18, Try.ntmps18
  go_wp2
  go_ret
  exact ⟨rfl, lat_new (alloc_new _ _) (fun h => h) (fun _ h => h.elim), (Below.refl _ _).alloc (Nat.le_refl _) _⟩
set_option maxRecDepth 1000000 in
theorem clear_any (w : World) (g : Nat) (S : LS) (h : LAt K w g S) : Calls Try.prog 30 #[.pointer (some ⟨g, 0, none⟩)] w (LPost K w g (.tuple #[]) ls0) := by
  obtain ⟨p, hc, hg, hr⟩ := h.parts
  have CU := Lib.hid (usable_any w g S h)
  have HG := Lib.hid hg
  have HR := Lib.hid hr
  have f := hc.f
  have c0 := hc.c0
  have c1 := hc.c1
  have c2 := hc.c2
  have c3 := hc.c3
  clear h hc hg hr
  go_enter Try.func30, Try.ntmps30
  go_wp2_with (first
    | (go_at_call 51; refine (CU.out).mono ?_; rintro e w1 ⟨rfl, rfl⟩))
  go_end0
  refine ⟨rfl, lat_new (heap_setCell_same _ g 3 _ _ _ (heap_setCell_same _ g 2 _ _ _ (heap_setCell_same _ g 1 _ _ _ (heap_setCell_same w g 0 _ _ _ HR.out)))) HG.out.off (fun k hk => Nat.lt_of_lt_of_le (HG.out.inw k hk) (touch_four g w _ _ _ _).size), touch_four g w _ _ _ _⟩
set_option maxRecDepth 1000000 in
theorem clone_list (w : World) (g : Nat) (S : LS) (h : LAt K w g S) : Calls Try.prog 31 #[.pointer (some ⟨g, 0, none⟩)] w fun e w' => e = .returned (.pointer (some ⟨w.heap.size, 0, none⟩)) ∧ LAt K w' w.heap.size S ∧ Below w.heap.size w w' := by
  obtain ⟨p, hc, hg, hr⟩ := h.parts
  have CU := Lib.hid (usable_any w g S h)
  have HG := Lib.hid hg
  have HR := Lib.hid hr
  have HO := Lib.hid h.ok
  have f := hc.f
  have c0 := hc.c0
  have c1 := hc.c1
  have c2 := hc.c2
  have c3 := hc.c3
  clear h hc hg hr
  go_enter Try.func31, Try.ntmps31
  go_wp2_with (first
    | (go_at_call 51; refine (CU.out).mono ?_; rintro e w1 ⟨rfl, rfl⟩))
  go_ret
  have hb : Below w.heap.size w (w.alloc (.cells (lrow S p) 73)) := (Below.refl _ _).alloc (Nat.le_refl _) _
  have hn : (w.alloc (.cells (lrow S p) 73)).heap[w.heap.size]? = some (.cells (lrow S p) 73 (0, 0)) := alloc_new _ _
  exact ⟨rfl, ⟨⟨p, hn, ⟨cell_of_row _ _ 0 _ _ _ hn, HG.out.chain.to (Agree.of_below hb), HG.out.full, HG.out.many, (Array.getElem?_eq_some_iff.1 hn).1, fun hk => Nat.lt_irrefl _ (HG.out.inw _ hk), fun k hk => Nat.lt_of_lt_of_le (HG.out.inw k hk) hb.size⟩⟩, HO.out⟩, hb⟩
end
end Go.Proofs.Ytjgjbdpknfplkaa
