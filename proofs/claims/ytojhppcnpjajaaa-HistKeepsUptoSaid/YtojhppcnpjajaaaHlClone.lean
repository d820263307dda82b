/-
  Copies: of a slice of lines, of lines, of a history; All.
-/
import Derived.Test.YtojhppcnpjajaaaHlFrom
namespace Go.Proofs.Ytojhppcnpjajaaa
open Go.RowKit Go.Shelf Go.Lib
attribute [local go_sem] Oper.semAt_some

theorem run_hclone (w : World) {A : Option Addr} {n c : Nat} {l : List HL} (h : HH w (.slice A n c) l) (hl : l.length ≤ 5000000000000) :
    ∃ A' c' w', (Builtin.append_ #[22, 22] 22 #[.slice (some ⟨w.heap.size, 0, none⟩) 0 0, .slice A n c]).run Try.prog (w.alloc (.cells #[] 69)) = .ok (.slice A' l.length c') w' ∧
      HSeg w' (.slice A' l.length c') l ∧ Below w.heap.size w w' ∧ (∀ k, Value.ownBlock (.slice A' l.length c') = some k → w.heap.size ≤ k) := by
  obtain ⟨i, hi, hz, hs2, hby⟩ := info_parts info_hl
  have hb := (Below.refl w.heap.size w).alloc (Nat.le_refl _) (.cells #[] 69)
  obtain rfl := h.len
  obtain ⟨A0, c0, e0, _, hs⟩ := h.below hb
  injection e0 with e1 _ e3
  subst e1 e3
  have hseg : Seg (w.alloc (.cells #[] 69)) 69 2 (.slice (some ⟨w.heap.size, 0, none⟩) 0 0) 0 [] := ⟨rfl, .inr ⟨w.heap.size, 0, 0, #[], rfl, alloc_new _ _, Nat.le_refl _, Nat.zero_le _, by simp, by simp⟩⟩
  obtain ⟨A', c', w', hr, h1, h2, h3⟩ := run_append_seg (P := Try.prog) _ 22 22 i (hlV zl) 24 Try.underlying22 hi hz hs2 hby rfl (by decide) hseg hs (hlVals_one _) (by unfold maxLen; omega) (by omega)
  rw [Nat.zero_add] at hr h1 h3
  refine ⟨A', c', w', hr, h1, hb.trans (grown_below h2 hb.size fun k hk => ?_), fun k hk => (h3 k hk).elim (fun e => ?_) fun e => Nat.le_trans hb.size e⟩
  · simp [Value.ownBlock] at hk
    omega
  · simp [Value.ownBlock] at e
    omega
/-- what a copy is -/
def CopyPost (w : World) (l : List HL) (e : Ending) (w' : World) : Prop := ∃ A c, e = .returned (.slice A l.length c) ∧ HSeg w' (.slice A l.length c) l ∧ Below w.heap.size w w' ∧ ∀ k, Value.ownBlock (.slice A l.length c) = some k → w.heap.size ≤ k
set_option maxRecDepth 1000000 in
theorem cloneH_any (w : World) (v : Value) (l : List HL) (h : HH w v l) (hl : l.length ≤ 5000000000000) : Calls Try.prog 78 #[v] w (CopyPost w l) := by
  obtain ⟨A, c, rfl⟩ := h.form
  have qn : ∀ (W : World) (a : Option Addr) (n c n' c' : Nat), (binOp .eql 22 (.slice a n c) (.slice none n' c')).run Try.prog W = .ok (.bool a.isNone) W := fun W a n c n' c' => Lib.run_eql_slice_nil W _ _ a n c n' c' Try.underlying22
  cases A with
  | none =>
    obtain ⟨A', c', e, hc, hs⟩ := id h
    injection e with e1 _ e3
    subst e1 e3
    have h0 := hs.nil rfl
    obtain rfl : l = [] := List.eq_nil_of_length_eq_zero h0.1
    clear h hs hc h0 hl
    go_enter Try.func78, Try.ntmps78
    go_wp2
    go_ret
    exact ⟨none, 0, rfl, Seg.nil _ _ _, Below.refl _ _, fun k hk => by cases hk⟩
  | some a =>
    obtain ⟨A', c', w', hr, h1, h2, h3⟩ := run_hclone w h hl
    have HR := Lib.hid hr
    have H1 := Lib.hid h1
    have H2 := Lib.hid h2
    have H3 := Lib.hid h3
    clear h hl hr h1 h2 h3
    go_enter Try.func78, Try.ntmps78
    go_wp2_with (at_builtin; refine wpList_append_is HR.out (by rfl) _ _ (by rfl) (by rfl) (by rfl) (by rfl) ?_)
    go_ret
    exact ⟨A', c', rfl, H1.out, H2.out, H3.out⟩
theorem set_row3 {w : World} {b : Nat} {v x y : Value} {T : TypeId} (h : w.heap[b]? = some (.cells #[v, x, y] T (0, 0))) (u : Value) : (w.setCell ⟨b, 0, none⟩ u).cell? ⟨b, 0, none⟩ = some u ∧ (w.setCell ⟨b, 0, none⟩ u).cell? ⟨b, 1, none⟩ = some x ∧ (w.setCell ⟨b, 0, none⟩ u).cell? ⟨b, 2, none⟩ = some y := by
  have h1 := heap_setCell_same w b 0 _ _ u h
  exact ⟨cell_of_row _ b 0 _ _ _ h1, cell_of_row _ b 1 _ _ _ h1, cell_of_row _ b 2 _ _ _ h1⟩
theorem alloc2_first (w : World) (o1 o2 : Obj) : ((w.alloc o1).alloc o2).heap[w.heap.size]? = some o1 := by
  rw [Below.heap_alloc _ _ _ (by simp)]
  exact alloc_new _ _
set_option maxRecDepth 1000000 in
theorem copied_any (w : World) (v : Value) (l : List HL) (x y : Int) (h : HH w v l) (hl : l.length ≤ 5000000000000) : Calls Try.prog 59 #[.agg #[v, .int .i64 x, .int .i64 y]] w fun e w' => ∃ A c, e = .returned (.agg #[.slice A l.length c, .int .i64 x, .int .i64 y]) ∧ HSeg w' (.slice A l.length c) l ∧ Below w.heap.size w w' ∧ ∀ k, Value.ownBlock (.slice A l.length c) = some k → w.heap.size ≤ k := by
  obtain ⟨A, c, rfl⟩ := h.form
  have hb0 := ((Below.refl w.heap.size w).alloc (Nat.le_refl _) (.cells #[.slice A l.length c, .int .i64 x, .int .i64 y] 85)).alloc (by simp) (.cells #[.slice none 0 0, .int .i64 0, .int .i64 0] 85)
  have CC := Lib.hid (cloneH_any _ _ l (h.below hb0) hl)
  have HB0 := Lib.hid hb0
  clear h hl hb0
  go_enter Try.func59, Try.ntmps59
  go_wp2_with (go_at_call 78; refine (CC.out).mono ?_; rintro e w1 ⟨A1, c1, rfl, h1, hb, h3⟩; have H1 := Lib.hid h1; have HB := Lib.hid (HB0.out.trans (hb.mono HB0.out.size)); have H3 := Lib.hid h3; have hrow := (hb.block w.heap.size (by simp; omega)).trans (alloc2_first w _ _); have a0 := cell_of_row w1 w.heap.size 0 _ _ _ hrow; have st := set_row3 hrow (.slice A1 l.length c1); obtain ⟨t0, t1, t2⟩ := st; obtain ⟨hbc, hbf⟩ := bcell hb; clear h1 hb h3 hrow)
  refine bodyPost_ret (v := .agg #[.slice A1 l.length c1, .int .i64 x, .int .i64 y]) (by simp [results, Try.results59, go_sem, hbc]) rfl ?_
  have H4 : ∀ k, Value.ownBlock (.slice A1 l.length c1) = some k → w.heap.size + 2 ≤ k := fun k hk => by have := H3.out k hk; simp at this; omega
  refine ⟨A1, c1, rfl, H1.out.kept fun k hk => ?_, ?_, fun k hk => by have := H4 k hk; omega⟩
  · have h4 := H4 k hk
    rw [Below.heap_setCell _ _ _ k (by show k ≠ w.heap.size + 1; omega), Below.heap_setCell _ _ _ k (by show k ≠ w.heap.size + 1; omega), Below.heap_setCell _ _ _ k (by show k ≠ w.heap.size + 1; omega), Below.heap_setCell _ _ _ k (by show k ≠ w.heap.size; omega)]
  · exact (((HB.out.setCell (Nat.le_refl _) _).setCell (Nat.le_succ _) _).setCell (Nat.le_succ _) _).setCell (Nat.le_succ _) _
set_option maxRecDepth 1000000 in
theorem Clone_any (w : World) (g : Nat) (v : Value) (S : HS) (h : LAt w g v S) : Calls Try.prog 41 #[.pointer (some ⟨g, 0, none⟩)] w fun e w' => ∃ g' v', e = .returned (.pointer (some ⟨g', 0, none⟩)) ∧ FreshL w w' g' v' S := by
  obtain ⟨A, c, rfl⟩ := h.form
  obtain ⟨c0, c1, c2, c3⟩ := h.cells
  have CU := Lib.hid (usable_any _ g c3)
  have CC := Lib.hid (copied_any w _ S.ls S.base S.most h.seg.holds (Nat.le_trans h.len (by omega)))
  have HLE := Lib.hid (And.intro h.le h.most)
  clear h
  go_enter Try.func41, Try.ntmps41
  go_wp2_with (first
    | (go_at_call 51; refine (CU.out).mono ?_; rintro e w1 ⟨rfl, rfl⟩)
    | (go_at_call 59; refine (CC.out).mono ?_; rintro e w1 ⟨A1, c1', rfl, h1, hb, h3⟩; have H1 := Lib.hid h1; have HB := Lib.hid hb; have H3 := Lib.hid h3; clear h1 hb h3))
  go_ret
  refine ⟨_, .slice A1 S.ls.length c1', rfl, ⟨alloc_new _ _, ?_, HLE.out.1, HLE.out.2⟩, HB.out.alloc HB.out.size _, ?_⟩
  · exact H1.out.below ((Below.refl _ _).alloc (Nat.le_refl _) _)
  · rintro k (rfl | hk)
    · exact HB.out.size
    · exact H3.out k hk
/-- what All answers -/
def AllPost (w : World) (l : List HL) (e : Ending) (w' : World) : Prop := ∃ b v, e = .returned (itF b) ∧ ItB w' b v l 0 false ∧ Below w.heap.size w w' ∧ ∀ k, ItK b v k → w.heap.size ≤ k
set_option maxRecDepth 1000000 in
theorem All_any (w : World) (g : Nat) (v : Value) (S : HS) (h : LAt w g v S) : Calls Try.prog 28 #[.pointer (some ⟨g, 0, none⟩)] w (AllPost w S.ls) := by
  have CK := Lib.hid (kept_any w g v S h)
  have CC := Lib.hid fun W (hb : Below w.heap.size w W) => copied_any W _ S.ls S.base S.most (h.below hb).seg.holds (Nat.le_trans h.len (by omega))
  have CF := Lib.hid fun W A c (hs : HSeg W (.slice A S.ls.length c) S.ls) => from_any W _ S.ls S.base S.most 0 false hs
  clear h
  go_enter Try.func28, Try.ntmps28
  go_wp2_with (first
    | (go_at_call 50; refine (CK.out).mono ?_; rintro e w1 ⟨rfl, hb⟩; have HB := Lib.hid hb; clear hb)
    | (go_at_call 59; refine (CC.out _ HB.out).mono ?_; rintro e w2 ⟨A1, c1, rfl, h1, hb, h3⟩; have H1 := Lib.hid h1; have HB2 := Lib.hid (HB.out.trans (hb.mono HB.out.size)); have H3 := Lib.hid fun k hk => Nat.le_trans HB.out.size (h3 k hk); clear h1 hb h3)
    | (go_at_call 52; refine (CF.out _ _ _ H1.out).mono ?_; rintro e w3 ⟨rfl, hi, hb⟩; have HI := Lib.hid hi; have HB3 := Lib.hid (HB2.out.trans (hb.mono HB2.out.size)); clear hi hb))
  go_ret
  refine ⟨_, _, rfl, HI.out, HB3.out, ?_⟩
  have := HB2.out.size
  rintro k (rfl | rfl | rfl | hk)
  · exact this
  · omega
  · omega
  · exact H3.out k hk
end Go.Proofs.Ytojhppcnpjajaaa
