/-
  What put of package tinfo returns and changes, for every name.
-/
import Derived.Test.YtcfgppjhgobboaaGreatDoorTiGet
namespace Go.Proofs.YtcfgppjhgobboaaGreatDoor
open Go.RowKit Go.Shelf Go.Lib
attribute [local go_sem] Oper.semAt_some

def withCap (c : CapD) (x : ExtD) : ExtD := { x with cap := c }
theorem extVals_modify (l : List ExtD) (i : Nat) (c : CapD) : extVals (l.modify i (withCap c)) = if i < l.length then (((extVals l).set (i * 5 + 2) (.int .i64 c.st)).set (i * 5 + 3) (.int .i64 c.num)).set (i * 5 + 4) (str c.text) else extVals l := by
  induction l generalizing i with
  | nil => simp
  | cons x l ih =>
    cases i with
    | zero => simp [extVals, extCells, withCap]
    | succ i =>
      have e2 : (i + 1) * 5 + 2 = i * 5 + 2 + 1 + 1 + 1 + 1 + 1 := by omega
      have e3 : (i + 1) * 5 + 3 = i * 5 + 3 + 1 + 1 + 1 + 1 + 1 := by omega
      have e4 : (i + 1) * 5 + 4 = i * 5 + 4 + 1 + 1 + 1 + 1 + 1 := by omega
      have := ih i
      simp only [List.modify_succ_cons, extVals, List.flatMap_cons, extCells, List.length_cons, Nat.add_lt_add_iff_right, e2, e3, e4, List.cons_append, List.nil_append, List.set_cons_succ] at this ⊢
      rw [this]
      split <;> rfl
abbrev storeExt (W : World) (g i : Nat) (c : CapD) : World := ((W.setCell ⟨g, i * 5 + 2, none⟩ (.int .i64 c.st)).setCell ⟨g, i * 5 + 3, none⟩ (.int .i64 c.num)).setCell ⟨g, i * 5 + 4, none⟩ (str c.text)
theorem storeExt_touch (W : World) (g i : Nat) (c : CapD) : Touch (fun k => k = g) W (storeExt W g i c) :=
  ((Touch.setCell (T := fun k => k = g) W ⟨g, i * 5 + 2, none⟩ _ rfl).trans (Touch.setCell _ ⟨g, i * 5 + 3, none⟩ _ rfl)).trans (Touch.setCell _ ⟨g, i * 5 + 4, none⟩ _ rfl)
theorem ExtRow.setAt {W : World} {g cap n i : Nat} {l : List ExtD} {c : CapD} (h : ExtRow W (.slice (some ⟨g, 0, none⟩) n cap) l) (hi : i < l.length) : ExtRow (storeExt W g i c) (.slice (some ⟨g, 0, none⟩) n cap) (l.modify i (withCap c)) := by
  obtain ⟨h1, h2⟩ := h
  rcases h2 with ⟨e, _⟩ | ⟨g', cap', cur, e, hb, hh, hn, hcm, hs, ht⟩
  · cases e
  · injection e with e1 e2 e3
    injection e1 with e1
    injection e1 with e1
    subst e1 e2 e3
    have s1 := heap_setCell_same W g (i * 5 + 2) _ _ (.int .i64 c.st) hh
    have s2 := heap_setCell_same _ g (i * 5 + 3) _ _ (.int .i64 c.num) s1
    have s3 := heap_setCell_same _ g (i * 5 + 4) _ _ (str c.text) s2
    refine ⟨by rw [extVals_length], .inr ⟨g, cap, _, by rw [List.length_modify], hb, s3, by rw [List.length_modify]; exact hn, hcm, by simp [hs], ?_⟩⟩
    rw [List.length_modify, Array.toList_setIfInBounds, Array.toList_setIfInBounds, Array.toList_setIfInBounds, List.take_set, List.take_set, List.take_set, ht, extVals_modify, if_pos hi]
theorem ExtRow.at {W : World} {g cap n i : Nat} {l : List ExtD} {c : ExtD} (h : ExtRow W (.slice (some ⟨g, 0, none⟩) n cap) l) (hi : l[i]? = some c) :
    W.cell? ⟨g, i * 5 + 2, none⟩ = some (.int .i64 c.cap.st) ∧ W.cell? ⟨g, i * 5 + 3, none⟩ = some (.int .i64 c.cap.num) ∧ W.cell? ⟨g, i * 5 + 4, none⟩ = some (str c.cap.text) ∧ ∀ j, W.frozen? ⟨g, j, none⟩ = false := by
  obtain ⟨h1, h2⟩ := h
  rcases h2 with ⟨e, _⟩ | ⟨g', cap', cur, e, hb, hh, hn, hcm, hs, ht⟩
  · cases e
  · injection e with e1 e2 e3
    injection e1 with e1
    injection e1 with e1
    subst e1 e2 e3
    have hlt := (List.getElem?_eq_some_iff.1 hi).1
    have each : ∀ j, j < 5 → cur[i * 5 + j]? = (extCells c)[j]? := fun j hj => by
      rw [← extVals_at hi j hj, ← ht, List.getElem?_take_of_lt (by omega), Array.getElem?_toList]
    refine ⟨?_, ?_, ?_, fun j => frozen_of_row W g j _ _ hh⟩
    · rw [cell_of_row W g (i * 5 + 2) cur _ (0, 0) hh]; exact each 2 (by omega)
    · rw [cell_of_row W g (i * 5 + 3) cur _ (0, 0) hh]; exact each 3 (by omega)
    · rw [cell_of_row W g (i * 5 + 4) cur _ (0, 0) hh]; exact each 4 (by omega)
theorem ExtRow.form {W : World} {v : Value} {l : List ExtD} (h : ExtRow W v l) : ∃ A cap, v = .slice A l.length cap := by
  obtain ⟨A, cap, e, _⟩ := own_form h
  exact ⟨A, cap, e⟩
theorem ExtRow.head {W : World} {A : Option Addr} {n cap : Nat} {l : List ExtD} (h : ExtRow W (.slice A n cap) l) (hl : 0 < l.length) : ∃ g, A = some ⟨g, 0, none⟩ ∧ g < W.heap.size := by
  rcases h.2 with ⟨e, h0⟩ | ⟨g, cap', cur, e, _, hh, _⟩
  · omega
  · injection e with e1 _ _; exact ⟨g, e1, (Array.getElem?_eq_some_iff.1 hh).1⟩
/-- one extended capability of the entry has another value -/
theorem TermAt.putExt {W : World} {FP : Nat → Prop} {tb : Nat} {v : Nat → Value} {t : TermD} {g cap n i : Nat} {c : CapD} (h : TermAt W FP tb v (.slice (some ⟨g, 0, none⟩) n cap) t) (hi : i < t.exts.length) :
    TermAt (storeExt W g i c) FP tb v (.slice (some ⟨g, 0, none⟩) n cap) { t with exts := t.exts.modify i (withCap c) } ∧ Touch FP W (storeExt W g i c) := by
  have ht := storeExt_touch W g i c
  have hg := h.owne g rfl
  refine ⟨⟨(ht.block _ h.lt fun e => hg.2 e.symm).trans h.cells, fun j hj => ?_, h.exts.setAt hi, h.self, h.own, h.owne, h.apart, h.aparte⟩, ht.mono fun k _ hk => by subst hk; exact hg.1⟩
  have := h.rows j hj
  refine own_same (xs := capVals (listOf t j)) this fun b hb => ht.block b (own_lt this b hb).2 fun e => ?_
  subst e
  exact h.aparte j hj b hb rfl

set_option maxRecDepth 100000 in
set_option maxHeartbeats 2000000 in
theorem put_unknown (w : World) (FP : Nat → Prop) (tb : Nat) (v : Nat → Value) (ve : Value) (t : TermD) (name : List UInt8) (c : CapD) (h : TermAt w FP tb v ve t) (hT : Tabs w) (hsm : t.exts.length * 56 ≤ 140737488355328) (hp : placeP name = none) :
    Calls Tryz.prog 52 #[.pointer (some ⟨tb, 0, none⟩), str name, capVal c] w (PutPost w FP tb t name c) := by
  have CP := Lib.hid (fun W (hW : Tabs W) => place_any name W hW.run)
  have hres : placeRes name = .tuple #[.int .i64 0, .int .i64 0, .bool false] := by unfold placeRes; rw [hp]
  unfold PlacePost at CP
  rw [hres] at CP
  have HT := Lib.hid hT
  have H := Lib.hid h
  have hbx : Below w.heap.size w (w.alloc (.cells #[.int .i64 c.st, .int .i64 c.num, str c.text] 37)) := (Below.refl _ w).alloc (Nat.le_refl _) _
  have HBX := Lib.hid hbx
  obtain ⟨A, cap, rfl⟩ := h.exts.form
  have CI := Lib.hid (fun W (hW : Below w.heap.size w W) => indexOf_any W _ t.exts ((h.exts.reads hsm).below hW) name)
  cases hx : extIdx t.exts name with
  | none =>
    have HP : Hid (putTP t name c = none) := Lib.hid (by unfold putTP; rw [hp, hx])
    rw [show idxInt t.exts name = -1 by rw [idxInt, hx]] at CI
    clear hp hres hT h hbx hx
    go_enter Tryz.func52, Tryz.ntmps52
    go_wp2_with (first
      | (go_at_call 30; refine (CP.out _ (HT.out.below HBX.out)).mono ?_; rintro e w2 ⟨rfl, hb2⟩; have HB2 := Lib.hid (HBX.out.trans (hb2.mono HBX.out.size)); have c0 := cell_of_row w2 tb 5 _ _ _ ((H.out.below HB2.out).cells); simp only [List.getElem?_toArray, List.getElem?_cons_zero, List.getElem?_cons_succ] at c0; clear hb2)
      | (go_at_call 102; refine (CI.out _ HB2.out).mono ?_; rintro e w3 ⟨rfl, hb3⟩; have HB3 := Lib.hid (HB2.out.trans (hb3.mono HB2.out.size)); clear hb3))
    go_ret
    refine ⟨v, .slice A t.exts.length cap, by rw [HP.out]; rfl, ?_, Touch.of_below HB3.out⟩
    rw [HP.out]
    exact (H.out.below HB3.out).more fun k _ hk => .inl hk
  | some i =>
    obtain ⟨x, hi, _⟩ := extIdx_at hx
    have hlt := (List.getElem?_eq_some_iff.1 hi).1
    have HP : Hid (putTP t name c = some { t with exts := t.exts.modify i (withCap c) }) := Lib.hid (by unfold putTP; rw [hp, hx]; rfl)
    rw [show idxInt t.exts name = (i : Int) by rw [idxInt, hx]] at CI
    obtain ⟨g, rfl, hg⟩ := h.exts.head (by omega)
    have HLT := Lib.hid hlt
    obtain ⟨n, hln⟩ : ∃ n, t.exts.length = n := ⟨_, rfl⟩
    have HLN := Lib.hid hln
    rw [hln] at CI hsm hlt H
    have i1 : (0 : Int) ≤ (i : Int) := by omega
    have i2 : (i : Int) < (n : Int) := by omega
    have hgt := h.owne g rfl
    have hne : ¬ g = tb := hgt.2
    have HI := Lib.hid hi
    clear hp hres hT h hbx hx hi hln hgt
    go_enter Tryz.func52, Tryz.ntmps52
    go_wp2_with (first
      | (go_at_call 30; refine (CP.out _ (HT.out.below HBX.out)).mono ?_; rintro e w2 ⟨rfl, hb2⟩; have HB2 := Lib.hid (HBX.out.trans (hb2.mono HBX.out.size)); have c0 := cell_of_row w2 tb 5 _ _ _ ((H.out.below HB2.out).cells); simp only [List.getElem?_toArray, List.getElem?_cons_zero, List.getElem?_cons_succ] at c0; have HBB := Lib.hid ((hb2.block w.heap.size (by simp)).trans (World.alloc_heap_new w _)); clear hb2)
      | (go_at_call 102; refine (CI.out _ HB2.out).mono ?_; rintro e w3 ⟨rfl, hb3⟩; have hbb3 := (hb3.block w.heap.size (Array.getElem?_eq_some_iff.1 HBB.out).1).trans HBB.out; have k0 := cell_of_row w3 w.heap.size 0 _ _ _ hbb3; have k1 := cell_of_row w3 w.heap.size 1 _ _ _ hbb3; have k2 := cell_of_row w3 w.heap.size 2 _ _ _ hbb3; simp only [List.getElem?_toArray, List.getElem?_cons_zero, List.getElem?_cons_succ] at k0 k1 k2; have HB3 := Lib.hid (HB2.out.trans (hb3.mono HB2.out.size)); have HT3 := Lib.hid (H.out.below HB3.out); clear c0; have c0 := cell_of_row w3 tb 5 _ _ _ HT3.out.cells; simp only [List.getElem?_toArray, List.getElem?_cons_zero, List.getElem?_cons_succ] at c0; obtain ⟨e0, e1, e2, fz⟩ := HT3.out.exts.at HI.out; have f0 := fz (i * 5 + 2); have f1 := fz (i * 5 + 3); have f2 := fz (i * 5 + 4); clear hb3 hbb3 fz))
    have HD := Lib.hid (HT3.out.same (W' := w3.drew) fun _ _ _ => rfl)
    go_region
    all_goals
      go_wp2
      go_ret
      obtain ⟨h1, h2⟩ := HD.out.putExt (c := c) HLT.out
      refine ⟨v, .slice (some ⟨g, 0, none⟩) n cap, by rw [HP.out]; rfl, ?_, ((Touch.of_below HB3.out).drew).trans h2⟩
      rw [HP.out]
      exact h1.more fun k _ hk => .inl hk

theorem put_any (w : World) (FP : Nat → Prop) (tb : Nat) (v : Nat → Value) (ve : Value) (t : TermD) (name : List UInt8) (c : CapD) (h : TermAt w FP tb v ve t) (hT : Tabs w) (hsm : t.exts.length * 56 ≤ 140737488355328) :
    Calls Tryz.prog 52 #[.pointer (some ⟨tb, 0, none⟩), str name, capVal c] w (PutPost w FP tb t name c) := by
  cases hp : placeP name with
  | none => exact put_unknown w FP tb v ve t name c h hT hsm hp
  | some q =>
    obtain ⟨k, n⟩ := q
    obtain ⟨hk, hn0, hn⟩ := placeP_small hp
    obtain ⟨n', rfl⟩ : ∃ n' : Nat, n = n' := ⟨n.toNat, by omega⟩
    obtain ⟨k', hk', rfl⟩ : ∃ k' : Nat, k' < 3 ∧ k = k' := ⟨k.toNat, by omega, by omega⟩
    exact put_known w FP tb v ve t name c h hT k' n' hk' hp (by omega)
end Go.Proofs.YtcfgppjhgobboaaGreatDoor
