/-
  What put of package tinfo returns and changes, where the table of names knows the name.
-/
import Derived.Test.YtcfgppjhgobboaaGreatDoorTiPut
import Derived.Deep.RegionLaw
namespace Go.Proofs.YtcfgppjhgobboaaGreatDoor
open Go.RowKit Go.Shelf Go.Lib
attribute [local go_sem] Oper.semAt_some

theorem withList_of (t : TermD) (k : Nat) (hk : k < 3) (l : List CapD) (i : Nat) (hi : i < 3) : listOf (withList t k l) i = if i = k then l else listOf t i := by
  match k, hk, i, hi with
  | 0, _, 0, _ | 0, _, 1, _ | 0, _, 2, _ | 1, _, 0, _ | 1, _, 1, _ | 1, _, 2, _ | 2, _, 0, _ | 2, _, 1, _ | 2, _, 2, _ => rfl
theorem withList_rest (t : TermD) (k : Int) (l : List CapD) : (withList t k l).names = t.names ∧ (withList t k l).wide = t.wide ∧ (withList t k l).exts = t.exts := by
  unfold withList
  split
  · exact ⟨rfl, rfl, rfl⟩
  · split <;> exact ⟨rfl, rfl, rfl⟩

/-- one list of the entry is another row -/
theorem TermAt.putList {W W3 : World} {FP : Nat → Prop} {tb : Nat} {v : Nat → Value} {ve u : Value} {t : TermD} {l : List CapD} (h : TermAt W FP tb v ve t) (k : Nat) (hk : k < 3) (hr : CapRow W3 u l) (ht : Touch (fun b => (v k).ownBlock = some b) W W3)
    (hu : u.ownBlock = (v k).ownBlock ∨ ∃ b, u.ownBlock = some b ∧ W.heap.size ≤ b) :
    TermAt (W3.setCell ⟨tb, 2 + k, none⟩ u) (fun b => FP b ∨ W.heap.size ≤ b) tb (fun i => if i = k then u else v i) ve (withList t k l) ∧ Touch FP W (W3.setCell ⟨tb, 2 + k, none⟩ u) := by
  have htb : W3.heap[tb]? = W.heap[tb]? := ht.block _ h.lt fun e => (h.own k hk _ e).2 rfl
  have hother : ∀ i, i < 3 → i ≠ k → ∀ b, (v i).ownBlock = some b → (W3.setCell ⟨tb, 2 + k, none⟩ u).heap[b]? = W.heap[b]? := fun i hi hne b hb =>
    (Below.heap_setCell _ _ _ _ (h.own i hi b hb).2).trans (ht.block b (own_lt (h.rows i hi) b hb).2 fun e => h.apart i k hi hk hne b hb e)
  have hune : ∀ b, u.ownBlock = some b → b ≠ tb := fun b hb e => by
    subst e
    rcases hu with hu | ⟨b', hu, hb'⟩
    · exact (h.own k hk b (hu ▸ hb)).2 rfl
    · rw [hu] at hb; injection hb with hb; have := h.lt; omega
  refine ⟨⟨?_, fun i hi => ?_, ?_, .inl h.self, fun i hi b hb => ?_, fun b hb => ⟨.inl (h.owne b hb).1, (h.owne b hb).2⟩, fun i j hi hj hne b hb hb2 => ?_, fun i hi b hb hb2 => ?_⟩, ?_⟩
  · have := heap_setCell_same W3 tb (2 + k) _ _ u (htb.trans h.cells)
    rw [this]
    obtain ⟨e1, e2, e3⟩ := withList_rest t k l
    rw [e1, e2]
    match k, hk with
    | 0, _ | 1, _ | 2, _ => rfl
  · rw [withList_of t k hk l i hi]
    by_cases hik : i = k
    · subst hik
      simp only [if_true]
      exact own_same hr fun b hb => Below.heap_setCell _ _ _ _ (hune b hb)
    · simp only [if_neg hik]
      exact own_same (h.rows i hi) (hother i hi hik)
  · rw [(withList_rest t k l).2.2]
    exact own_same h.exts fun b hb => (Below.heap_setCell _ _ _ _ (h.owne b hb).2).trans (ht.block b (own_lt h.exts b hb).2 fun e => h.aparte k hk b e hb)
  · by_cases hik : i = k
    · subst hik
      simp only [if_true] at hb
      refine ⟨?_, hune b hb⟩
      rcases hu with hu | ⟨b', hu, hb'⟩
      · exact .inl (h.own i hi b (hu ▸ hb)).1
      · rw [hu] at hb; injection hb with hb; exact .inr (by omega)
    · simp only [if_neg hik] at hb
      exact ⟨.inl (h.own i hi b hb).1, (h.own i hi b hb).2⟩
  · by_cases hik : i = k
    · subst hik
      simp only [if_true, if_neg (Ne.symm hne)] at hb hb2
      rcases hu with hu | ⟨b', hu, hb'⟩
      · exact h.apart i j hi hj hne b (hu ▸ hb) hb2
      · rw [hu] at hb; injection hb with hb; have := (own_lt (h.rows j hj) b hb2).2; omega
    · by_cases hjk : j = k
      · subst hjk
        simp only [if_true, if_neg hik] at hb hb2
        rcases hu with hu | ⟨b', hu, hb'⟩
        · exact h.apart i j hi hj hne b hb (hu ▸ hb2)
        · rw [hu] at hb2; injection hb2 with hb2; have := (own_lt (h.rows i hi) b hb).2; omega
      · simp only [if_neg hik, if_neg hjk] at hb hb2
        exact h.apart i j hi hj hne b hb hb2
  · by_cases hik : i = k
    · subst hik
      simp only [if_true] at hb
      rcases hu with hu | ⟨b', hu, hb'⟩
      · exact h.aparte i hi b (hu ▸ hb) hb2
      · rw [hu] at hb; injection hb with hb; have := (own_lt h.exts b hb2).2; omega
    · simp only [if_neg hik] at hb
      exact h.aparte i hi b hb hb2
  · exact (ht.mono fun b _ hb => (h.own k hk b hb).1).trans (Touch.setCell _ _ _ h.self)

def PutPost (w : World) (FP : Nat → Prop) (tb : Nat) (t : TermD) (name : List UInt8) (c : CapD) (e : Ending) (w' : World) : Prop :=
  ∃ v ve, e = .returned (.bool (putTP t name c).isSome) ∧ TermAt w' (fun k => FP k ∨ w.heap.size ≤ k) tb v ve ((putTP t name c).getD t) ∧ Touch FP w w'

theorem putTP_known {t : TermD} {name : List UInt8} {c : CapD} {k n : Nat} (hp : placeP name = some ((k : Int), (n : Int))) : putTP t name c = some (withList t k (placedP (listOf t k) n c)) := by
  unfold putTP
  rw [hp]
  rfl
theorem put_close {w w2 W' : World} {FP : Nat → Prop} {tb : Nat} {t : TermD} {name : List UInt8} {c : CapD} {k n : Nat} {o : Obj} {v : Nat → Value} {ve : Value} (hp : placeP name = some ((k : Int), (n : Int))) (hb : Below (w.alloc o).heap.size (w.alloc o) w2)
    (h : TermAt W' (fun b => FP b ∨ w2.drew.heap.size ≤ b) tb v ve (withList t k (placedP (listOf t k) n c)) ∧ Touch FP w2.drew W') : PutPost w FP tb t name c (.returned (.bool true)) W' := by
  have hw : Below w.heap.size w w2 := ((Below.refl _ w).alloc (Nat.le_refl _) o).trans (hb.mono (by simp))
  refine ⟨v, ve, by rw [putTP_known hp]; rfl, ?_, ?_⟩
  · rw [putTP_known hp]
    refine h.1.more fun j _ hj => ?_
    rcases hj with hj | hj
    · exact .inl hj
    · exact .inr (Nat.le_trans hw.size hj)
  · exact ((Touch.of_below hw).drew).trans h.2

set_option maxRecDepth 100000 in
set_option maxHeartbeats 2000000 in
theorem put_known (w : World) (FP : Nat → Prop) (tb : Nat) (v : Nat → Value) (ve : Value) (t : TermD) (name : List UInt8) (c : CapD) (h : TermAt w FP tb v ve t) (hT : Tabs w) (k n : Nat) (hk : k < 3) (hp : placeP name = some ((k : Int), (n : Int))) (hn : n ≤ 164) :
    Calls Tryz.prog 52 #[.pointer (some ⟨tb, 0, none⟩), str name, capVal c] w (PutPost w FP tb t name c) := by
  have CP := Lib.hid (fun W (hW : Tabs W) => place_any name W hW.run)
  have hres : placeRes name = .tuple #[.int .i64 k, .int .i64 n, .bool true] := by unfold placeRes; rw [hp]
  have HP := Lib.hid hp
  have HT := Lib.hid hT
  have H := Lib.hid h
  unfold PlacePost at CP
  rw [hres] at CP
  clear hp hres hT h
  go_enter Tryz.func52, Tryz.ntmps52
  match k, hk with
  | 0, _ =>
    go_wp2_with (first
      | (go_at_call 30; refine (CP.out _ (HT.out.below ((Below.refl _ _).alloc (Nat.le_refl _) _))).mono ?_; rintro e w2 ⟨rfl, hb2⟩; have HB2 := Lib.hid hb2; clear hb2)
      | (go_at_call 100; refine (list_any _ _ _).mono ?_; rintro e w' ⟨rfl, rfl⟩))
    have H2 := Lib.hid ((H.out.below ((Below.refl _ w).alloc (Nat.le_refl _) (.cells #[.int .i64 c.st, .int .i64 c.num, str c.text] 37))).below HB2.out)
    have c0 := cell_of_row w2 tb 2 _ _ _ H2.out.cells
    have hbox : w2.heap[w.heap.size]? = some (.cells #[.int .i64 c.st, .int .i64 c.num, str c.text] 37 (0, 0)) := (HB2.out.block _ (by simp)).trans (World.alloc_heap_new w _)
    have k0 := cell_of_row w2 w.heap.size 0 _ _ _ hbox
    have k1 := cell_of_row w2 w.heap.size 1 _ _ _ hbox
    have k2 := cell_of_row w2 w.heap.size 2 _ _ _ hbox
    simp only [List.getElem?_toArray, List.getElem?_cons_zero, List.getElem?_cons_succ] at c0 k0 k1 k2
    clear hbox
    have HD := Lib.hid (H2.out.same (W' := w2.drew) fun _ _ _ => rfl)
    go_region_law (go_simp; go_at_call 101; refine (placed_any w2.drew (v 0) (listOf t 0) n c (HD.out.rows 0 (by omega)) hn).mono ?_; rintro e w3 ⟨u, rfl, hr, ht, hu⟩; obtain ⟨A3, cap3, rfl⟩ := hr.form; have H3 := Lib.hid (HD.out.putList 0 (by omega) hr ht hu); have d0 : w3.cell? ⟨tb, 2, none⟩ = some (v 0) := ((ht.cell (p := ⟨tb, 2, none⟩) HD.out.lt fun e => (HD.out.own 0 (by omega) _ e).2 rfl).trans c0); have d1 : w3.frozen? ⟨tb, 2, none⟩ = false := frozen_of_row w3 tb 2 _ _ ((ht.block _ HD.out.lt fun e => (HD.out.own 0 (by omega) _ e).2 rfl).trans HD.out.cells); clear hr ht hu)
    all_goals
      go_wp2_with fail
      go_ret
      exact put_close HP.out HB2.out H3.out
  | 1, _ =>
    go_wp2_with (first
      | (go_at_call 30; refine (CP.out _ (HT.out.below ((Below.refl _ _).alloc (Nat.le_refl _) _))).mono ?_; rintro e w2 ⟨rfl, hb2⟩; have HB2 := Lib.hid hb2; clear hb2)
      | (go_at_call 100; refine (list_any _ _ _).mono ?_; rintro e w' ⟨rfl, rfl⟩))
    have H2 := Lib.hid ((H.out.below ((Below.refl _ w).alloc (Nat.le_refl _) (.cells #[.int .i64 c.st, .int .i64 c.num, str c.text] 37))).below HB2.out)
    have c0 := cell_of_row w2 tb 3 _ _ _ H2.out.cells
    have hbox : w2.heap[w.heap.size]? = some (.cells #[.int .i64 c.st, .int .i64 c.num, str c.text] 37 (0, 0)) := (HB2.out.block _ (by simp)).trans (World.alloc_heap_new w _)
    have k0 := cell_of_row w2 w.heap.size 0 _ _ _ hbox
    have k1 := cell_of_row w2 w.heap.size 1 _ _ _ hbox
    have k2 := cell_of_row w2 w.heap.size 2 _ _ _ hbox
    simp only [List.getElem?_toArray, List.getElem?_cons_zero, List.getElem?_cons_succ] at c0 k0 k1 k2
    clear hbox
    have HD := Lib.hid (H2.out.same (W' := w2.drew) fun _ _ _ => rfl)
    go_region_law (go_simp; go_at_call 101; refine (placed_any w2.drew (v 1) (listOf t 1) n c (HD.out.rows 1 (by omega)) hn).mono ?_; rintro e w3 ⟨u, rfl, hr, ht, hu⟩; obtain ⟨A3, cap3, rfl⟩ := hr.form; have H3 := Lib.hid (HD.out.putList 1 (by omega) hr ht hu); have d0 : w3.cell? ⟨tb, 3, none⟩ = some (v 1) := ((ht.cell (p := ⟨tb, 3, none⟩) HD.out.lt fun e => (HD.out.own 1 (by omega) _ e).2 rfl).trans c0); have d1 : w3.frozen? ⟨tb, 3, none⟩ = false := frozen_of_row w3 tb 3 _ _ ((ht.block _ HD.out.lt fun e => (HD.out.own 1 (by omega) _ e).2 rfl).trans HD.out.cells); clear hr ht hu)
    all_goals
      go_wp2_with fail
      go_ret
      exact put_close HP.out HB2.out H3.out
  | 2, _ =>
    go_wp2_with (first
      | (go_at_call 30; refine (CP.out _ (HT.out.below ((Below.refl _ _).alloc (Nat.le_refl _) _))).mono ?_; rintro e w2 ⟨rfl, hb2⟩; have HB2 := Lib.hid hb2; clear hb2)
      | (go_at_call 100; refine (list_any _ _ _).mono ?_; rintro e w' ⟨rfl, rfl⟩))
    have H2 := Lib.hid ((H.out.below ((Below.refl _ w).alloc (Nat.le_refl _) (.cells #[.int .i64 c.st, .int .i64 c.num, str c.text] 37))).below HB2.out)
    have c0 := cell_of_row w2 tb 4 _ _ _ H2.out.cells
    have hbox : w2.heap[w.heap.size]? = some (.cells #[.int .i64 c.st, .int .i64 c.num, str c.text] 37 (0, 0)) := (HB2.out.block _ (by simp)).trans (World.alloc_heap_new w _)
    have k0 := cell_of_row w2 w.heap.size 0 _ _ _ hbox
    have k1 := cell_of_row w2 w.heap.size 1 _ _ _ hbox
    have k2 := cell_of_row w2 w.heap.size 2 _ _ _ hbox
    simp only [List.getElem?_toArray, List.getElem?_cons_zero, List.getElem?_cons_succ] at c0 k0 k1 k2
    clear hbox
    have HD := Lib.hid (H2.out.same (W' := w2.drew) fun _ _ _ => rfl)
    go_region_law (go_simp; go_at_call 101; refine (placed_any w2.drew (v 2) (listOf t 2) n c (HD.out.rows 2 (by omega)) hn).mono ?_; rintro e w3 ⟨u, rfl, hr, ht, hu⟩; obtain ⟨A3, cap3, rfl⟩ := hr.form; have H3 := Lib.hid (HD.out.putList 2 (by omega) hr ht hu); have d0 : w3.cell? ⟨tb, 4, none⟩ = some (v 2) := ((ht.cell (p := ⟨tb, 4, none⟩) HD.out.lt fun e => (HD.out.own 2 (by omega) _ e).2 rfl).trans c0); have d1 : w3.frozen? ⟨tb, 4, none⟩ = false := frozen_of_row w3 tb 4 _ _ ((ht.block _ HD.out.lt fun e => (HD.out.own 2 (by omega) _ e).2 rfl).trans HD.out.cells); clear hr ht hu)
    all_goals
      go_wp2_with fail
      go_ret
      exact put_close HP.out HB2.out H3.out

end Go.Proofs.YtcfgppjhgobboaaGreatDoor
