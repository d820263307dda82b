/-
  The document's variables, by place; Clone of the program's.
-/
import Derived.Test.YtgjebakjjgjojaaGreatDoorTpVars
import Derived.Test.YtgjebakjjgjojaaGreatDoorTpLayM
namespace Go.Proofs.YtgjebakjjgjojaaGreatDoor
open Go.RowKit Go.Shelf Go.Lib Go.Maps
attribute [local go_sem] Oper.semAt_some

set_option maxRecDepth 100000 in
theorem varClone_any (W : World) (vb bm : Nat) (es : List VE) (h : VarsS W vb bm es) :
    Calls Tryz.prog 10 #[.pointer (some ⟨vb, 0, none⟩)] W fun e w' => e = .returned (.pointer (some ⟨W.heap.size + 1, 0, none⟩)) ∧ VarsS w' (W.heap.size + 1) W.heap.size es ∧ Below W.heap.size W w' := by
  have c0 := cell_of_row W vb 0 _ _ _ h.box
  have CU := Lib.hid (usable_any W vb bm c0)
  obtain ⟨em, clock, hb, F, hs, hD⟩ := h.map
  have CC := Lib.hid (AnyW.maps_Clone Tryz.layCloneM bm em clock W hb)
  have HR := Lib.hid h.rises
  clear h
  go_enter Tryz.func10, Tryz.ntmps10
  go_wp2_with (first
    | (go_at_call 24; refine (CU.out).mono ?_; rintro e w' ⟨rfl, rfl⟩)
    | (go_at_call 25; refine (CC.out).mono ?_; rintro e w1 ⟨rfl, rfl⟩))
  go_ret
  refine ⟨by simp, ⟨alloc_two W _ _, ?_, HR.out⟩, ((Below.refl _ _).alloc (Nat.le_refl _) _).alloc (by simp) _⟩
  have h1 : (W.alloc (.map em clock)).heap[W.heap.size]? = some (.map em clock) := (MapKept.heap_alloc W _).1
  exact ⟨em, clock, (Below.heap_alloc _ _ W.heap.size (by simp)).trans h1, F, hs, hD⟩

/-! ### the document's variables -/
/-- a letter's place; -1: none -/
def letterI (c : UInt8) : Int := if 97 ≤ c.toNat ∧ c.toNat ≤ 122 then (c.toNat : Int) - 97 else if 65 ≤ c.toNat ∧ c.toNat ≤ 90 then (c.toNat : Int) - 39 else -1
theorem letterI_neg (c : UInt8) : decide (letterI c < 0) = !isLetterP c := by
  rw [Bool.eq_iff_iff]
  unfold letterI isLetterP
  split
  · next h => simp [h]; omega
  · split
    · next h1 h => simp [h]; omega
    · next h1 h2 => simp; omega
theorem letterI_range (c : UInt8) : -1 ≤ letterI c ∧ letterI c < 52 := by
  unfold letterI
  split
  · omega
  · split <;> omega
theorem letterI_inj {c d : UInt8} (h : letterI c = letterI d) (h0 : 0 ≤ letterI c) : c = d := by
  apply UInt8.toNat_inj.1
  unfold letterI at h h0
  split at h <;> split at h <;> (try split at h) <;> (try split at h0) <;> (try split at h0) <;> omega
set_option maxRecDepth 100000 in
theorem refLetter_any (c : UInt8) (w : World) : Calls Tryz.prog 28 #[.int .u8 (c.toNat : Int)] w fun e w' => e = .returned (.int .i64 (letterI c)) ∧ w = w' := by
  have hb : letterI c = if (97 : Int) ≤ (c.toNat : Int) ∧ (c.toNat : Int) ≤ 122 then (c.toNat : Int) - 97 else if (65 : Int) ≤ (c.toNat : Int) ∧ (c.toNat : Int) ≤ 90 then (c.toNat : Int) - 39 else -1 := by
    unfold letterI
    repeat' split
    all_goals omega
  rw [hb]
  clear hb
  have h0 : (0 : Int) ≤ (c.toNat : Int) := by omega
  generalize (c.toNat : Int) = n at *
  by_cases h1 : (97 : Int) ≤ n
  all_goals by_cases h2 : n ≤ 122
  all_goals by_cases h3 : (65 : Int) ≤ n
  all_goals by_cases h4 : n ≤ 90
  all_goals try (exfalso; omega)
  all_goals
    go_enter Tryz.func28, Tryz.ntmps28
    go_wp2_with fail
    go_ret
    refine ⟨congrArg (fun z => Ending.returned (.int .i64 z)) (?_ : _ = _), rfl⟩
    first | rfl | omega

def mayP (p : PrmD) : Bool := !noValP p
set_option maxRecDepth 100000 in
theorem refMay_any (p : PrmD) (w : World) : Calls Tryz.prog 29 #[prmVal p] w fun e w' => e = .returned (.bool (mayP p)) ∧ Below w.heap.size w w' := by
  obtain ⟨n, t, b⟩ := p
  cases b with
  | true =>
    have hP : mayP ⟨n, t, true⟩ = (n == 0) := by show (!(!(n == 0))) = (n == 0); rw [Bool.not_not]
    rw [hP]
    show Calls Tryz.prog 29 #[.agg #[.int .i32 n, str t, .bool true]] w _
    by_cases hn : n = 0
    all_goals
      go_enter Tryz.func29, Tryz.ntmps29
      go_wp2_with fail
      go_ret
      exact ⟨by simp [*], (Below.refl _ _).alloc (Nat.le_refl _) _⟩
  | false =>
    have hP : mayP ⟨n, t, false⟩ = (t == []) := by show (!(!(t == []))) = (t == []); rw [Bool.not_not]
    rw [hP]
    show Calls Tryz.prog 29 #[.agg #[.int .i32 n, str t, .bool false]] w _
    go_enter Tryz.func29, Tryz.ntmps29
    go_wp2_with fail
    go_ret
    refine ⟨?_, (Below.refl _ _).alloc (Nat.le_refl _) _⟩
    cases t <;> simp

/-- the document's variables in memory -/
structure RefAt (W : World) (rb : Nat) (a : Nat → PrmD) : Prop where
  box : ∃ cells : Array Value, W.heap[rb]? = some (.cells cells 60 (0, 0)) ∧ cells.size = 156 ∧ ∀ i j, i < 52 → j < 3 → cells[i * 3 + j]? = (prmCells (a i))[j]?
def refVal (a : Nat → PrmD) (c : UInt8) : PrmD := if letterI c < 0 then prm0 else a (letterI c).toNat
theorem RefAt.lt {W : World} {rb : Nat} {a : Nat → PrmD} (h : RefAt W rb a) : rb < W.heap.size := by
  obtain ⟨cells, h1, _⟩ := h.box
  exact (Array.getElem?_eq_some_iff.1 h1).1
theorem RefAt.same {W W' : World} {rb : Nat} {a : Nat → PrmD} (h : RefAt W rb a) (hb : W'.heap[rb]? = W.heap[rb]?) : RefAt W' rb a := by
  obtain ⟨cells, h1, h2⟩ := h.box
  exact ⟨cells, hb.trans h1, h2⟩
theorem RefAt.below {W W' : World} {rb : Nat} {a : Nat → PrmD} (h : RefAt W rb a) (hb : Below W.heap.size W W') : RefAt W' rb a := h.same (hb.block _ h.lt)
theorem RefAt.cells {W : World} {rb : Nat} {a : Nat → PrmD} (h : RefAt W rb a) {i : Nat} (hi : i < 52) : W.cell? ⟨rb, i * 3, none⟩ = some (.int .i32 (a i).num) ∧ W.cell? ⟨rb, i * 3 + 1, none⟩ = some (str (a i).text) ∧ W.cell? ⟨rb, i * 3 + 2, none⟩ = some (.bool (a i).is) ∧ (∀ j, W.frozen? ⟨rb, j, none⟩ = false) := by
  obtain ⟨cells, h1, h2, h3⟩ := h.box
  refine ⟨?_, ?_, ?_, fun j => frozen_of_row W rb j _ _ h1⟩
  · rw [cell_of_row W rb (i * 3) cells _ (0, 0) h1]; exact h3 i 0 hi (by omega)
  · rw [cell_of_row W rb (i * 3 + 1) cells _ (0, 0) h1]; exact h3 i 1 hi (by omega)
  · rw [cell_of_row W rb (i * 3 + 2) cells _ (0, 0) h1]; exact h3 i 2 hi (by omega)
set_option maxRecDepth 100000 in
theorem refGet_any (W : World) (rb : Nat) (a : Nat → PrmD) (c : UInt8) (h : RefAt W rb a) :
    Calls Tryz.prog 23 #[.pointer (some ⟨rb, 0, none⟩), .int .u8 (c.toNat : Int)] W fun e w' => e = .returned (prmVal (refVal a c)) ∧ Below W.heap.size W w' := by
  have hlt := h.lt
  have CL := Lib.hid (refLetter_any c)
  have hr := letterI_range c
  by_cases hn : letterI c < 0
  · have hv : refVal a c = prm0 := if_pos hn
    rw [hv]
    generalize letterI c = k at *
    clear hv h
    go_enter Tryz.func23, Tryz.ntmps23
    go_wp2_with (go_at_call 28; refine (CL.out _).mono ?_; rintro e w' ⟨rfl, rfl⟩)
    exact bodyPost_ret (v := prmVal prm0) (by simp [results, Tryz.results23, go_sem]; exact ⟨rfl, rfl, rfl⟩) rfl ⟨rfl, (Below.refl _ _).alloc (Nat.le_refl _) _⟩
  · have hv : refVal a c = a (letterI c).toNat := if_neg hn
    rw [hv]
    obtain ⟨i, hi⟩ : ∃ i : Nat, letterI c = i := ⟨(letterI c).toNat, by omega⟩
    rw [hi] at hr hn CL ⊢
    clear hv
    have hi52 : i < 52 := by omega
    have hii : (i : Int) < 52 := by omega
    have hi0 : ¬ (i : Int) < 0 := by omega
    obtain ⟨c0, c1, c2, fz⟩ := h.cells hi52
    show Calls _ _ _ _ fun e w' => e = .returned (prmVal (a i)) ∧ Below W.heap.size W w'
    clear h hn hr hi
    go_enter Tryz.func23, Tryz.ntmps23
    go_wp2_with (go_at_call 28; refine (CL.out _).mono ?_; rintro e w' ⟨rfl, rfl⟩)
    exact bodyPost_ret (v := prmVal (a i)) (by simp [results, Tryz.results23, go_sem]) rfl ⟨rfl, (Below.refl _ _).alloc (Nat.le_refl _) _⟩

theorem RefAt.put3 {W : World} {rb : Nat} {a : Nat → PrmD} (h : RefAt W rb a) {i : Nat} (hi : i < 52) (p : PrmD) :
    RefAt ((((W.setCell ⟨rb, i * 3, none⟩ (.int .i32 p.num)).setCell ⟨rb, i * 3 + 1, none⟩ (str p.text)).setCell ⟨rb, i * 3 + 2, none⟩ (.bool p.is)).drew) rb (fun k => if k = i then p else a k) := by
  obtain ⟨cells, h1, h2, h3⟩ := h.box
  have e1 : (W.setCell ⟨rb, i * 3, none⟩ (.int .i32 p.num)).heap[rb]? = some (.cells (cells.setIfInBounds (i * 3) (.int .i32 p.num)) _ (0, 0)) := heap_setCell_same W rb (i * 3) _ _ _ h1
  have e2 : ((W.setCell ⟨rb, i * 3, none⟩ (.int .i32 p.num)).setCell ⟨rb, i * 3 + 1, none⟩ (str p.text)).heap[rb]? = some (.cells ((cells.setIfInBounds (i * 3) (.int .i32 p.num)).setIfInBounds (i * 3 + 1) (str p.text)) _ (0, 0)) := heap_setCell_same _ rb (i * 3 + 1) _ _ _ e1
  have e3 : (((W.setCell ⟨rb, i * 3, none⟩ (.int .i32 p.num)).setCell ⟨rb, i * 3 + 1, none⟩ (str p.text)).setCell ⟨rb, i * 3 + 2, none⟩ (.bool p.is)).drew.heap[rb]? = some (.cells (((cells.setIfInBounds (i * 3) (.int .i32 p.num)).setIfInBounds (i * 3 + 1) (str p.text)).setIfInBounds (i * 3 + 2) (.bool p.is)) _ (0, 0)) := heap_setCell_same _ rb (i * 3 + 2) _ _ _ e2
  refine ⟨_, e3, by simp [h2], fun k j hk hj => ?_⟩
  have h3' := h3 k j hk hj
  simp only [Array.getElem?_setIfInBounds, Array.size_setIfInBounds, h2]
  by_cases e : k = i
  · subst e
    rw [if_pos rfl]
    have l0 : k * 3 < 156 := by omega
    have l1 : k * 3 + 1 < 156 := by omega
    have l2 : k * 3 + 2 < 156 := by omega
    obtain rfl | rfl | rfl : j = 0 ∨ j = 1 ∨ j = 2 := by omega
    · rw [if_neg (by omega), if_neg (by omega), if_pos (by omega), if_pos l0]; rfl
    · rw [if_neg (by omega), if_pos rfl, if_pos l1]; rfl
    · rw [if_pos rfl, if_pos l2]; rfl
  · rw [if_neg e, if_neg (by omega), if_neg (by omega), if_neg (by omega)]
    exact h3'
theorem touch_put3 (W : World) (rb i : Nat) (u0 u1 u2 : Value) : Touch (fun k => k = rb) W ((((W.setCell ⟨rb, i * 3, none⟩ u0).setCell ⟨rb, i * 3 + 1, none⟩ u1).setCell ⟨rb, i * 3 + 2, none⟩ u2).drew) :=
  (((Touch.setCell (T := fun k => k = rb) W ⟨rb, i * 3, none⟩ u0 rfl).trans (Touch.setCell (T := fun k => k = rb) _ ⟨rb, i * 3 + 1, none⟩ u1 rfl)).trans (Touch.setCell (T := fun k => k = rb) _ ⟨rb, i * 3 + 2, none⟩ u2 rfl)).drew
def setR (c : UInt8) (p : PrmD) (a : Nat → PrmD) : Nat → PrmD := if letterI c < 0 ∨ mayP p = false then a else fun k => if k = (letterI c).toNat then p else a k
def setRE (c : UInt8) (p : PrmD) : Int := if letterI c < 0 ∨ mayP p = false then 1 else 0
def RSetPost (W : World) (rb : Nat) (c : UInt8) (p : PrmD) (a : Nat → PrmD) (e : Ending) (w' : World) : Prop :=
  e = .returned (.int .i64 (setRE c p)) ∧ RefAt w' rb (setR c p a) ∧ Touch (fun k => k = rb) W w'
set_option maxRecDepth 100000 in
theorem refSet_any (W : World) (rb : Nat) (a : Nat → PrmD) (c : UInt8) (p : PrmD) (h : RefAt W rb a) :
    Calls Tryz.prog 12 #[.pointer (some ⟨rb, 0, none⟩), .int .u8 (c.toNat : Int), prmVal p] W (RSetPost W rb c p a) := by
  have hlt := h.lt
  have HR := Lib.hid h
  have CL := Lib.hid (refLetter_any c)
  have CN := Lib.hid (refMay_any p)
  have hr := letterI_range c
  by_cases hn : letterI c < 0
  · have HE : setRE c p = 1 := if_pos (.inl hn)
    have HS : setR c p a = a := if_pos (.inl hn)
    unfold RSetPost
    rw [HE, HS]
    generalize letterI c = k at *
    clear HE HS h
    obtain ⟨n, t, b⟩ := p
    generalize mayP _ = q at *
    go_enter Tryz.func12, Tryz.ntmps12
    go_wp2_with (first
      | (go_at_call 28; refine (CL.out _).mono ?_; rintro e w' ⟨rfl, rfl⟩))
    go_ret
    exact ⟨rfl, HR.out.below ((Below.refl _ _).alloc (Nat.le_refl _) _), Touch.of_below ((Below.refl _ _).alloc (Nat.le_refl _) _)⟩
  · obtain ⟨i, hi⟩ : ∃ i : Nat, letterI c = i := ⟨(letterI c).toNat, by omega⟩
    cases hq : mayP p with
    | false =>
      have HE : setRE c p = 1 := if_pos (.inr hq)
      have HS : setR c p a = a := if_pos (.inr hq)
      unfold RSetPost
      rw [HE, HS]
      rw [hi] at hr hn CL
      rw [hq] at CN
      have hi0 : ¬ (i : Int) < 0 := by omega
      clear HE HS h hi hr hn hq
      obtain ⟨n, t, b⟩ := p
      go_enter Tryz.func12, Tryz.ntmps12
      go_wp2_with (first
        | (go_at_call 28; refine (CL.out _).mono ?_; rintro e w' ⟨rfl, rfl⟩)
        | (go_at_call 29; refine (CN.out _).mono ?_; rintro e w2 ⟨rfl, hb2⟩))
      go_ret
      have hb : Below W.heap.size W w2 := ((Below.refl _ _).alloc (Nat.le_refl _) _).trans (hb2.mono (by simp))
      exact ⟨rfl, HR.out.below hb, Touch.of_below hb⟩
    | true =>
      have hc : ¬ (letterI c < 0 ∨ mayP p = false) := by rw [hq]; simp; omega
      have HE : setRE c p = 0 := if_neg hc
      have HS : setR c p a = fun k => if k = i then p else a k := by rw [setR, if_neg hc, hi]; rfl
      unfold RSetPost
      rw [HE, HS]
      rw [hi] at hr hn CL
      rw [hq] at CN
      have hi0 : ¬ (i : Int) < 0 := by omega
      have hi52 : i < 52 := by omega
      have hii : (i : Int) < 52 := by omega
      clear HE HS h hi hr hn hq hc
      obtain ⟨n, t, b⟩ := p
      go_enter Tryz.func12, Tryz.ntmps12
      go_wp2_with (first
        | (go_at_call 28; refine (CL.out _).mono ?_; rintro e w' ⟨rfl, rfl⟩)
        | (go_at_call 29; refine (CN.out _).mono ?_; rintro e w2 ⟨rfl, hb2⟩))
      have hb : Below W.heap.size W w2 := ((Below.refl _ _).alloc (Nat.le_refl _) _).trans (hb2.mono (by simp))
      have hR2 := HR.out.below hb
      obtain ⟨c0, c1, c2, fz⟩ := hR2.cells hi52
      have hbk : w2.heap[W.heap.size]? = some (.cells #[.int .i32 n, str t, .bool b] 24 (0, 0)) := (hb2.block _ (by simp)).trans (alloc_new W _)
      have x0 := cell_of_row w2 _ 0 _ _ _ hbk
      have x1 := cell_of_row w2 _ 1 _ _ _ hbk
      have x2 := cell_of_row w2 _ 2 _ _ _ hbk
      have HB := Lib.hid hb
      have HR2 := Lib.hid hR2
      clear hb hb2 hR2 hbk
      go_region_law (fail)
      go_wp2_with fail
      go_ret
      with_reducible refine ⟨?_, HR2.out.put3 hi52 ⟨n, t, b⟩, (Touch.of_below HB.out).trans (touch_put3 _ _ _ _ _ _)⟩
      rfl
end Go.Proofs.YtgjebakjjgjojaaGreatDoor
