/-
  The reader of package tinfo: an entry on its way. No program is walked here, and nothing is assumed.
-/
import Derived.Test.YtcfgppjhgobboaaGreatDoorTiExt5
namespace Go.Proofs.YtcfgppjhgobboaaGreatDoor
open Go.RowKit Go.Shelf Go.Lib

theorem head_any (w : World) (rb : Nat) (A : Option Addr) (cap : Nat) (b : List UInt8) (size : Nat) (h : RdAt w rb (.slice A b.length cap) b 0 size) :
    Calls Tryz.prog 63 #[.pointer (some ⟨rb, 0, none⟩)] w (HeadPost w rb (.slice A b.length cap) b) := by
  by_cases hl : b.length < 12
  · exact head_short w rb _ b size h hl
  · exact head_long w rb A cap b size h hl
theorem ext_any (w : World) (rb : Nat) (A : Option Addr) (cap : Nat) (b : List UInt8) (p : Nat) (wide : Bool) (h : RdAt w rb (.slice A b.length cap) b p (sizeOf wide)) (hT : RobP (fun k => k = rb) w Tabs) :
    Calls Tryz.prog 71 #[.pointer (some ⟨rb, 0, none⟩)] w (ExtrPost w rb (.slice A b.length cap) b p wide) := by
  by_cases hl : b.length < p + 10
  · exact ext_short w rb A cap b p wide h hl
  · cases hf : firstBad 5 (extBad b p) with
    | some i => exact ext_counts w rb A cap b p wide h hl i hf
    | none => exact ext_long w rb A cap b p wide h hT hl hf
theorem RdAt.over {w W W' : World} {rb : Nat} {v : Value} {b : List UInt8} {p s p0 s0 : Nat} (h0 : RdAt w rb v b p0 s0) (h : RdAt W rb v b p s) (ht : Touch (fun k => k = rb) w W') (hb : W'.heap[rb]? = W.heap[rb]?) : RdAt W' rb v b p s :=
  ⟨hb.trans h.box, fun W2 h2 => h0.bytes W2 (ht.trans h2), h.pos⟩
theorem RobI.grow {T T' : Nat → Prop} {W W' : World} {u : Value} {l : List Int} (h : RobI T W u l) (ht : Touch T W W') (hT : ∀ k, k < W.heap.size → T' k → T k) : RobI T' W' u l := fun W2 h2 =>
  h W2 ⟨h2.os.trans ht.os, h2.tape.trans ht.tape, h2.output.trans ht.output, Nat.le_trans ht.size h2.size, fun k hk hn => (h2.block k (Nat.lt_of_lt_of_le hk ht.size) fun hx => hn (hT k hk hx)).trans (ht.block k hk hn)⟩

/-- an entry on its way: the reader, the counts, what has been read, the entry's box and the result's -/
structure TS (T : Nat → Prop) (w W : World) (rb : Nat) (v : Value) (b : List UInt8) (pos size ka oa cap : Nat) (P : World → Prop) (t2 t4 : Nat) (nm : List UInt8) (wd : Bool) (x0 x1 x2 xe : Value) : Prop where
  es : ES T w W rb v b pos size ka oa cap 2 P
  box : W.heap[t4]? = some (termObj nm wd x0 x1 x2 xe)
  res : W.heap[t2]? = some termZero
section
variable {T : Nat → Prop} {w W W' : World} {rb : Nat} {v : Value} {b : List UInt8} {pos pos' size ka oa cap t2 t4 : Nat} {P : World → Prop} {nm : List UInt8} {wd : Bool} {x0 x1 x2 xe : Value}
theorem TS.next (h : TS T w W rb v b pos size ka oa cap P t2 t4 nm wd x0 x1 x2 xe) (hT : T rb) (h2 : t2 ≠ rb) (h4 : t4 ≠ rb) (hs : Step W rb v b pos' size W') : TS T w W' rb v b pos' size ka oa cap P t2 t4 nm wd x0 x1 x2 xe :=
  ⟨h.es.next hT hs, (hs.2.block t4 (Array.getElem?_eq_some_iff.1 h.box).1 h4).trans h.box, (hs.2.block t2 (Array.getElem?_eq_some_iff.1 h.res).1 h2).trans h.res⟩
theorem TS.below (h : TS T w W rb v b pos size ka oa cap P t2 t4 nm wd x0 x1 x2 xe) (hb : Below W.heap.size W W') : TS T w W' rb v b pos size ka oa cap P t2 t4 nm wd x0 x1 x2 xe :=
  ⟨h.es.below hb, (hb.block _ (Array.getElem?_eq_some_iff.1 h.box).1).trans h.box, (hb.block _ (Array.getElem?_eq_some_iff.1 h.res).1).trans h.res⟩
theorem TS.addCaps {u : Value} {l : List CapD} (h : TS T w W rb v b pos size ka oa cap P t2 t4 nm wd x0 x1 x2 xe) (hq : Rob T W u l) : TS T w W rb v b pos size ka oa cap (fun W => P W ∧ CapsV W u l) t2 t4 nm wd x0 x1 x2 xe := ⟨h.es.addCaps hq, h.box, h.res⟩
theorem TS.addInts {u : Value} {l : List Int} (h : TS T w W rb v b pos size ka oa cap P t2 t4 nm wd x0 x1 x2 xe) (hq : RobI T W u l) : TS T w W rb v b pos size ka oa cap (fun W => P W ∧ IntsV W u l) t2 t4 nm wd x0 x1 x2 xe := ⟨h.es.addInts hq, h.box, h.res⟩
theorem TS.set {p0 s0 j : Nat} {x : Value} {nm' : List UInt8} {wd' : Bool} {y0 y1 y2 ye : Value} (h : TS T w W rb v b pos size ka oa cap P t2 t4 nm wd x0 x1 x2 xe) (h0 : RdAt w rb v b p0 s0) (hT : T t4) (h2 : t2 ≠ t4) (h4 : t4 ≠ rb) (hn : w.heap.size ≤ t4)
    (hrow : (#[str nm, .bool wd, x0, x1, x2, xe] : Array Value).setIfInBounds j x = #[str nm', .bool wd', y0, y1, y2, ye]) : TS T w (W.setCell ⟨t4, j, none⟩ x) rb v b pos size ka oa cap P t2 t4 nm' wd' y0 y1 y2 ye := by
  have ht : Touch (fun k => k = t4) W (W.setCell ⟨t4, j, none⟩ x) := Touch.setCell W ⟨t4, j, none⟩ _ rfl
  have hw : Touch (fun k => k = rb) w (W.setCell ⟨t4, j, none⟩ x) := touch_grow h.es.step.2 (ht.mono fun k _ hk => .inr (by omega))
  have hTt : Touch T W (W.setCell ⟨t4, j, none⟩ x) := ht.mono fun k _ hk => hk ▸ hT
  refine ⟨⟨⟨h0.over h.es.step.1 hw (ht.block rb h.es.step.1.lt (by omega)), hw⟩, h.es.cnts.next hTt, h.es.bag.next hTt⟩, ?_, (ht.block t2 (Array.getElem?_eq_some_iff.1 h.res).1 h2).trans h.res⟩
  have := heap_setCell_same W t4 j _ _ x h.box
  rw [hrow] at this
  exact this
theorem TS.cells (h : TS T w W rb v b pos size ka oa cap P t2 t4 nm wd x0 x1 x2 xe) :
    W.cell? ⟨t4, 0, none⟩ = some (str nm) ∧ W.cell? ⟨t4, 1, none⟩ = some (.bool wd) ∧ W.cell? ⟨t4, 2, none⟩ = some x0 ∧ W.cell? ⟨t4, 3, none⟩ = some x1 ∧ W.cell? ⟨t4, 4, none⟩ = some x2 ∧ W.cell? ⟨t4, 5, none⟩ = some xe ∧
    W.frozen? ⟨t4, 0, none⟩ = false ∧ W.frozen? ⟨t4, 2, none⟩ = false ∧ W.frozen? ⟨t4, 3, none⟩ = false ∧ W.frozen? ⟨t4, 4, none⟩ = false ∧ W.frozen? ⟨t4, 5, none⟩ = false :=
  ⟨cell_of_row W t4 0 _ _ _ h.box, cell_of_row W t4 1 _ _ _ h.box, cell_of_row W t4 2 _ _ _ h.box, cell_of_row W t4 3 _ _ _ h.box, cell_of_row W t4 4 _ _ _ h.box, cell_of_row W t4 5 _ _ _ h.box, frozen_of_row W t4 0 _ _ h.box, frozen_of_row W t4 2 _ _ h.box, frozen_of_row W t4 3 _ _ h.box, frozen_of_row W t4 4 _ _ h.box, frozen_of_row W t4 5 _ _ h.box⟩
end
theorem cnt_bd {b : List UInt8} (h : firstBad 5 (countBad b) = none) : (∀ i, i < 5 → 0 ≤ shortAt b (2 + 2 * i)) ∧ (1 ≤ cnt b 2 0 ∧ cnt b 2 0 ≤ 512) ∧ cnt b 2 1 ≤ 64 ∧ cnt b 2 2 ≤ 64 ∧ cnt b 2 3 ≤ 512 ∧ cnt b 2 4 ≤ 32767 := by
  have h0 := firstBad_none.1 h
  have each : ∀ i, i < 5 → 0 ≤ shortAt b (2 + 2 * i) ∧ shortAt b (2 + 2 * i) ≤ mostOf i := fun i hi => by
    have := h0 i hi
    unfold countBad at this
    simp only [Bool.or_eq_false_iff, decide_eq_false_iff_not] at this
    omega
  have hz := h0 0 (by omega)
  unfold countBad at hz
  simp only [Bool.or_eq_false_iff, decide_eq_false_iff_not] at hz
  have hz2 := hz.2
  simp at hz2
  have e0 := each 0 (by omega)
  have e1 := each 1 (by omega)
  have e2 := each 2 (by omega)
  have e3 := each 3 (by omega)
  have e4 := each 4 (by omega)
  simp only [mostOf, List.getD_cons_zero, List.getD_cons_succ] at e0 e1 e2 e3 e4
  unfold cnt
  refine ⟨fun i hi => (each i hi).1, ?_, ?_, ?_, ?_, ?_⟩
  · simp only [Nat.mul_zero, Nat.add_zero] at e0 ⊢
    omega
  all_goals omega
theorem lay1_eq (wide : Bool) (c : Nat → Nat) : lay1 wide c = ⟨12 + c 0, evenUp (12 + c 0 + c 1), evenUp (12 + c 0 + c 1) + c 2 * sizeOf wide, evenUp (12 + c 0 + c 1) + c 2 * sizeOf wide + c 3 * 2, evenUp (12 + c 0 + c 1) + c 2 * sizeOf wide + c 3 * 2 + c 4⟩ := by
  simp [lay1, Nat.mul_comm]
section
variable {b : List UInt8}
theorem readFirst_e1 (h : b.length < 12) : readFirst b = .error (b.length, 31) := by unfold readFirst; rw [if_pos h]
theorem readFirst_e2 (h : ¬ b.length < 12) (h2 : shortAt b 0 ≠ 282 ∧ shortAt b 0 ≠ 542) : readFirst b = .error (0, 30) := by unfold readFirst; rw [if_neg h, if_pos h2]
theorem readFirst_e3 {i : Nat} (h : ¬ b.length < 12) (h2 : ¬ (shortAt b 0 ≠ 282 ∧ shortAt b 0 ≠ 542)) (hf : firstBad 5 (countBad b) = some i) : readFirst b = .error (2 + 2 * i, 32) := by unfold readFirst; rw [if_neg h, if_neg h2, hf]
variable {wide : Bool}
theorem readFirst_e4 (h : ¬ b.length < 12) (h2 : ¬ (shortAt b 0 ≠ 282 ∧ shortAt b 0 ≠ 542)) (hf : firstBad 5 (countBad b) = none) (hw : decide (shortAt b 0 = 542) = wide) (hl : b.length < (lay1 wide (cnt b 2)).fin) : readFirst b = .error (b.length, 31) := by
  subst hw; unfold readFirst; rw [if_neg h, if_neg h2, hf]; simp only; rw [if_pos hl]
theorem readFirst_e5 (h : ¬ b.length < 12) (h2 : ¬ (shortAt b 0 ≠ 282 ∧ shortAt b 0 ≠ 542)) (hf : firstBad 5 (countBad b) = none) (hw : decide (shortAt b 0 = 542) = wide) (hl : ¬ b.length < (lay1 wide (cnt b 2)).fin) (hn : namesBad (part b 12 (cnt b 2 0)) = true) : readFirst b = .error (12, 33) := by
  subst hw; unfold readFirst; rw [if_neg h, if_neg h2, hf]; simp only; rw [if_neg hl, if_pos hn]
theorem readFirst_e6 {i : Nat} (h : ¬ b.length < 12) (h2 : ¬ (shortAt b 0 ≠ 282 ∧ shortAt b 0 ≠ 542)) (hf : firstBad 5 (countBad b) = none) (hw : decide (shortAt b 0 = 542) = wide) (hl : ¬ b.length < (lay1 wide (cnt b 2)).fin) (hn : namesBad (part b 12 (cnt b 2 0)) = false)
    (ht : firstBad (cnt b 2 3) (textBad (part b (lay1 wide (cnt b 2)).tab (cnt b 2 4)) (shortsAt b (lay1 wide (cnt b 2)).strs (cnt b 2 3))) = some i) : readFirst b = .error ((lay1 wide (cnt b 2)).strs + 2 * i, 33) := by
  subst hw; unfold readFirst; rw [if_neg h, if_neg h2, hf]; simp only; rw [if_neg hl, if_neg (by rw [hn]; decide)]
  unfold textBad at ht
  rw [ht]
theorem readFirst_ok (h : ¬ b.length < 12) (h2 : ¬ (shortAt b 0 ≠ 282 ∧ shortAt b 0 ≠ 542)) (hf : firstBad 5 (countBad b) = none) (hw : decide (shortAt b 0 = 542) = wide) (hl : ¬ b.length < (lay1 wide (cnt b 2)).fin) (hn : namesBad (part b 12 (cnt b 2 0)) = false)
    (ht : firstBad (cnt b 2 3) (textBad (part b (lay1 wide (cnt b 2)).tab (cnt b 2 4)) (shortsAt b (lay1 wide (cnt b 2)).strs (cnt b 2 3))) = none) :
    readFirst b = .ok (⟨(part b 12 (cnt b 2 0)).take (cnt b 2 0 - 1), wide, flagsAt b (lay1 wide (cnt b 2)).bools (cnt b 2 1), (numsAt wide b (lay1 wide (cnt b 2)).nums (cnt b 2 2)).map capOfNum, textsOf (part b (lay1 wide (cnt b 2)).tab (cnt b 2 4)) (shortsAt b (lay1 wide (cnt b 2)).strs (cnt b 2 3)), []⟩, (lay1 wide (cnt b 2)).fin) := by
  subst hw; unfold readFirst; rw [if_neg h, if_neg h2, hf]; simp only; rw [if_neg hl, if_neg (by rw [hn]; decide)]
  unfold textBad at ht
  rw [ht]
theorem readAll_e1 {q : Nat × Int} (h : readFirst b = .error q) : readAll b = .error q := by unfold readAll; rw [h]
theorem readAll_short {t : TermD} {fin : Nat} (h : readFirst b = .ok (t, fin)) (hl : b.length = fin ∨ b.length = evenUp fin) : readAll b = .ok t := by unfold readAll; rw [h]; simp only; rw [if_pos hl]
theorem readAll_e2 {t : TermD} {fin : Nat} {q : Nat × Int} (h : readFirst b = .ok (t, fin)) (hl : ¬ (b.length = fin ∨ b.length = evenUp fin)) (he : readExt t.wide b (evenUp fin) = .error q) : readAll b = .error q := by unfold readAll; rw [h]; simp only; rw [if_neg hl, he]
theorem readAll_e3 {t : TermD} {fin fin2 : Nat} {x : List ExtD} (h : readFirst b = .ok (t, fin)) (hl : ¬ (b.length = fin ∨ b.length = evenUp fin)) (he : readExt t.wide b (evenUp fin) = .ok (x, fin2)) (hr : fin2 < b.length) : readAll b = .error (fin2, 34) := by unfold readAll; rw [h]; simp only; rw [if_neg hl, he]; simp only; rw [if_pos hr]
theorem readAll_ok {t : TermD} {fin fin2 : Nat} {x : List ExtD} (h : readFirst b = .ok (t, fin)) (hl : ¬ (b.length = fin ∨ b.length = evenUp fin)) (he : readExt t.wide b (evenUp fin) = .ok (x, fin2)) (hr : ¬ fin2 < b.length) : readAll b = .ok { t with exts := x } := by unfold readAll; rw [h]; simp only; rw [if_neg hl, he]; simp only; rw [if_neg hr]
end
/-- behind the reading of an entry -/
def TermPost (w : World) (rb : Nat) (b : List UInt8) (e : Ending) (w' : World) : Prop :=
  Touch (fun k => k = rb) w w' ∧ match readAll b with
    | .error q => e = flawE q.1 q.2
    | .ok t => ∃ x0 x1 x2 xe, e = .returned (termVal t (tri x0 x1 x2) xe) ∧ RobT (fun k => k < w.heap.size) w' (tri x0 x1 x2) xe t
theorem TermPost.error {w w' : World} {rb : Nat} {b : List UInt8} {q : Nat} {er : Int} (h : readAll b = .error (q, er)) (ht : Touch (fun k => k = rb) w w') : TermPost w rb b (flawE q er) w' := ⟨ht, by rw [h]⟩
theorem TermPost.ok {w w' : World} {rb : Nat} {b : List UInt8} {t : TermD} {x0 x1 x2 xe : Value} (h : readAll b = .ok t) (ht : Touch (fun k => k = rb) w w') (hr : RobT (fun k => k < w.heap.size) w' (tri x0 x1 x2) xe t) : TermPost w rb b (.returned (termVal t (tri x0 x1 x2) xe)) w' :=
  ⟨ht, by rw [h]; exact ⟨x0, x1, x2, xe, rfl, hr⟩⟩
end Go.Proofs.YtcfgppjhgobboaaGreatDoor
