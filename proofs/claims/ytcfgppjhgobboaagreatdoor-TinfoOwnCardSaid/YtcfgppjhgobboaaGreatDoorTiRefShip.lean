/-
  Shipped of the document, the entry xterm.
-/
import Derived.Test.YtcfgppjhgobboaaGreatDoorTiRefTxt
import Derived.Test.YtcfgppjhgobboaaGreatDoorTiXt
namespace Go.Proofs.YtcfgppjhgobboaaGreatDoor
open Go.RowKit Go.Shelf Go.Lib
attribute [local go_sem] Oper.semAt_some

def vtText : List UInt8 := [98, 101, 108, 61, 7, 32, 99, 114, 61, 13, 32, 99, 117, 100, 49, 61, 10, 32, 105, 110, 100, 61, 10, 32, 99, 117, 98, 49, 61, 8, 32, 99, 117, 102, 49, 61, 27, 91, 67, 32, 99, 117, 117, 49, 61, 27, 91, 65, 32, 104, 111, 109, 101, 61, 27, 91, 72, 32, 99, 108, 101, 97, 114, 61, 27, 91, 72, 27, 91, 74, 32, 101, 108, 61, 27, 91, 75, 32, 101, 100, 61, 27, 91, 74, 32, 99, 117, 112, 61, 27, 91, 37, 105, 37, 112, 49, 37, 100, 59, 37, 112, 50, 37, 100, 72, 32, 99, 115, 114, 61, 27, 91, 37, 105, 37, 112, 49, 37, 100, 59, 37, 112, 50, 37, 100, 114, 32, 100, 99, 104, 49, 61, 27, 91, 80, 32, 100, 99, 104, 61, 27, 91, 37, 112, 49, 37, 100, 80, 32, 100, 108, 49, 61, 27, 91, 77, 32, 100, 108, 61, 27, 91, 37, 112, 49, 37, 100, 77, 32, 105, 108, 49, 61, 27, 91, 76, 32, 105, 108, 61, 27, 91, 37, 112, 49, 37, 100, 76, 32, 105, 99, 104, 61, 27, 91, 37, 112, 49, 37, 100, 64, 32, 101, 99, 104, 61, 27, 91, 37, 112, 49, 37, 100, 88, 32, 115, 109, 105, 114, 61, 27, 91, 52, 104, 32, 114, 109, 105, 114, 61, 27, 91, 52, 108, 32, 99, 117, 117, 61, 27, 91, 37, 112, 49, 37, 100, 65, 32, 99, 117, 100, 61, 27, 91, 37, 112, 49, 37, 100, 66, 32, 99, 117, 102, 61, 27, 91, 37, 112, 49, 37, 100, 67, 32, 99, 117, 98, 61, 27, 91, 37, 112, 49, 37, 100, 68, 32, 115, 103, 114, 48, 61, 27, 91, 109, 32, 114, 101, 118, 61, 27, 91, 55, 109, 32, 98, 111, 108, 100, 61, 27, 91, 49, 109, 32, 115, 109, 117, 108, 61, 27, 91, 52, 109, 32, 114, 109, 117, 108, 61, 27, 91, 50, 52, 109, 32, 114, 105, 61, 27, 77, 32, 115, 99, 61, 27, 55, 32, 114, 99, 61, 27, 56, 32, 110, 101, 108, 61, 27, 69, 32, 99, 110, 111, 114, 109, 61, 27, 91, 63, 50, 53, 104, 32, 99, 105, 118, 105, 115, 61, 27, 91, 63, 50, 53, 108, 32, 107, 99, 117, 98, 49, 61, 27, 91, 68, 32, 107, 99, 117, 102, 49, 61, 27, 91, 67, 32, 107, 99, 117, 117, 49, 61, 27, 91, 65, 32, 107, 99, 117, 100, 49, 61, 27, 91, 66, 32, 107, 100, 99, 104, 49, 61, 27, 91, 51, 126, 32, 107, 104, 111, 109, 101, 61, 27, 91, 49, 126, 32, 107, 101, 110, 100, 61, 27, 91, 52, 126, 32, 107, 98, 115, 61, 8]
def xtText : List UInt8 := [32, 107, 98, 115, 61, 127, 32, 107, 104, 111, 109, 101, 61, 27, 79, 72, 32, 107, 101, 110, 100, 61, 27, 79, 70, 32, 107, 99, 117, 98, 49, 61, 27, 79, 68, 32, 107, 99, 117, 102, 49, 61, 27, 79, 67, 32, 107, 99, 117, 117, 49, 61, 27, 79, 65, 32, 107, 99, 117, 100, 49, 61, 27, 79, 66, 32, 115, 109, 107, 120, 61, 27, 91, 63, 49, 104, 27, 61, 32, 114, 109, 107, 120, 61, 27, 91, 63, 49, 108, 27, 62, 32, 104, 112, 97, 61, 27, 91, 37, 105, 37, 112, 49, 37, 100, 71, 32, 118, 112, 97, 61, 27, 91, 37, 105, 37, 112, 49, 37, 100, 100, 32, 105, 99, 104, 49, 61, 27, 91, 64, 32, 105, 110, 100, 110, 61, 27, 91, 37, 112, 49, 37, 100, 83, 32, 114, 105, 110, 61, 27, 91, 37, 112, 49, 37, 100, 84, 32, 99, 98, 116, 61, 27, 91, 90]
def vtOn : List UInt8 := [97, 109, 32, 109, 105, 114, 32, 109, 115, 103, 114, 32, 120, 101, 110, 108]
def rv0 : TermD := { vt0 with bools := onP [] (fields vtOn) }
def rv1 : TermD := { rv0 with nums := placedP (placedP (placedP [] 0 ⟨1, 80, []⟩) 2 ⟨1, 24, []⟩) 1 ⟨1, 8, []⟩ }
def rv2 : TermD := { rv1 with strs := setR vtText.length [] vtText, names := xtNames }
def rv3 : TermD := { rv2 with nums := placedP (placedP rv2.nums 13 ⟨1, 8, []⟩) 14 ⟨1, 64, []⟩ }
theorem rv_is : (⟨xtNames, false, rv0.bools, placedP (placedP rv1.nums 13 ⟨1, 8, []⟩) 14 ⟨1, 64, []⟩, setR xtText.length (setR vtText.length [] vtText) xtText, []⟩ : TermD) = xtermP := by decide +kernel
theorem on_ok : ((fields vtOn).all fun n => (placeP n).isSome) = true ∧ (fields vtOn).length = 4 ∧ (vtOn.all fun b => decide (b.toNat < 128)) = true := by decide +kernel
theorem num_ok : placeP [99, 111, 108, 115] = some (1, 0) ∧ placeP [108, 105, 110, 101, 115] = some (1, 2) ∧ placeP [105, 116] = some (1, 1) ∧ placeP [99, 111, 108, 111, 114, 115] = some (1, 13) ∧ placeP [112, 97, 105, 114, 115] = some (1, 14) := by decide +kernel

theorem RobPost.open' {T : Nat → Prop} {w w' : World} {t : TermD} {e : Ending} (h : RobPost T w t e w') : ∃ nm wd l0 l1 l2 l3 A0 n0 A1 n1 A2 n2 A3 n3, Hid (t = ⟨nm, wd, l0, l1, l2, l3⟩) ∧
    e = .returned (.agg #[str nm, .bool wd, .slice A0 l0.length n0, .slice A1 l1.length n1, .slice A2 l2.length n2, .slice A3 l3.length n3]) ∧
    Hid (RobT T w' (tri (.slice A0 l0.length n0) (.slice A1 l1.length n1) (.slice A2 l2.length n2)) (.slice A3 l3.length n3) ⟨nm, wd, l0, l1, l2, l3⟩) ∧ Hid (Below w.heap.size w w') := by
  obtain ⟨u, ue, he, hr, hb⟩ := h
  obtain ⟨nm, wd, l0, l1, l2, l3⟩ := t
  obtain ⟨A0, n0, A1, n1, A2, n2, A3, n3, h1, _, r0, r1, r2, r3⟩ := hr.slices
  exact ⟨nm, wd, l0, l1, l2, l3, A0, n0, A1, n1, A2, n2, A3, n3, Lib.hid rfl, by rw [he, h1], Lib.hid (RobT.mk4 r0 r1 r2 r3), Lib.hid hb⟩
/-- the result's box, and the entry's behind it -/
structure Sh (w W : World) : Prop where
  box : ∃ cs, W.heap[w.heap.size + 1]? = some (.cells cs 26 (0, 0)) ∧ cs.size = 6
  res : W.heap[w.heap.size]? = some termZero
  below : Below w.heap.size w W
  tabs : Tabs W
def ShT (w : World) (k : Nat) : Prop := k = w.heap.size ∨ k = w.heap.size + 1
theorem ShT.lt {w W : World} (h : Sh w W) : ∀ k, ShT w k → k < W.heap.size := fun k hk => by
  obtain ⟨cs, h1, _⟩ := h.box
  have := (Array.getElem?_eq_some_iff.1 h1).1
  rcases hk with rfl | rfl <;> omega
theorem Sh.next {w W W' : World} (h : Sh w W) (hb : Below W.heap.size W W') : Sh w W' := by
  obtain ⟨cs, h1, h2⟩ := h.box
  exact ⟨⟨cs, (hb.block _ (Array.getElem?_eq_some_iff.1 h1).1).trans h1, h2⟩, (hb.block _ (Array.getElem?_eq_some_iff.1 h.res).1).trans h.res, h.below.trans (hb.mono h.below.size), h.tabs.below hb⟩
theorem Sh.set {w W : World} (h : Sh w W) (hT : Tabs w) (j : Nat) (u : Value) : Sh w (W.setCell ⟨w.heap.size + 1, j, none⟩ u) := by
  obtain ⟨cs, h1, h2⟩ := h.box
  have ht : Touch (fun k => k = w.heap.size + 1) W (W.setCell ⟨w.heap.size + 1, j, none⟩ u) := Touch.setCell (T := fun k => k = w.heap.size + 1) W ⟨w.heap.size + 1, j, none⟩ u rfl
  refine ⟨⟨_, heap_setCell_same W (w.heap.size + 1) j _ _ u h1, by simpa using h2⟩, (ht.block _ (Array.getElem?_eq_some_iff.1 h.res).1 (by omega)).trans h.res, ?_, h.tabs.touch ht fun k hk => by have := hT.lt; omega⟩
  exact (Touch.trans (Touch.of_below (T := fun k => w.heap.size ≤ k) h.below) (ht.mono fun k _ hk => by omega)).below (Nat.le_refl _) fun k hk => hk
abbrev set6 (W : World) (b : Nat) (a0 a1 a2 a3 a4 a5 : Value) : World := (((((W.setCell ⟨b, 0, none⟩ a0).setCell ⟨b, 1, none⟩ a1).setCell ⟨b, 2, none⟩ a2).setCell ⟨b, 3, none⟩ a3).setCell ⟨b, 4, none⟩ a4).setCell ⟨b, 5, none⟩ a5
theorem Sh.set6 {w W : World} (h : Sh w W) (hT : Tabs w) (a0 a1 a2 a3 a4 a5 : Value) : Sh w (set6 W (w.heap.size + 1) a0 a1 a2 a3 a4 a5) := (((((h.set hT 0 a0).set hT 1 a1).set hT 2 a2).set hT 3 a3).set hT 4 a4).set hT 5 a5
theorem touch_set6 (T : Nat → Prop) (W : World) (b : Nat) (hb : T b) (a0 a1 a2 a3 a4 a5 : Value) : Touch T W (set6 W b a0 a1 a2 a3 a4 a5) :=
  (((((Touch.setCell (T := T) W ⟨b, 0, none⟩ _ hb).trans (Touch.setCell _ ⟨b, 1, none⟩ _ hb)).trans (Touch.setCell _ ⟨b, 2, none⟩ _ hb)).trans (Touch.setCell _ ⟨b, 3, none⟩ _ hb)).trans (Touch.setCell _ ⟨b, 4, none⟩ _ hb)).trans (Touch.setCell _ ⟨b, 5, none⟩ _ hb)
/-- what a store into the box asks -/
theorem Sh.facts {w W : World} (h : Sh w W) : (∃ x, W.cell? ⟨w.heap.size + 1, 0, none⟩ = some x) ∧ (∃ x, W.cell? ⟨w.heap.size + 1, 1, none⟩ = some x) ∧ (∃ x, W.cell? ⟨w.heap.size + 1, 2, none⟩ = some x) ∧ (∃ x, W.cell? ⟨w.heap.size + 1, 3, none⟩ = some x) ∧ (∃ x, W.cell? ⟨w.heap.size + 1, 4, none⟩ = some x) ∧ (∃ x, W.cell? ⟨w.heap.size + 1, 5, none⟩ = some x) ∧
    W.frozen? ⟨w.heap.size + 1, 0, none⟩ = false ∧ W.frozen? ⟨w.heap.size + 1, 1, none⟩ = false ∧ W.frozen? ⟨w.heap.size + 1, 2, none⟩ = false ∧ W.frozen? ⟨w.heap.size + 1, 3, none⟩ = false ∧ W.frozen? ⟨w.heap.size + 1, 4, none⟩ = false ∧ W.frozen? ⟨w.heap.size + 1, 5, none⟩ = false := by
  obtain ⟨cs, h1, h2⟩ := h.box
  have hc : ∀ j, j < 6 → ∃ x, W.cell? ⟨w.heap.size + 1, j, none⟩ = some x := fun j hj => ⟨cs[j]'(by omega), by rw [cell_of_row W _ j _ _ _ h1]; exact Array.getElem?_eq_getElem (by omega)⟩
  exact ⟨hc 0 (by omega), hc 1 (by omega), hc 2 (by omega), hc 3 (by omega), hc 4 (by omega), hc 5 (by omega), frozen_of_row W _ 0 _ _ h1, frozen_of_row W _ 1 _ _ h1, frozen_of_row W _ 2 _ _ h1, frozen_of_row W _ 3 _ _ h1, frozen_of_row W _ 4 _ _ h1, frozen_of_row W _ 5 _ _ h1⟩
theorem Sh.made {w : World} (hT : Tabs w) (o : Array Value) (ho : o.size = 6) : Sh w ((w.alloc termZero).alloc (.cells o 26)) := by
  have hb : Below w.heap.size w ((w.alloc termZero).alloc (.cells o 26)) := ((Below.refl _ w).alloc (Nat.le_refl _) _).alloc (by simp) _
  refine ⟨⟨o, ?_, ho⟩, ?_, hb, hT.below hb⟩
  · have := World.alloc_heap_new (w.alloc termZero) (.cells o 26); rwa [World.size_alloc] at this
  · rw [Below.heap_alloc _ _ _ (by simp)]; exact World.alloc_heap_new w _
theorem RobT.renamed {T : Nat → Prop} {W : World} {v : Nat → Value} {ve : Value} {nm : List UInt8} {wd : Bool} {l0 l1 l2 : List CapD} {l3 : List ExtD} (h : RobT T W v ve ⟨nm, wd, l0, l1, l2, l3⟩) (nm' : List UInt8) : RobT T W v ve ⟨nm', wd, l0, l1, l2, l3⟩ := by
  refine ⟨fun i hi => ?_, h.exts⟩
  have := h.caps i hi
  match i, hi with
  | 0, _ => exact this
  | 1, _ => exact this
  | 2, _ => exact this
theorem RobT.nil (T : Nat → Prop) (W : World) (nm : List UInt8) (wd : Bool) : RobT T W (tri (.slice none 0 0) (.slice none 0 0) (.slice none 0 0)) (.slice none 0 0) ⟨nm, wd, [], [], [], []⟩ :=
  RobT.mk4 (fun _ _ => (CapRow.reads (l := []) (World.ownsRow_nil _ _ _ _) (by simp))) (fun _ _ => (CapRow.reads (l := []) (World.ownsRow_nil _ _ _ _) (by simp))) (fun _ _ => (CapRow.reads (l := []) (World.ownsRow_nil _ _ _ _) (by simp))) (fun _ _ => (ExtRow.reads (l := []) (World.ownsRow_nil _ _ _ _) (by simp)))

set_option maxRecDepth 100000 in
set_option maxHeartbeats 16000000 in
theorem refShip_any (w : World) (hT : Tabs w) : Calls Tryz.prog 20 #[str [120, 116, 101, 114, 109]] w fun e w' =>
    ∃ u ue, e = .returned (.tuple #[termVal xtermP u ue, .bool true]) ∧ TermV w' u ue xtermP ∧ Below w.heap.size w w' := by
  have hbz : ∀ w : World, (Instr.build 26 #[]).run Tryz.prog w = .ok (.agg #[.string ⟨#[]⟩, .bool false, .slice none 0 0, .slice none 0 0, .slice none 0 0, .slice none 0 0]) w := fun w => run_build w _ _ _ (by kernel_rfl)
  have HT := Lib.hid hT
  clear hT
  go_enter Tryz.func20, Tryz.ntmps20
  go_wp2_with fail
  have S0 := Lib.hid (Sh.made HT.out #[.string ⟨#[118, 116, 50, 50, 48, 124, 118, 116, 50, 48, 48, 124, 97, 32, 86, 84, 50, 50, 48]⟩, .bool false, .slice none 0 0, .slice none 0 0, .slice none 0 0, .slice none 0 0] rfl)
  refine (refOn_any _ (ShT w) (ShT.lt S0.out) ⟨vt0.names, false, [], [], [], []⟩ _ _ (RobT.nil _ _ _ _) S0.out.tabs vtOn (by decide) (fun j b hb => by have := List.all_eq_true.1 on_ok.2.2 b (List.mem_of_getElem? hb); simpa using this) on_ok.1 (by rw [on_ok.2.1]; decide)).mono ?_
  intro e Wa hp
  obtain ⟨nma, wda, l0a, l1a, l2a, l3a, A0a, n0a, A1a, n1a, A2a, n2a, A3a, n3a, Ea, rfl, Ra, Ba⟩ := hp.open'
  clear hp
  have Sa := Lib.hid (S0.out.next Ba.out)
  obtain ⟨⟨_, x0⟩, ⟨_, x1⟩, ⟨_, x2⟩, ⟨_, x3⟩, ⟨_, x4⟩, ⟨_, x5⟩, f0, f1, f2, f3, f4, f5⟩ := Sa.out.facts
  go_wp2_with fail
  clear x0 x1 x2 x3 x4 x5 f0 f1 f2 f3 f4 f5
  have Sa1 := Lib.hid (Sa.out.set6 HT.out (str nma) (.bool wda) (.slice A0a l0a.length n0a) (.slice A1a l1a.length n1a) (.slice A2a l2a.length n2a) (.slice A3a l3a.length n3a))
  have Ra1 := Lib.hid (Ra.out.next (touch_set6 (ShT w) Wa (w.heap.size + 1) (.inr rfl) (str nma) (.bool wda) (.slice A0a l0a.length n0a) (.slice A1a l1a.length n1a) (.slice A2a l2a.length n2a) (.slice A3a l3a.length n3a)))
  refine (refNum_any _ (ShT w) (ShT.lt Sa1.out) ⟨nma, wda, l0a, l1a, l2a, l3a⟩ _ _ Ra1.out Sa1.out.tabs [99, 111, 108, 115] 80 0 (by decide) num_ok.1).mono ?_
  intro e Wb hp
  obtain ⟨nmb, wdb, l0b, l1b, l2b, l3b, A0b, n0b, A1b, n1b, A2b, n2b, A3b, n3b, Eb, rfl, Rb, Bb⟩ := hp.open'
  clear hp
  have Sb := Lib.hid (Sa1.out.next Bb.out)
  go_wp2_with fail
  refine (refNum_any _ (ShT w) (ShT.lt Sb.out) ⟨nmb, wdb, l0b, l1b, l2b, l3b⟩ _ _ Rb.out Sb.out.tabs [108, 105, 110, 101, 115] 24 2 (by decide) num_ok.2.1).mono ?_
  intro e Wc hp
  obtain ⟨nmc, wdc, l0c, l1c, l2c, l3c, A0c, n0c, A1c, n1c, A2c, n2c, A3c, n3c, Ec, rfl, Rc, Bc⟩ := hp.open'
  clear hp
  have Sc := Lib.hid (Sb.out.next Bc.out)
  go_wp2_with fail
  refine (refNum_any _ (ShT w) (ShT.lt Sc.out) ⟨nmc, wdc, l0c, l1c, l2c, l3c⟩ _ _ Rc.out Sc.out.tabs [105, 116] 8 1 (by decide) num_ok.2.2.1).mono ?_
  intro e Wd hp
  obtain ⟨nmd, wdd, l0d, l1d, l2d, l3d, A0d, n0d, A1d, n1d, A2d, n2d, A3d, n3d, Ed, rfl, Rd, Bd⟩ := hp.open'
  clear hp
  have Sd := Lib.hid (Sc.out.next Bd.out)
  obtain ⟨⟨_, x0⟩, ⟨_, x1⟩, ⟨_, x2⟩, ⟨_, x3⟩, ⟨_, x4⟩, ⟨_, x5⟩, f0, f1, f2, f3, f4, f5⟩ := Sd.out.facts
  go_wp2_with fail
  clear x0 x1 x2 x3 x4 x5 f0 f1 f2 f3 f4 f5
  have Sd1 := Lib.hid (Sd.out.set6 HT.out (str nmd) (.bool wdd) (.slice A0d l0d.length n0d) (.slice A1d l1d.length n1d) (.slice A2d l2d.length n2d) (.slice A3d l3d.length n3d))
  have Rd1 := Lib.hid (Rd.out.next (touch_set6 (ShT w) Wd (w.heap.size + 1) (.inr rfl) (str nmd) (.bool wdd) (.slice A0d l0d.length n0d) (.slice A1d l1d.length n1d) (.slice A2d l2d.length n2d) (.slice A3d l3d.length n3d)))
  refine (refTxt_any _ (ShT w) (ShT.lt Sd1.out) ⟨nmd, wdd, l0d, l1d, l2d, l3d⟩ _ _ Rd1.out Sd1.out.tabs vtText (by decide)).mono ?_
  intro e We hp
  obtain ⟨nme, wde, l0e, l1e, l2e, l3e, A0e, n0e, A1e, n1e, A2e, n2e, A3e, n3e, Ee, rfl, Re, Be⟩ := hp.open'
  clear hp
  have Se := Lib.hid (Sd1.out.next Be.out)
  obtain ⟨⟨_, x0⟩, ⟨_, x1⟩, ⟨_, x2⟩, ⟨_, x3⟩, ⟨_, x4⟩, ⟨_, x5⟩, f0, f1, f2, f3, f4, f5⟩ := Se.out.facts
  go_wp2_with fail
  clear x0 x1 x2 x3 x4 x5 f0 f1 f2 f3 f4 f5
  have Se1 := Lib.hid (Se.out.set6 HT.out (str nme) (.bool wde) (.slice A0e l0e.length n0e) (.slice A1e l1e.length n1e) (.slice A2e l2e.length n2e) (.slice A3e l3e.length n3e))
  have Re1 := Lib.hid (Re.out.next (touch_set6 (ShT w) We (w.heap.size + 1) (.inr rfl) (str nme) (.bool wde) (.slice A0e l0e.length n0e) (.slice A1e l1e.length n1e) (.slice A2e l2e.length n2e) (.slice A3e l3e.length n3e)))
  have Se2 := Lib.hid (Se1.out.set HT.out 0 (str [120, 116, 101, 114, 109, 124, 97, 110, 32, 88, 32, 116, 101, 114, 109, 105, 110, 97, 108]))
  have Re2 := Lib.hid (RobT.renamed (Re1.out.next (Touch.setCell (T := ShT w) (set6 We (w.heap.size + 1) (str nme) (.bool wde) (.slice A0e l0e.length n0e) (.slice A1e l1e.length n1e) (.slice A2e l2e.length n2e) (.slice A3e l3e.length n3e)) ⟨w.heap.size + 1, 0, none⟩ (str [120, 116, 101, 114, 109, 124, 97, 110, 32, 88, 32, 116, 101, 114, 109, 105, 110, 97, 108]) (.inr rfl))) [120, 116, 101, 114, 109, 124, 97, 110, 32, 88, 32, 116, 101, 114, 109, 105, 110, 97, 108])
  refine (refNum_any _ (ShT w) (ShT.lt Se2.out) ⟨[120, 116, 101, 114, 109, 124, 97, 110, 32, 88, 32, 116, 101, 114, 109, 105, 110, 97, 108], wde, l0e, l1e, l2e, l3e⟩ _ _ Re2.out Se2.out.tabs [99, 111, 108, 111, 114, 115] 8 13 (by decide) num_ok.2.2.2.1).mono ?_
  intro e Wf hp
  obtain ⟨nmf, wdf, l0f, l1f, l2f, l3f, A0f, n0f, A1f, n1f, A2f, n2f, A3f, n3f, Ef, rfl, Rf, Bf⟩ := hp.open'
  clear hp
  have Sf := Lib.hid (Se2.out.next Bf.out)
  go_wp2_with fail
  refine (refNum_any _ (ShT w) (ShT.lt Sf.out) ⟨nmf, wdf, l0f, l1f, l2f, l3f⟩ _ _ Rf.out Sf.out.tabs [112, 97, 105, 114, 115] 64 14 (by decide) num_ok.2.2.2.2).mono ?_
  intro e Wg hp
  obtain ⟨nmg, wdg, l0g, l1g, l2g, l3g, A0g, n0g, A1g, n1g, A2g, n2g, A3g, n3g, Eg, rfl, Rg, Bg⟩ := hp.open'
  clear hp
  have Sg := Lib.hid (Sf.out.next Bg.out)
  obtain ⟨⟨_, x0⟩, ⟨_, x1⟩, ⟨_, x2⟩, ⟨_, x3⟩, ⟨_, x4⟩, ⟨_, x5⟩, f0, f1, f2, f3, f4, f5⟩ := Sg.out.facts
  go_wp2_with fail
  clear x0 x1 x2 x3 x4 x5 f0 f1 f2 f3 f4 f5
  have Sg1 := Lib.hid (Sg.out.set6 HT.out (str nmg) (.bool wdg) (.slice A0g l0g.length n0g) (.slice A1g l1g.length n1g) (.slice A2g l2g.length n2g) (.slice A3g l3g.length n3g))
  have Rg1 := Lib.hid (Rg.out.next (touch_set6 (ShT w) Wg (w.heap.size + 1) (.inr rfl) (str nmg) (.bool wdg) (.slice A0g l0g.length n0g) (.slice A1g l1g.length n1g) (.slice A2g l2g.length n2g) (.slice A3g l3g.length n3g)))
  refine (refTxt_any _ (ShT w) (ShT.lt Sg1.out) ⟨nmg, wdg, l0g, l1g, l2g, l3g⟩ _ _ Rg1.out Sg1.out.tabs xtText (by decide)).mono ?_
  intro e Wh hp
  obtain ⟨nmh, wdh, l0h, l1h, l2h, l3h, A0h, n0h, A1h, n1h, A2h, n2h, A3h, n3h, Eh, rfl, Rh, Bh⟩ := hp.open'
  clear hp
  have Sh1 := Lib.hid (Sg1.out.next Bh.out)
  obtain ⟨⟨_, x0⟩, ⟨_, x1⟩, ⟨_, x2⟩, ⟨_, x3⟩, ⟨_, x4⟩, ⟨_, x5⟩, f0, f1, f2, f3, f4, f5⟩ := Sh1.out.facts
  obtain ⟨d0, d1, d2, d3, d4, d5, g0, g1, g2, g3, g4, g5⟩ := termZero_facts Sh1.out.res
  go_wp2_with fail
  clear x0 x1 x2 x3 x4 x5 f0 f1 f2 f3 f4 f5
  clear d0 d1 d2 d3 d4 d5 g0 g1 g2 g3 g4 g5
  have Sh2 := Lib.hid (Sh1.out.set6 HT.out (str nmh) (.bool wdh) (.slice A0h l0h.length n0h) (.slice A1h l1h.length n1h) (.slice A2h l2h.length n2h) (.slice A3h l3h.length n3h))
  have HX : (⟨nmh, wdh, l0h, l1h, l2h, l3h⟩ : TermD) = xtermP := by
    have ha := Ea.out
    have hb := Eb.out
    have hc := Ec.out
    have hd := Ed.out
    have he := Ee.out
    have hf := Ef.out
    have hg := Eg.out
    have hh := Eh.out
    injection ha with x1 x2 x3 x4 x5 x6
    subst x1 x2 x3 x4 x5 x6
    injection hb with x1 x2 x3 x4 x5 x6
    subst x1 x2 x3 x4 x5 x6
    injection hc with x1 x2 x3 x4 x5 x6
    subst x1 x2 x3 x4 x5 x6
    injection hd with x1 x2 x3 x4 x5 x6
    subst x1 x2 x3 x4 x5 x6
    injection he with x1 x2 x3 x4 x5 x6
    subst x1 x2 x3 x4 x5 x6
    injection hf with x1 x2 x3 x4 x5 x6
    subst x1 x2 x3 x4 x5 x6
    injection hg with x1 x2 x3 x4 x5 x6
    subst x1 x2 x3 x4 x5 x6
    injection hh with x1 x2 x3 x4 x5 x6
    subst x1 x2 x3 x4 x5 x6
    exact rv_is
  have hres := fun j => cell_of_row (storeTerm (set6 Wh (w.heap.size + 1) (str nmh) (.bool wdh) (.slice A0h l0h.length n0h) (.slice A1h l1h.length n1h) (.slice A2h l2h.length n2h) (.slice A3h l3h.length n3h)) w.heap.size ⟨nmh, wdh, l0h, l1h, l2h, l3h⟩ (tri (.slice A0h l0h.length n0h) (.slice A1h l1h.length n1h) (.slice A2h l2h.length n2h)) (.slice A3h l3h.length n3h)) w.heap.size j _ _ _ (storeTerm_box Sh2.out.res)
  have ht := storeTerm_touch (set6 Wh (w.heap.size + 1) (str nmh) (.bool wdh) (.slice A0h l0h.length n0h) (.slice A1h l1h.length n1h) (.slice A2h l2h.length n2h) (.slice A3h l3h.length n3h)) w.heap.size ⟨nmh, wdh, l0h, l1h, l2h, l3h⟩ (tri (.slice A0h l0h.length n0h) (.slice A1h l1h.length n1h) (.slice A2h l2h.length n2h)) (.slice A3h l3h.length n3h)
  have hfin := (Rh.out.next (touch_set6 (ShT w) Wh (w.heap.size + 1) (.inr rfl) (str nmh) (.bool wdh) (.slice A0h l0h.length n0h) (.slice A1h l1h.length n1h) (.slice A2h l2h.length n2h) (.slice A3h l3h.length n3h))).next (ht.mono fun k _ hk => .inl hk)
  have hbel : Below w.heap.size w (storeTerm (set6 Wh (w.heap.size + 1) (str nmh) (.bool wdh) (.slice A0h l0h.length n0h) (.slice A1h l1h.length n1h) (.slice A2h l2h.length n2h) (.slice A3h l3h.length n3h)) w.heap.size ⟨nmh, wdh, l0h, l1h, l2h, l3h⟩ (tri (.slice A0h l0h.length n0h) (.slice A1h l1h.length n1h) (.slice A2h l2h.length n2h)) (.slice A3h l3h.length n3h)) := (Touch.trans (Touch.of_below (T := fun k => w.heap.size ≤ k) Sh2.out.below) (ht.mono fun k _ hk => by omega)).below (Nat.le_refl _) fun k hk => hk
  change bodyPost _ _ _ _ _ (storeTerm (set6 Wh (w.heap.size + 1) (str nmh) (.bool wdh) (.slice A0h l0h.length n0h) (.slice A1h l1h.length n1h) (.slice A2h l2h.length n2h) (.slice A3h l3h.length n3h)) w.heap.size ⟨nmh, wdh, l0h, l1h, l2h, l3h⟩ (tri (.slice A0h l0h.length n0h) (.slice A1h l1h.length n1h) (.slice A2h l2h.length n2h)) (.slice A3h l3h.length n3h))
  generalize storeTerm (set6 Wh (w.heap.size + 1) (str nmh) (.bool wdh) (.slice A0h l0h.length n0h) (.slice A1h l1h.length n1h) (.slice A2h l2h.length n2h) (.slice A3h l3h.length n3h)) w.heap.size ⟨nmh, wdh, l0h, l1h, l2h, l3h⟩ (tri (.slice A0h l0h.length n0h) (.slice A1h l1h.length n1h) (.slice A2h l2h.length n2h)) (.slice A3h l3h.length n3h) = W' at *
  simp only [List.getElem?_toArray] at hres
  refine bodyPost_ret (v := .tuple #[termVal ⟨nmh, wdh, l0h, l1h, l2h, l3h⟩ (tri (.slice A0h l0h.length n0h) (.slice A1h l1h.length n1h) (.slice A2h l2h.length n2h)) (.slice A3h l3h.length n3h), .bool true]) (by simp [results, Tryz.results20, go_sem, hres]) rfl ?_
  rw [HX] at hfin
  exact ⟨_, _, by rw [HX], hfin.val, hbel⟩
end Go.Proofs.YtcfgppjhgobboaaGreatDoor
