/-
  The law on variables: what it walks.
-/
import Derived.Test.YtgjebakjjgjojaaGreatDoorTpVars3
import Derived.Test.YtgjebakjjgjojaaGreatDoorTpBegun
import Derived.Shelf.RegionOpen
namespace Go.Proofs.YtgjebakjjgjojaaGreatDoor
open Go.RowKit Go.Shelf Go.Lib Go.Maps
attribute [local go_sem] Oper.semAt_some

/-- the program's variables, the document's, and that they are the same -/
structure Pair (W : World) (vb bm rb : Nat) (es : List VE) (a : Nat → PrmD) : Prop where
  vars : VarsS W vb bm es
  ref : RefAt W rb a
  agree : Agree es a
theorem Pair.below {W W' : World} {vb bm rb : Nat} {es : List VE} {a : Nat → PrmD} (h : Pair W vb bm rb es a) (hb : Below W.heap.size W W') : Pair W' vb bm rb es a := ⟨h.vars.below hb, h.ref.below hb, h.agree⟩
def PairPost (W : World) (es : List VE) (a : Nat → PrmD) (e : Ending) (w' : World) : Prop := ∃ vb bm rb, (W.heap.size ≤ vb ∧ W.heap.size ≤ bm ∧ W.heap.size ≤ rb ∧ vb ≠ rb ∧ bm ≠ rb) ∧ e = .returned (.tuple #[.pointer (some ⟨vb, 0, none⟩), .pointer (some ⟨rb, 0, none⟩)]) ∧ Pair w' vb bm rb es a ∧ Below W.heap.size W w'
theorem pair_any (W : World) (A : Option Addr) (cap : Nat) (l : List PrmD) (h : ArgP W A cap l) :
    Calls Tryz.prog 7 #[.slice A l.length cap] W (PairPost W (vGo l 0 vInit).1 (vGo l 0 vInit).2) := by
  refine (vars_any W A cap l h).mono ?_
  rintro e w' ⟨rb, h1, h2, h3, h4, h5⟩
  exact ⟨_, _, rb, ⟨by omega, by omega, by omega, by omega, by omega⟩, h2, ⟨h3, h4, agree_go l 0 vInit agree_init⟩, h5⟩
def ClonePost (W : World) (es : List VE) (e : Ending) (w' : World) : Prop := ∃ ub um, (W.heap.size ≤ ub ∧ W.heap.size ≤ um) ∧ e = .returned (.pointer (some ⟨ub, 0, none⟩)) ∧ VarsS w' ub um es ∧ Below W.heap.size W w'
theorem clonePair_any (W : World) (vb bm : Nat) (es : List VE) (h : VarsS W vb bm es) : Calls Tryz.prog 10 #[.pointer (some ⟨vb, 0, none⟩)] W (ClonePost W es) := by
  refine (varClone_any W vb bm es h).mono ?_
  rintro e w' ⟨h1, h2, h3⟩
  exact ⟨_, _, ⟨by omega, by omega⟩, h1, h2, h3⟩
/-- behind the clone: the pair, the clone, the parameter's box -/
structure Mid (w W : World) (vb bm rb ub um : Nat) (es es0 : List VE) (a : Nat → PrmD) (n : Int) (t : List UInt8) (b : Bool) : Prop where
  vars : VarsS W vb bm es
  ref : RefAt W rb a
  clone : VarsS W ub um es0
  box : W.heap[w.heap.size]? = some (.cells #[.int .i32 n, str t, .bool b] 24 (0, 0))
  bel : Below w.heap.size w W
  own : w.heap.size < vb ∧ w.heap.size < bm ∧ w.heap.size < rb ∧ vb ≠ rb ∧ bm ≠ rb ∧ ub ≠ bm ∧ um ≠ bm ∧ ub ≠ rb ∧ um ≠ rb
section
variable {w W W' : World} {vb bm rb ub um : Nat} {es es' es0 : List VE} {a a' : Nat → PrmD} {n : Int} {t : List UInt8} {b : Bool}
theorem Mid.drew (h : Mid w W vb bm rb ub um es es0 a n t b) : Mid w W.drew vb bm rb ub um es es0 a n t b := ⟨h.vars.drew, h.ref.same rfl, h.clone.drew, h.box, h.bel.drew, h.own⟩
theorem Mid.setV (h : Mid w W vb bm rb ub um es es0 a n t b) (hv : VarsS W' vb bm es') (hT : Touch (fun k => k = bm) W W') : Mid w W' vb bm rb ub um es' es0 a n t b := by
  obtain ⟨o1, o2, o3, o4, o5, o6, o7, o8, o9⟩ := h.own
  exact ⟨hv, h.ref.same (hT.block _ h.ref.lt fun e => o5 e.symm), h.clone.same (hT.block _ h.clone.at.lt.1 o6) (hT.block _ h.clone.at.lt.2 o7), (hT.block _ (Array.getElem?_eq_some_iff.1 h.box).1 (by omega)).trans h.box, h.bel.trans (hT.below h.bel.size fun k hk => by omega), h.own⟩
theorem Mid.setR (h : Mid w W vb bm rb ub um es es0 a n t b) (hr : RefAt W' rb a') (hT : Touch (fun k => k = rb) W W') : Mid w W' vb bm rb ub um es es0 a' n t b := by
  obtain ⟨o1, o2, o3, o4, o5, o6, o7, o8, o9⟩ := h.own
  exact ⟨h.vars.same (hT.block _ h.vars.at.lt.1 o4) (hT.block _ h.vars.at.lt.2 o5), hr, h.clone.same (hT.block _ h.clone.at.lt.1 o8) (hT.block _ h.clone.at.lt.2 o9), (hT.block _ (Array.getElem?_eq_some_iff.1 h.box).1 (by omega)).trans h.box, h.bel.trans (hT.below h.bel.size fun k hk => by omega), h.own⟩
theorem Mid.cells (h : Mid w W vb bm rb ub um es es0 a n t b) : W.cell? ⟨w.heap.size, 0, none⟩ = some (.int .i32 n) ∧ W.cell? ⟨w.heap.size, 1, none⟩ = some (str t) ∧ W.cell? ⟨w.heap.size, 2, none⟩ = some (.bool b) :=
  ⟨cell_of_row _ _ 0 _ _ _ h.box, cell_of_row _ _ 1 _ _ _ h.box, cell_of_row _ _ 2 _ _ _ h.box⟩
end
theorem mid_start {w w2 w3 w4 w5 : World} {vb bm rb ub um : Nat} {es : List VE} {a : Nat → PrmD} {n : Int} {t : List UInt8} {b : Bool}
    (o1 : (w.alloc (.cells #[.int .i32 n, str t, .bool b] 24)).heap.size ≤ vb ∧ (w.alloc (.cells #[.int .i32 n, str t, .bool b] 24)).heap.size ≤ bm ∧ (w.alloc (.cells #[.int .i32 n, str t, .bool b] 24)).heap.size ≤ rb ∧ vb ≠ rb ∧ bm ≠ rb)
    (hP : Pair w2 vb bm rb es a) (b2 : Below (w.alloc (.cells #[.int .i32 n, str t, .bool b] 24)).heap.size (w.alloc (.cells #[.int .i32 n, str t, .bool b] 24)) w2) (b3 : Below w2.heap.size w2 w3) (b4 : Below w3.heap.size w3 w4)
    (o5 : w4.heap.size ≤ ub ∧ w4.heap.size ≤ um) (hS : VarsS w5 ub um es) (b5 : Below w4.heap.size w4 w5) : Mid w w5 vb bm rb ub um es es a n t b := by
  have s1 : (w.alloc (.cells #[.int .i32 n, str t, .bool b] 24)).heap.size = w.heap.size + 1 := by simp
  have b24 : Below w2.heap.size w2 w5 := (b3.trans (b4.mono b3.size)).trans (b5.mono (Nat.le_trans b3.size b4.size))
  have hP5 := hP.below b24
  have hlt : w2.heap.size ≤ w4.heap.size := Nat.le_trans b3.size b4.size
  have l1 := hP.vars.at.lt
  have l2 := hP.ref.lt
  rw [s1] at o1
  have b0 : Below w.heap.size w w2 := ((Below.refl _ _).alloc (Nat.le_refl _) _).trans (b2.mono (by omega))
  refine ⟨hP5.vars, hP5.ref, hS, ?_, b0.trans (b24.mono b0.size), ⟨by omega, by omega, by omega, o1.2.2.2.1, o1.2.2.2.2, by omega, by omega, by omega, by omega⟩⟩
  have hk : w2.heap[w.heap.size]? = some (.cells #[.int .i32 n, str t, .bool b] 24 (0, 0)) := (b2.block _ (by omega)).trans (alloc_new w _)
  exact (b24.block _ (by have := (Array.getElem?_eq_some_iff.1 hk).1; exact this)).trans hk

set_option maxRecDepth 100000 in
set_option maxHeartbeats 4000000 in
theorem vars_walk (w : World) (A : Option Addr) (cap : Nat) (l : List PrmD) (h : ArgP w A cap l) (c : UInt8) (p : PrmD) (hp : Pow w) :
    Calls Tryz.prog 3 #[.slice A l.length cap, .int .u8 (c.toNat : Int), prmVal p] w fun e w' => e = .returned (.bool true) ∧ Below w.heap.size w w' := by
  obtain ⟨n, t, b⟩ := p
  have hba : Below w.heap.size w (w.alloc (.cells #[.int .i32 n, str t, .bool b] 24)) := (Below.refl _ _).alloc (Nat.le_refl _) _
  have CV1 := Lib.hid (pair_any (w.alloc (.cells #[.int .i32 n, str t, .bool b] 24)) A cap l (h.below hba))
  have CV := Lib.hid (fun (W : World) (hW : Below w.heap.size w W) => pair_any W A cap l (h.below hW))
  have CB := Lib.hid (fun (W : World) (hW : Below w.heap.size w W) => begun_any W (hp.below hW))
  have HBA := Lib.hid hba
  unfold BegunPost at CB
  unfold PairPost at CV1 CV
  generalize (vGo l 0 vInit).1 = es at *
  generalize (vGo l 0 vInit).2 = a at *
  have HE := Lib.hid (setE_same c ⟨n, t, b⟩)
  obtain ⟨k, hk⟩ : ∃ k, setE c ⟨n, t, b⟩ = k := ⟨_, rfl⟩
  have HK1 := Lib.hid hk
  have HK2 := Lib.hid (HE.out.symm.trans hk)
  clear h hp hba hk
  go_enter Tryz.func3, Tryz.ntmps3
  go_wp2_with (first
    | (go_at_call 7; refine (CV1.out).mono ?_; rintro e w2 ⟨vb, bm, rb, ho, rfl, hP2, hb2⟩; have HO := Lib.hid ho; have HP2 := Lib.hid hP2; have HB2 := Lib.hid hb2; clear ho hP2 hb2)
    | (go_at_call 8; refine (CB.out _ (HBA.out.trans (HB2.out.mono HBA.out.size))).mono ?_; rintro e w3 ⟨rfl, hb3⟩; have HP3 := Lib.hid (HP2.out.below hb3); have HB3 := Lib.hid hb3; clear hb3)
    | (go_at_call 9; refine (same_any _ vb bm rb es a HP3.out.vars HP3.out.ref HP3.out.agree).mono ?_; rintro e w4 ⟨rfl, hb4⟩; have HP4 := Lib.hid (HP3.out.below hb4); have HB4 := Lib.hid hb4; clear hb4)
    | (go_at_call 10; refine (clonePair_any _ vb bm es HP4.out.vars).mono ?_; rintro e w5 ⟨ub, um, ho5, rfl, hS5, hb5⟩; have HM := Lib.hid (mid_start HO.out HP2.out HB2.out HB3.out HB4.out ho5 hS5 hb5); clear ho5 hS5 hb5))
  have CS := Lib.hid (varSet_any w5.drew vb bm es c ⟨n, t, b⟩ HM.out.drew.vars)
  unfold SetPost at CS
  have ⟨k0, k1, k2⟩ := HM.out.cells
  go_region_held3 (fun w' => w'.cell? ⟨w.heap.size, 0, none⟩ = some (.int .i32 n) ∧ w'.cell? ⟨w.heap.size, 1, none⟩ = some (str t) ∧ w'.cell? ⟨w.heap.size, 2, none⟩ = some (.bool b)) (first | go_keep | (refine ⟨?_, ?_, ?_⟩ <;> assumption)) (first
    | (go_at_call 11; refine (CS.out).mono ?_; rintro e w6 ⟨rfl, hS6, hT6⟩; rw [HK1.out]; have hM6 := HM.out.drew.setV hS6 hT6; obtain ⟨x0, x1, x2⟩ := hM6.cells; have HM6 := Lib.hid hM6; clear hS6 hT6 hM6)
    | (go_at_call 12; refine (refSet_any w6 rb a c ⟨n, t, b⟩ HM6.out.ref).mono ?_; rintro e w7 ⟨rfl, hR7, hT7⟩; rw [HK2.out]; have hM7 := HM6.out.setR hR7 hT7; obtain ⟨y0, y1, y2⟩ := hM7.cells; have HM7 := Lib.hid hM7; clear hR7 hT7 hM7)
    | (go_at_call 9; refine (same_any _ vb bm rb _ _ HM7.out.vars HM7.out.ref (HP2.out.agree.set c ⟨n, t, b⟩)).mono ?_; rintro e w8 ⟨rfl, hb8⟩; have z0 := (hb8.cell (p := ⟨w.heap.size, 0, none⟩) (Array.getElem?_eq_some_iff.1 HM7.out.box).1).trans y0; have z1 := (hb8.cell (p := ⟨w.heap.size, 1, none⟩) (Array.getElem?_eq_some_iff.1 HM7.out.box).1).trans y1; have z2 := (hb8.cell (p := ⟨w.heap.size, 2, none⟩) (Array.getElem?_eq_some_iff.1 HM7.out.box).1).trans y2; have HB8 := Lib.hid (HM7.out.bel.trans (hb8.mono HM7.out.bel.size)); have HC8 := Lib.hid (HM7.out.clone.below hb8); clear hb8))
  all_goals
    go_wp2_with (first
      | (go_at_call 7; refine (CV.out _ HB8.out).mono ?_; rintro e w9 ⟨vb', bm', rb', _, rfl, hP9, hb9⟩; have HP9 := Lib.hid hP9; have HB9 := Lib.hid hb9; clear hP9 hb9)
      | (go_at_call 9; refine (same_any _ ub um rb' es a (HC8.out.below HB9.out) HP9.out.ref HP9.out.agree).mono ?_; rintro e w10 ⟨rfl, hb10⟩; have HB10 := Lib.hid hb10; clear hb10))
    go_ret
    exact ⟨rfl, (HB8.out.trans (HB9.out.mono HB8.out.size)).trans (HB10.out.mono (Nat.le_trans HB8.out.size HB9.out.size))⟩
end Go.Proofs.YtgjebakjjgjojaaGreatDoor
