/-
  What Set of package tinfo returns.
-/
import Derived.Test.YtcfgppjhgobboaaGreatDoorTiClone2
namespace Go.Proofs.YtcfgppjhgobboaaGreatDoor
open Go.RowKit Go.Shelf Go.Lib
attribute [local go_sem] Oper.semAt_some

def term0 : TermD := ⟨[], false, [], [], [], []⟩
/-- what setting makes, or what is wrong -/
def setP (t : TermD) (name : List UInt8) (c : CapD) : TermD × Int := match putTP t name c with
  | none => (term0, 4)
  | some u => if checkP u = 0 then (u, 0) else (term0, checkP u)
def SetPost (w : World) (r : TermD × Int) (e : Ending) (w' : World) : Prop := ∃ u ue, e = .returned (.tuple #[termVal r.1 u ue, .int .i64 r.2]) ∧ TermRows w' w.heap.size u ue r.1 ∧ Below w.heap.size w w'
def tri (a b c : Value) (i : Nat) : Value := if i = 0 then a else if i = 1 then b else c
theorem tri_is {u : Nat → Value} {i : Nat} (hi : i < 3) : tri (u 0) (u 1) (u 2) i = u i := by
  match i, hi with
  | 0, _ | 1, _ | 2, _ => rfl
theorem TermRows.tri {W : World} {B : Nat} {u : Nat → Value} {ue : Value} {t : TermD} (h : TermRows W B u ue t) : TermRows W B (tri (u 0) (u 1) (u 2)) ue t := by
  refine ⟨fun i hi => ?_, h.exts, fun i hi => ?_, h.owne, fun i j hi hj => ?_, fun i hi => ?_⟩
  · rw [tri_is hi]; exact h.rows i hi
  · rw [tri_is hi]; exact h.own i hi
  · rw [tri_is hi, tri_is hj]; exact h.apart i j hi hj
  · rw [tri_is hi]; exact h.aparte i hi
theorem TermRows.forms {W : World} {B : Nat} {u : Nat → Value} {ue : Value} {t : TermD} (h : TermRows W B u ue t) :
    ∃ A0 c0 A1 c1 A2 c2 Ae ce, u 0 = .slice A0 t.bools.length c0 ∧ u 1 = .slice A1 t.nums.length c1 ∧ u 2 = .slice A2 t.strs.length c2 ∧ ue = .slice Ae t.exts.length ce := by
  obtain ⟨A0, c0, e0⟩ := (h.rows 0 (by omega)).form
  obtain ⟨A1, c1, e1⟩ := (h.rows 1 (by omega)).form
  obtain ⟨A2, c2, e2⟩ := (h.rows 2 (by omega)).form
  obtain ⟨Ae, ce, ee⟩ := h.exts.form
  exact ⟨A0, c0, A1, c1, A2, c2, Ae, ce, e0, e1, e2, ee⟩
theorem TermRows.zero (W : World) (B : Nat) : TermRows W B (Go.Proofs.YtcfgppjhgobboaaGreatDoor.tri (.slice none 0 0) (.slice none 0 0) (.slice none 0 0)) (.slice none 0 0) term0 := by
  refine ⟨fun i hi => ?_, World.ownsRow_nil _ _ _ _, fun i hi b hb => ?_, fun b hb => (by cases hb), fun i j hi hj hne b hb => ?_, fun i hi b hb => ?_⟩
  · match i, hi with
    | 0, _ | 1, _ | 2, _ => exact World.ownsRow_nil _ _ _ _
  all_goals
    match i, hi with
    | 0, _ | 1, _ | 2, _ => cases hb
theorem TermRows.same {W W' : World} {B : Nat} {u : Nat → Value} {ue : Value} {t : TermD} (h : TermRows W B u ue t) (hb : ∀ k, B ≤ k → k < W.heap.size → W'.heap[k]? = W.heap[k]?) : TermRows W' B u ue t :=
  ⟨fun i hi => own_same (h.rows i hi) fun k hk => hb k (h.own i hi k hk) (own_lt (h.rows i hi) k hk).2, own_same h.exts fun k hk => hb k (h.owne k hk) (own_lt h.exts k hk).2, h.own, h.owne, h.apart, h.aparte⟩
theorem TermRows.more {W : World} {B B' : Nat} {u : Nat → Value} {ue : Value} {t : TermD} (h : TermRows W B u ue t) (hB : B' ≤ B) : TermRows W B' u ue t :=
  ⟨h.rows, h.exts, fun i hi k hk => Nat.le_trans hB (h.own i hi k hk), fun k hk => Nat.le_trans hB (h.owne k hk), h.apart, h.aparte⟩
theorem storeTerm_box2 {W : World} {b : Nat} {t : TermD} {v : Nat → Value} {ve : Value} {nm : List UInt8} {wd : Bool} {p q r s : Value} (h : W.heap[b]? = some (termObj nm wd p q r s)) : (storeTerm W b t v ve).heap[b]? = some (.cells #[str t.names, .bool t.wide, v 0, v 1, v 2, ve] 26 (0, 0)) := by
  have s0 := heap_setCell_same W b 0 _ _ (str t.names) h
  have s1 := heap_setCell_same _ b 1 _ _ (.bool t.wide) s0
  have s2 := heap_setCell_same _ b 2 _ _ (v 0) s1
  have s3 := heap_setCell_same _ b 3 _ _ (v 1) s2
  have s4 := heap_setCell_same _ b 4 _ _ (v 2) s3
  exact heap_setCell_same _ b 5 _ _ ve s4
/-- an entry's box over rows of its own -/
theorem TermRows.at {W : World} {B b : Nat} {u : Nat → Value} {ue : Value} {t : TermD} {nm : List UInt8} {wd : Bool} {p q r s : Value} (h : TermRows W B u ue t) (hbox : W.heap[b]? = some (termObj nm wd p q r s)) (hb : b < B) :
    TermAt (storeTerm W b t u ue) (fun k => k = b ∨ B ≤ k) b u ue t := by
  have ht := storeTerm_touch W b t u ue
  exact ⟨storeTerm_box2 hbox, fun i hi => own_same (h.rows i hi) fun k hk => ht.block k (own_lt (h.rows i hi) k hk).2 (by have := h.own i hi k hk; omega), own_same h.exts fun k hk => ht.block k (own_lt h.exts k hk).2 (by have := h.owne k hk; omega), .inl rfl,
    fun i hi k hk => by have := h.own i hi k hk; exact ⟨.inr this, by omega⟩, fun k hk => by have := h.owne k hk; exact ⟨.inr this, by omega⟩, h.apart, h.aparte⟩
theorem TermAt.rowsOf {W : World} {FP : Nat → Prop} {tb B : Nat} {v : Nat → Value} {ve : Value} {t : TermD} (h : TermAt W FP tb v ve t) (hF : ∀ k, FP k → k ≠ tb → B ≤ k) : TermRows W B v ve t :=
  ⟨h.rows, h.exts, fun i hi k hk => hF k (h.own i hi k hk).1 (h.own i hi k hk).2, fun k hk => hF k (h.owne k hk).1 (h.owne k hk).2, h.apart, h.aparte⟩
/-- how long the lists of an entry may be -/
def Fits (t : TermD) : Prop := (∀ i : Nat, i < 3 → (listOf t i).length * 32 ≤ 140737488355328) ∧ t.exts.length * 56 ≤ 140737488355328
theorem TermV.fits {W : World} {v : Nat → Value} {ve : Value} {t : TermD} (h : TermV W v ve t) : Fits t := ⟨fun i hi => by obtain ⟨_, _, _, hs⟩ := (h.caps i hi).form; exact hs, by obtain ⟨_, _, _, hs⟩ := h.exts.form; exact hs⟩
theorem TermRows.reads {W : World} {B : Nat} {v : Nat → Value} {ve : Value} {t : TermD} (h : TermRows W B v ve t) (hf : Fits t) : TermV W v ve t := ⟨fun i hi => (h.rows i hi).reads (hf.1 i hi), h.exts.reads hf.2⟩
theorem placedP_length (l : List CapD) (n : Nat) (c : CapD) : (placedP l n c).length = max l.length (n + 1) := by
  unfold placedP
  simp
  omega
theorem fits_put {t u : TermD} {name : List UInt8} {c : CapD} (h : Fits t) (hp : putTP t name c = some u) : Fits u := by
  unfold putTP at hp
  split at hp
  · next k n hq =>
    obtain ⟨hk, hn0, hn⟩ := placeP_small hq
    injection hp with hp
    subst hp
    obtain ⟨k', hk', rfl⟩ : ∃ k' : Nat, k' < 3 ∧ k = k' := ⟨k.toNat, by omega, by omega⟩
    refine ⟨fun i hi => ?_, by rw [(withList_rest t _ _).2.2]; exact h.2⟩
    rw [withList_of t k' hk' _ i hi]
    split
    · rw [placedP_length]
      have := h.1 k' hk'
      omega
    · exact h.1 i hi
  · split at hp
    · injection hp with hp
      subst hp
      exact ⟨h.1, by simpa using h.2⟩
    · cases hp

structure SetS (w W : World) (nm : List UInt8) (wd : Bool) (p q r s : Value) (c : CapD) : Prop where
  box : W.heap[w.heap.size]? = some (termObj nm wd p q r s)
  cap : W.heap[w.heap.size + 1]? = some (.cells #[.int .i64 c.st, .int .i64 c.num, str c.text] 37 (0, 0))
  res : W.heap[w.heap.size + 1 + 1]? = some termZero
  below : Below w.heap.size w W
  tabs : Tabs W
theorem SetS.made (w : World) (hT : Tabs w) (nm : List UInt8) (wd : Bool) (p q r s : Value) (c : CapD) : SetS w (((w.alloc (termObj nm wd p q r s)).alloc (.cells #[.int .i64 c.st, .int .i64 c.num, str c.text] 37)).alloc termZero) nm wd p q r s c := by
  have hb : Below w.heap.size w (((w.alloc (termObj nm wd p q r s)).alloc (.cells #[.int .i64 c.st, .int .i64 c.num, str c.text] 37)).alloc termZero) := (((Below.refl _ w).alloc (Nat.le_refl _) _).alloc (by simp) _).alloc (by simp; omega) _
  refine ⟨?_, ?_, ?_, hb, hT.below hb⟩
  · rw [Below.heap_alloc _ _ _ (by simp; omega), Below.heap_alloc _ _ _ (by simp)]; exact World.alloc_heap_new w _
  · rw [Below.heap_alloc _ _ _ (by simp)]; have := World.alloc_heap_new (w.alloc (termObj nm wd p q r s)) (.cells #[.int .i64 c.st, .int .i64 c.num, str c.text] 37); rwa [World.size_alloc] at this
  · have := World.alloc_heap_new ((w.alloc (termObj nm wd p q r s)).alloc (.cells #[.int .i64 c.st, .int .i64 c.num, str c.text] 37)) termZero; rwa [World.size_alloc, World.size_alloc] at this
theorem SetS.next {w W W' : World} {nm : List UInt8} {wd : Bool} {p q r s : Value} {c : CapD} (h : SetS w W nm wd p q r s c) (hb : Below W.heap.size W W') : SetS w W' nm wd p q r s c :=
  ⟨(hb.block _ (Array.getElem?_eq_some_iff.1 h.box).1).trans h.box, (hb.block _ (Array.getElem?_eq_some_iff.1 h.cap).1).trans h.cap, (hb.block _ (Array.getElem?_eq_some_iff.1 h.res).1).trans h.res, h.below.trans (hb.mono h.below.size), h.tabs.below hb⟩
theorem SetS.cells {w W : World} {nm : List UInt8} {wd : Bool} {p q r s : Value} {c : CapD} (h : SetS w W nm wd p q r s c) :
    W.cell? ⟨w.heap.size, 0, none⟩ = some (str nm) ∧ W.cell? ⟨w.heap.size, 1, none⟩ = some (.bool wd) ∧ W.cell? ⟨w.heap.size, 2, none⟩ = some p ∧ W.cell? ⟨w.heap.size, 3, none⟩ = some q ∧ W.cell? ⟨w.heap.size, 4, none⟩ = some r ∧ W.cell? ⟨w.heap.size, 5, none⟩ = some s ∧ (∀ j, W.frozen? ⟨w.heap.size, j, none⟩ = false) ∧
    W.cell? ⟨w.heap.size + 1, 0, none⟩ = some (.int .i64 c.st) ∧ W.cell? ⟨w.heap.size + 1, 1, none⟩ = some (.int .i64 c.num) ∧ W.cell? ⟨w.heap.size + 1, 2, none⟩ = some (str c.text) :=
  ⟨cell_of_row W _ 0 _ _ _ h.box, cell_of_row W _ 1 _ _ _ h.box, cell_of_row W _ 2 _ _ _ h.box, cell_of_row W _ 3 _ _ _ h.box, cell_of_row W _ 4 _ _ _ h.box, cell_of_row W _ 5 _ _ _ h.box, fun j => frozen_of_row W _ j _ _ h.box, cell_of_row W _ 0 _ _ _ h.cap, cell_of_row W _ 1 _ _ _ h.cap, cell_of_row W _ 2 _ _ _ h.cap⟩

theorem put_some {w : World} {FP : Nat → Prop} {tb : Nat} {v : Nat → Value} {ve : Value} {t u : TermD} {name : List UInt8} {c : CapD} (hp : putTP t name c = some u) (h : TermAt w FP tb v ve t) (hT : Tabs w) (hf : Fits t) :
    Calls Tryz.prog 52 #[.pointer (some ⟨tb, 0, none⟩), str name, capVal c] w fun e w' => ∃ v' ve', e = .returned (.bool true) ∧ TermAt w' (fun k => FP k ∨ w.heap.size ≤ k) tb v' ve' u ∧ Touch FP w w' := by
  refine (put_any w FP tb v ve t name c h hT hf.2).mono ?_
  rintro e w' ⟨v', ve', he, h1, h2⟩
  rw [hp] at he h1
  exact ⟨v', ve', he, h1, h2⟩
theorem put_none {w : World} {FP : Nat → Prop} {tb : Nat} {v : Nat → Value} {ve : Value} {t : TermD} {name : List UInt8} {c : CapD} (hp : putTP t name c = none) (h : TermAt w FP tb v ve t) (hT : Tabs w) (hf : Fits t) :
    Calls Tryz.prog 52 #[.pointer (some ⟨tb, 0, none⟩), str name, capVal c] w fun e w' => ∃ v' ve', e = .returned (.bool false) ∧ TermAt w' (fun k => FP k ∨ w.heap.size ≤ k) tb v' ve' t ∧ Touch FP w w' := by
  refine (put_any w FP tb v ve t name c h hT hf.2).mono ?_
  rintro e w' ⟨v', ve', he, h1, h2⟩
  rw [hp] at he h1
  exact ⟨v', ve', he, h1, h2⟩
/-- behind put -/
structure PutS (w W : World) (v : Nat → Value) (ve : Value) (u : TermD) : Prop where
  box : W.heap[w.heap.size]? = some (termObj u.names u.wide (v 0) (v 1) (v 2) ve)
  res : W.heap[w.heap.size + 1 + 1]? = some termZero
  below : Below w.heap.size w W
  tabs : Tabs W
  rows : TermRows W (w.heap.size + 3) v ve u
theorem PutS.next {w W W' : World} {v : Nat → Value} {ve : Value} {u : TermD} (h : PutS w W v ve u) (hb : Below W.heap.size W W') : PutS w W' v ve u :=
  ⟨(hb.block _ (Array.getElem?_eq_some_iff.1 h.box).1).trans h.box, (hb.block _ (Array.getElem?_eq_some_iff.1 h.res).1).trans h.res, h.below.trans (hb.mono h.below.size), h.tabs.below hb, h.rows.same fun k _ hk => hb.block k hk⟩
theorem PutS.made {w W1 W3 : World} {nm : List UInt8} {wd : Bool} {p q r s : Value} {c : CapD} {t u : TermD} {x v : Nat → Value} {xe ve : Value} (hT : Tabs w) (h : SetS w W1 nm wd p q r s c)
    (h1 : TermAt W3 (fun k => (k = w.heap.size ∨ w.heap.size + 3 ≤ k) ∨ (storeTerm W1 w.heap.size t x xe).heap.size ≤ k) w.heap.size v ve u) (h2 : Touch (fun k => k = w.heap.size ∨ w.heap.size + 3 ≤ k) (storeTerm W1 w.heap.size t x xe) W3) : PutS w W3 v ve u := by
  have ht := storeTerm_touch W1 w.heap.size t x xe
  have hr := (Array.getElem?_eq_some_iff.1 h.res).1
  have hs := ht.size
  have hb : Below w.heap.size w W3 := ((Touch.of_below (T := fun k => w.heap.size ≤ k) h.below).trans ((ht.mono fun k _ hk => by omega).trans (h2.mono fun k _ hk => by omega))).below (Nat.le_refl _) fun k hk => hk
  refine ⟨h1.cells, (h2.block _ (by omega) (by omega)).trans ((ht.block _ hr (by omega)).trans h.res), hb, hT.below hb, h1.rowsOf fun k hk hne => ?_⟩
  rcases hk with (hk | hk) | hk
  · exact absurd hk hne
  · exact hk
  · omega
theorem PutS.cells {w W : World} {v : Nat → Value} {ve : Value} {u : TermD} (h : PutS w W v ve u) :
    W.cell? ⟨w.heap.size, 0, none⟩ = some (str u.names) ∧ W.cell? ⟨w.heap.size, 1, none⟩ = some (.bool u.wide) ∧ W.cell? ⟨w.heap.size, 2, none⟩ = some (v 0) ∧ W.cell? ⟨w.heap.size, 3, none⟩ = some (v 1) ∧ W.cell? ⟨w.heap.size, 4, none⟩ = some (v 2) ∧ W.cell? ⟨w.heap.size, 5, none⟩ = some ve :=
  ⟨cell_of_row W _ 0 _ _ _ h.box, cell_of_row W _ 1 _ _ _ h.box, cell_of_row W _ 2 _ _ _ h.box, cell_of_row W _ 3 _ _ _ h.box, cell_of_row W _ 4 _ _ _ h.box, cell_of_row W _ 5 _ _ _ h.box⟩
/-- the answer, in its box -/
theorem PutS.done {w W : World} {v : Nat → Value} {ve : Value} {u : TermD} (h : PutS w W v ve u) {r : TermD} {y : Nat → Value} {ye : Value} (hr : TermRows W (w.heap.size + 3) y ye r) :
    TermRows (storeTerm W (w.heap.size + 1 + 1) r y ye) w.heap.size y ye r ∧ Below w.heap.size w (storeTerm W (w.heap.size + 1 + 1) r y ye) := by
  have ht := storeTerm_touch W (w.heap.size + 1 + 1) r y ye
  exact ⟨(hr.same fun k hk hl => ht.block k hl (by omega)).more (by omega), (Touch.trans (Touch.of_below (T := fun k => w.heap.size ≤ k) h.below) (ht.mono fun k _ hk => by omega)).below (Nat.le_refl _) fun k hk => hk⟩

set_option maxRecDepth 100000 in
set_option maxHeartbeats 4000000 in
theorem set_any (w : World) (t : TermD) (v : Nat → Value) (ve : Value) (h : TermV w v ve t) (hT : Tabs w) (name : List UInt8) (c : CapD) : Calls Tryz.prog 14 #[termVal t v ve, str name, capVal c] w (SetPost w (setP t name c)) := by
  have hS := SetS.made w hT t.names t.wide (v 0) (v 1) (v 2) ve c
  have CC := Lib.hid (clone_any _ t v ve (h.below hS.below))
  have HF := Lib.hid h.fits
  have HS0 := Lib.hid hS
  have HT := Lib.hid hT
  have hbz : ∀ w : World, (Instr.build 26 #[]).run Tryz.prog w = .ok (.agg #[.string ⟨#[]⟩, .bool false, .slice none 0 0, .slice none 0 0, .slice none 0 0, .slice none 0 0]) w := fun w => run_build w _ _ _ (by kernel_rfl)
  obtain ⟨c0, c1, c2, c3, c4, c5, fz, k0, k1, k2⟩ := hS.cells
  have f0 := fz 0
  have f1 := fz 1
  have f2 := fz 2
  have f3 := fz 3
  have f4 := fz 4
  have f5 := fz 5
  clear hS h hT fz
  unfold termVal at CC ⊢
  unfold clonePost at CC
  cases hp : putTP t name c with
  | none =>
    have HV : Hid (setP t name c = (term0, 4)) := Lib.hid (by rw [setP, hp])
    have HP := Lib.hid hp
    clear hp
    go_enter Tryz.func14, Tryz.ntmps14
    go_wp2_with (first
      | (go_at_call 51; refine (CC.out).mono ?_; rintro e W1 ⟨qu, que, he, hr, hb⟩; obtain ⟨A0, m0, A1, m1, A2, m2, A3, m3, e0, e1, e2, e3⟩ := hr.forms; have hr' := hr.tri; rw [e0, e1, e2, e3] at hr'; have he' : e = .returned (.agg #[str t.names, .bool t.wide, .slice A0 t.bools.length m0, .slice A1 t.nums.length m1, .slice A2 t.strs.length m2, .slice A3 t.exts.length m3]) := (by rw [he, termVal, e0, e1, e2, e3]); clear he; subst he'; have HS1 := Lib.hid (HS0.out.next hb); have HR := Lib.hid (hr'.at HS1.out.box (by have := HS0.out.below.size; have := (Array.getElem?_eq_some_iff.1 HS0.out.res).1; omega)); have HT2 := Lib.hid (HS1.out.tabs.touch (storeTerm_touch W1 w.heap.size t (tri (.slice A0 t.bools.length m0) (.slice A1 t.nums.length m1) (.slice A2 t.strs.length m2)) (.slice A3 t.exts.length m3)) (fun k hk => by have := HT.out.lt; omega)); have HB1 := Lib.hid hb; clear hr hr' hb e0 e1 e2 e3 c0 c1 c2 c3 c4 c5 k0 k1 k2 f0 f1 f2 f3 f4 f5; obtain ⟨c0, c1, c2, c3, c4, c5, fz, k0, k1, k2⟩ := HS1.out.cells; have f0 := fz 0; have f1 := fz 1; have f2 := fz 2; have f3 := fz 3; have f4 := fz 4; have f5 := fz 5; clear fz)
      | (go_at_call 52; refine (put_none HP.out HR.out HT2.out HF.out).mono ?_; rintro e w3 ⟨v', ve', rfl, h1, h2⟩; have HQ := Lib.hid (PutS.made HT.out HS1.out (h1.more (fun k _ hk => by simp only [World.size_alloc] at hk; omega)) (h2.mono (fun k _ hk => by simp only [World.size_alloc] at hk; omega))); have HZ := Lib.hid HQ.out.res; obtain ⟨d0, d1, d2, d3, d4, d5, g0, g1, g2, g3, g4, g5⟩ := termZero_facts HQ.out.res; clear h1 h2 c0 c1 c2 c3 c4 c5 k0 k1 k2 f0 f1 f2 f3 f4 f5))
    obtain ⟨r1, r2⟩ := HQ.out.done (TermRows.zero _ _)
    have hres := fun j => cell_of_row (storeTerm w3 (w.heap.size + 1 + 1) term0 (tri (.slice none 0 0) (.slice none 0 0) (.slice none 0 0)) (.slice none 0 0)) (w.heap.size + 1 + 1) j _ _ _ (storeTerm_box HZ.out)
    change bodyPost _ _ _ _ _ (storeTerm w3 (w.heap.size + 1 + 1) term0 (tri (.slice none 0 0) (.slice none 0 0) (.slice none 0 0)) (.slice none 0 0))
    generalize storeTerm w3 (w.heap.size + 1 + 1) term0 (tri (.slice none 0 0) (.slice none 0 0) (.slice none 0 0)) (.slice none 0 0) = W' at *
    simp only [List.getElem?_toArray] at hres
    refine bodyPost_ret (v := .tuple #[termVal term0 (tri (.slice none 0 0) (.slice none 0 0) (.slice none 0 0)) (.slice none 0 0), .int .i64 4]) (by simp [results, Tryz.results14, go_sem, hres]) rfl ?_
    exact ⟨_, _, by rw [HV.out], by rw [HV.out]; exact r1, r2⟩
  | some u =>
    have HP := Lib.hid hp
    have HFU := Lib.hid (fits_put HF.out hp)
    by_cases hc : checkP u = 0
    · have HV : Hid (setP t name c = (u, 0)) := Lib.hid (by rw [setP, hp]; simp only [hc, if_true])
      have HC := Lib.hid hc
      clear hp
      go_enter Tryz.func14, Tryz.ntmps14
      go_wp2_with (first
        | (go_at_call 51; refine (CC.out).mono ?_; rintro e W1 ⟨qu, que, he, hr, hb⟩; obtain ⟨A0, m0, A1, m1, A2, m2, A3, m3, e0, e1, e2, e3⟩ := hr.forms; have hr' := hr.tri; rw [e0, e1, e2, e3] at hr'; have he' : e = .returned (.agg #[str t.names, .bool t.wide, .slice A0 t.bools.length m0, .slice A1 t.nums.length m1, .slice A2 t.strs.length m2, .slice A3 t.exts.length m3]) := (by rw [he, termVal, e0, e1, e2, e3]); clear he; subst he'; have HS1 := Lib.hid (HS0.out.next hb); have HR := Lib.hid (hr'.at HS1.out.box (by have := HS0.out.below.size; have := (Array.getElem?_eq_some_iff.1 HS0.out.res).1; omega)); have HT2 := Lib.hid (HS1.out.tabs.touch (storeTerm_touch W1 w.heap.size t (tri (.slice A0 t.bools.length m0) (.slice A1 t.nums.length m1) (.slice A2 t.strs.length m2)) (.slice A3 t.exts.length m3)) (fun k hk => by have := HT.out.lt; omega)); have HB1 := Lib.hid hb; clear hr hr' hb e0 e1 e2 e3 c0 c1 c2 c3 c4 c5 k0 k1 k2 f0 f1 f2 f3 f4 f5; obtain ⟨c0, c1, c2, c3, c4, c5, fz, k0, k1, k2⟩ := HS1.out.cells; have f0 := fz 0; have f1 := fz 1; have f2 := fz 2; have f3 := fz 3; have f4 := fz 4; have f5 := fz 5; clear fz)
        | (go_at_call 52; refine (put_some HP.out HR.out HT2.out HF.out).mono ?_; rintro e w3 ⟨v', ve', rfl, h1, h2⟩; have hq := PutS.made HT.out HS1.out (h1.more (fun k _ hk => by simp only [World.size_alloc] at hk; omega)) (h2.mono (fun k _ hk => by simp only [World.size_alloc] at hk; omega)); obtain ⟨A0', m0', A1', m1', A2', m2', A3', m3', e0, e1, e2, e3⟩ := hq.rows.forms; have HQ := Lib.hid hq; have HX := Lib.hid (And.intro e0 (And.intro e1 (And.intro e2 e3))); have CH := Lib.hid (check_any w3 u v' ve' (hq.rows.reads HFU.out) hq.tabs); clear c0 c1 c2 c3 c4 c5 k0 k1 k2 f0 f1 f2 f3 f4 f5; obtain ⟨c0, c1, c2, c3, c4, c5⟩ := hq.cells; rw [termVal, e0, e1, e2, e3, HC.out] at CH; rw [e0] at c2; rw [e1] at c3; rw [e2] at c4; rw [e3] at c5; clear h1 h2 hq e0 e1 e2 e3)
        | (go_at_call 33; refine (CH.out).mono ?_; rintro e w4 ⟨rfl, hb4⟩; have hq4 := HQ.out.next hb4; clear c0 c1 c2 c3 c4 c5; obtain ⟨c0, c1, c2, c3, c4, c5⟩ := hq4.cells; rw [HX.out.1] at c2; rw [HX.out.2.1] at c3; rw [HX.out.2.2.1] at c4; rw [HX.out.2.2.2] at c5; have HQ4 := Lib.hid hq4; obtain ⟨d0, d1, d2, d3, d4, d5, g0, g1, g2, g3, g4, g5⟩ := termZero_facts hq4.res; clear hb4 hq4 CH))
      obtain ⟨r1, r2⟩ := HQ4.out.done HQ4.out.rows
      rw [← HX.out.1, ← HX.out.2.1, ← HX.out.2.2.1, ← HX.out.2.2.2]
      have hres := fun j => cell_of_row (storeTerm w4 (w.heap.size + 1 + 1) u v' ve') (w.heap.size + 1 + 1) j _ _ _ (storeTerm_box HQ4.out.res)
      change bodyPost _ _ _ _ _ (storeTerm w4 (w.heap.size + 1 + 1) u v' ve')
      generalize storeTerm w4 (w.heap.size + 1 + 1) u v' ve' = W' at *
      simp only [List.getElem?_toArray] at hres
      refine bodyPost_ret (v := .tuple #[termVal u v' ve', .int .i64 0]) (by simp [results, Tryz.results14, go_sem, hres]) rfl ?_
      exact ⟨_, _, by rw [HV.out], by rw [HV.out]; exact r1, r2⟩
    · have HV : Hid (setP t name c = (term0, checkP u)) := Lib.hid (by rw [setP, hp]; simp only [hc, if_false])
      clear hp
      obtain ⟨er, her⟩ : ∃ er, checkP u = er := ⟨_, rfl⟩
      have HER := Lib.hid her
      rw [her] at HV hc
      clear her
      go_enter Tryz.func14, Tryz.ntmps14
      go_wp2_with (first
        | (go_at_call 51; refine (CC.out).mono ?_; rintro e W1 ⟨qu, que, he, hr, hb⟩; obtain ⟨A0, m0, A1, m1, A2, m2, A3, m3, e0, e1, e2, e3⟩ := hr.forms; have hr' := hr.tri; rw [e0, e1, e2, e3] at hr'; have he' : e = .returned (.agg #[str t.names, .bool t.wide, .slice A0 t.bools.length m0, .slice A1 t.nums.length m1, .slice A2 t.strs.length m2, .slice A3 t.exts.length m3]) := (by rw [he, termVal, e0, e1, e2, e3]); clear he; subst he'; have HS1 := Lib.hid (HS0.out.next hb); have HR := Lib.hid (hr'.at HS1.out.box (by have := HS0.out.below.size; have := (Array.getElem?_eq_some_iff.1 HS0.out.res).1; omega)); have HT2 := Lib.hid (HS1.out.tabs.touch (storeTerm_touch W1 w.heap.size t (tri (.slice A0 t.bools.length m0) (.slice A1 t.nums.length m1) (.slice A2 t.strs.length m2)) (.slice A3 t.exts.length m3)) (fun k hk => by have := HT.out.lt; omega)); have HB1 := Lib.hid hb; clear hr hr' hb e0 e1 e2 e3 c0 c1 c2 c3 c4 c5 k0 k1 k2 f0 f1 f2 f3 f4 f5; obtain ⟨c0, c1, c2, c3, c4, c5, fz, k0, k1, k2⟩ := HS1.out.cells; have f0 := fz 0; have f1 := fz 1; have f2 := fz 2; have f3 := fz 3; have f4 := fz 4; have f5 := fz 5; clear fz)
        | (go_at_call 52; refine (put_some HP.out HR.out HT2.out HF.out).mono ?_; rintro e w3 ⟨v', ve', rfl, h1, h2⟩; have hq := PutS.made HT.out HS1.out (h1.more (fun k _ hk => by simp only [World.size_alloc] at hk; omega)) (h2.mono (fun k _ hk => by simp only [World.size_alloc] at hk; omega)); obtain ⟨A0', m0', A1', m1', A2', m2', A3', m3', e0, e1, e2, e3⟩ := hq.rows.forms; have HQ := Lib.hid hq; have HX := Lib.hid (And.intro e0 (And.intro e1 (And.intro e2 e3))); have CH := Lib.hid (check_any w3 u v' ve' (hq.rows.reads HFU.out) hq.tabs); rw [HER.out] at CH; clear c0 c1 c2 c3 c4 c5 k0 k1 k2 f0 f1 f2 f3 f4 f5; obtain ⟨c0, c1, c2, c3, c4, c5⟩ := hq.cells; rw [termVal, e0, e1, e2, e3] at CH; rw [e0] at c2; rw [e1] at c3; rw [e2] at c4; rw [e3] at c5; clear h1 h2 hq e0 e1 e2 e3)
        | (go_at_call 33; refine (CH.out).mono ?_; rintro e w4 ⟨rfl, hb4⟩; have hq4 := HQ.out.next hb4; clear c0 c1 c2 c3 c4 c5; obtain ⟨c0, c1, c2, c3, c4, c5⟩ := hq4.cells; rw [HX.out.1] at c2; rw [HX.out.2.1] at c3; rw [HX.out.2.2.1] at c4; rw [HX.out.2.2.2] at c5; have HQ4 := Lib.hid hq4; obtain ⟨d0, d1, d2, d3, d4, d5, g0, g1, g2, g3, g4, g5⟩ := termZero_facts hq4.res; clear hb4 hq4 CH))
      obtain ⟨r1, r2⟩ := HQ4.out.done (TermRows.zero _ _)
      have hres := fun j => cell_of_row (storeTerm w4 (w.heap.size + 1 + 1) term0 (tri (.slice none 0 0) (.slice none 0 0) (.slice none 0 0)) (.slice none 0 0)) (w.heap.size + 1 + 1) j _ _ _ (storeTerm_box HQ4.out.res)
      change bodyPost _ _ _ _ _ (storeTerm w4 (w.heap.size + 1 + 1) term0 (tri (.slice none 0 0) (.slice none 0 0) (.slice none 0 0)) (.slice none 0 0))
      generalize storeTerm w4 (w.heap.size + 1 + 1) term0 (tri (.slice none 0 0) (.slice none 0 0) (.slice none 0 0)) (.slice none 0 0) = W' at *
      simp only [List.getElem?_toArray] at hres
      refine bodyPost_ret (v := .tuple #[termVal term0 (tri (.slice none 0 0) (.slice none 0 0) (.slice none 0 0)) (.slice none 0 0), .int .i64 er]) (by simp [results, Tryz.results14, go_sem, hres]) rfl ?_
      exact ⟨_, _, by rw [HV.out], by rw [HV.out]; exact r1, r2⟩
end Go.Proofs.YtcfgppjhgobboaaGreatDoor
