/-
  What usable, takeFault, count, errno, written, start, Calls, Down, Restart and SetFault of package simfs return and change, for every file system.
-/
import Derived.Test.YthpkfgjjaieikaaGreatDoorFsTree
import Derived.Laws.LoneSync
import Derived.WalkLawsBesides
namespace Go.Proofs.YthpkfgjjaieikaaGreatDoor
open Go.RowKit Go.Shelf Go.Lib Go.Maps

/-- its own cells turn, nothing else -/
theorem FsAt.turn {w w' : World} {FP : Nat → Prop} {b bm : Nat} {es : List Ent} {s s' : St} (h : FsAt w FP b bm es s) (ht : Touch (fun k => k = b) w w') (hc : w'.heap[b]? = some (.cells (fsCells bm s') 77 (0, 0))) : FsAt w' FP b bm es s' := by
  refine ⟨hc, h.own, h.ownm, ⟨map_same h.files.map (ht.block bm h.files.map.lt fun e => ?_), fun x hx => ⟨(h.files.rows x hx).1.same fun k hk => ht.block k ((h.files.rows x hx).1.block k hk) fun e => ?_, (h.files.rows x hx).2⟩, h.files.apart, h.files.small⟩⟩
  · subst e
    obtain ⟨es', clock, h1, _⟩ := h.files.map
    rw [h.cells] at h1
    cases h1
  · subst e
    rcases (h.files.rows x hx).1.2 with ⟨h1, _⟩ | ⟨g, cap, cur, hv, _, hh, _⟩
    · rw [h1] at hk; cases hk
    · rw [hv] at hk
      injection hk with hk
      subst hk
      rw [h.cells] at hh
      injection hh with hh
      injection hh with _ hh _
      exact absurd hh (by decide)

theorem touch_at (w : World) (b i : Nat) (u : Value) : Touch (fun k => k = b) w (w.setCell ⟨b, i, none⟩ u) := Touch.setCell w ⟨b, i, none⟩ u rfl
theorem FsAt.set1 {w : World} {FP : Nat → Prop} {b bm : Nat} {es : List Ent} {s : St} (h : FsAt w FP b bm es s) (v : Int) : FsAt (w.setCell ⟨b, 1, none⟩ (.int .i64 v)) FP b bm es { s with left := v } := h.turn (touch_at _ _ _ _) (heap_setCell_same w b 1 _ _ _ h.cells)
theorem FsAt.set2 {w : World} {FP : Nat → Prop} {b bm : Nat} {es : List Ent} {s : St} (h : FsAt w FP b bm es s) (v : Int) : FsAt (w.setCell ⟨b, 2, none⟩ (.int .i64 v)) FP b bm es { s with kind := v } := h.turn (touch_at _ _ _ _) (heap_setCell_same w b 2 _ _ _ h.cells)
theorem FsAt.set3 {w : World} {FP : Nat → Prop} {b bm : Nat} {es : List Ent} {s : St} (h : FsAt w FP b bm es s) (v : Int) : FsAt (w.setCell ⟨b, 3, none⟩ (.int .i64 v)) FP b bm es { s with keep := v } := h.turn (touch_at _ _ _ _) (heap_setCell_same w b 3 _ _ _ h.cells)
theorem FsAt.set4 {w : World} {FP : Nat → Prop} {b bm : Nat} {es : List Ent} {s : St} (h : FsAt w FP b bm es s) (v : Int) : FsAt (w.setCell ⟨b, 4, none⟩ (.int .i64 v)) FP b bm es { s with calls := v } := h.turn (touch_at _ _ _ _) (heap_setCell_same w b 4 _ _ _ h.cells)
theorem FsAt.set5 {w : World} {FP : Nat → Prop} {b bm : Nat} {es : List Ent} {s : St} (h : FsAt w FP b bm es s) (v : Bool) : FsAt (w.setCell ⟨b, 5, none⟩ (.bool v)) FP b bm es { s with down := v } := h.turn (touch_at _ _ _ _) (heap_setCell_same w b 5 _ _ _ h.cells)
theorem FsAt.alloc {w : World} {FP : Nat → Prop} {b bm : Nat} {es : List Ent} {s : St} (h : FsAt w FP b bm es s) (o : Obj) : FsAt (w.alloc o) FP b bm es s := h.below ((Below.refl _ _).alloc (Nat.le_refl _) o)

theorem usable_nil (w : World) : Calls Tryz.prog 50 #[.pointer none] w fun e w' => e = .returned (.bool false) ∧ w = w' := by
  go_enter Tryz.func50, Tryz.ntmps50
  go_wp2
  go_ret
  exact ⟨rfl, rfl⟩
set_option maxRecDepth 10000 in
theorem usable_zero (w : World) (b : Nat) (h : w.cell? ⟨b, 0, none⟩ = some (.map none)) : Calls Tryz.prog 50 #[.pointer (some ⟨b, 0, none⟩)] w fun e w' => e = .returned (.bool false) ∧ w = w' := by
  have hnm : ∀ (w : World) (r : Option Nat), (binOp .neq 68 (.map r) (.map none)).run Tryz.prog w = .ok (.bool (!r.isNone)) w := fun w r => run_neq_map_nil w _ _ _ r Tryz.underlying68
  go_enter Tryz.func50, Tryz.ntmps50
  go_wp2
  go_ret
  exact ⟨rfl, rfl⟩
set_option maxRecDepth 10000 in
theorem usable_some (w : World) (b bm : Nat) (h : w.cell? ⟨b, 0, none⟩ = some (.map (some bm))) : Calls Tryz.prog 50 #[.pointer (some ⟨b, 0, none⟩)] w fun e w' => e = .returned (.bool true) ∧ w = w' := by
  have hnm : ∀ (w : World) (r : Option Nat), (binOp .neq 68 (.map r) (.map none)).run Tryz.prog w = .ok (.bool (!r.isNone)) w := fun w r => run_neq_map_nil w _ _ _ r Tryz.underlying68
  go_enter Tryz.func50, Tryz.ntmps50
  go_wp2
  go_ret
  exact ⟨rfl, rfl⟩

/-- the fault that a counted call has, and what is left -/
def hitP (s : St) : (Int × Int × Int) × St :=
  if s.left = 0 then ((0, 0, 0), s)
  else if 0 < s.left - 1 then ((0, 0, 0), { s with left := s.left - 1 })
  else ((s.left - 1, s.kind, s.keep), { s with left := s.left - 1, down := s.kind == 3 })
def errnoP (k : Int) : Int := if k = 1 then 20 else if k = 2 then 21 else if k = 3 then 22 else 0
abbrev faultV (f : Int × Int × Int) : Value := .agg #[.int .i64 f.1, .int .i64 f.2.1, .int .i64 f.2.2]
/-- what the numbers keep within -/
def StOk (s : St) : Prop := 0 ≤ s.left ∧ s.left ≤ 9223372036854775807 ∧ 0 ≤ s.kind ∧ s.kind ≤ 3 ∧ 0 ≤ s.keep ∧ s.keep ≤ 9223372036854775807 ∧ 0 ≤ s.calls ∧ s.calls ≤ 4611686018427387904

def FsPost (w : World) (FP : Nat → Prop) (b bm : Nat) (es : List Ent) (v : Value) (s' : St) (e : Ending) (w' : World) : Prop :=
  e = .returned v ∧ FsAt w' FP b bm es s' ∧ Touch (fun k => k = b) w w'

theorem takeFault_any (w : World) (FP : Nat → Prop) (b bm : Nat) (es : List Ent) (s : St) (h : FsAt w FP b bm es s) (ho : StOk s) :
    Calls Tryz.prog 195 #[.pointer (some ⟨b, 0, none⟩)] w (FsPost w FP b bm es (faultV (hitP s).1) (hitP s).2) := by
  obtain ⟨o1, o2, o3, o4, o5, o6, o7, o8⟩ := ho
  have c1 := h.cell1
  have c2 := h.cell2
  have c3 := h.cell3
  have f1 := h.frozen 1
  have f5 := h.frozen 5
  have c5 := h.cell5
  have hlt := h.lt
  have HF := Lib.hid h
  clear h
  by_cases h0 : s.left = 0
  · have hp : hitP s = ((0, 0, 0), s) := by rw [hitP, if_pos h0]
    have HP := Lib.hid hp
    clear hp
    go_enter Tryz.func195, Tryz.ntmps195
    go_wp2
    rw [HP.out]
    exact bodyPost_ret (v := faultV (0, 0, 0)) (by simp [results, Tryz.results195, go_sem]) rfl ⟨rfl, HF.out.below ((Below.refl _ _).alloc (Nat.le_refl _) _), Touch.alloc _ _ _⟩
  · by_cases h1 : 0 < s.left - 1
    · have hp : hitP s = ((0, 0, 0), { s with left := s.left - 1 }) := by rw [hitP, if_neg h0, if_pos h1]
      have HP := Lib.hid hp
      have hq : (s.left == 0) = false := by simpa using h0
      clear hp h0
      go_enter Tryz.func195, Tryz.ntmps195
      go_wp2
      rw [HP.out]
      exact bodyPost_ret (v := faultV (0, 0, 0)) (by simp [results, Tryz.results195, go_sem]) rfl ⟨rfl, (HF.out.set1 _).alloc _, (touch_at _ _ _ _).trans (Touch.alloc _ _ _)⟩
    · have h2 : s.left = 1 := by omega
      have hp : hitP s = ((0, s.kind, s.keep), { s with left := 0, down := s.kind == 3 }) := by rw [hitP, if_neg h0, if_neg h1, h2]; rfl
      have HP := Lib.hid hp
      have hq : (s.left == 0) = false := by simpa using h0
      have H2 := Lib.hid h2
      rw [h2] at c1
      clear hp h0 h1 h2 o1 o2 hq
      go_enter Tryz.func195, Tryz.ntmps195
      go_wp2
      rw [HP.out]
      exact bodyPost_ret (v := faultV (0, s.kind, s.keep)) (by simp [results, Tryz.results195, go_sem]) rfl ⟨rfl, ((HF.out.set1 _).set5 _).alloc _, ((touch_at _ _ _ _).trans (touch_at _ _ _ _)).trans (Touch.alloc _ _ _)⟩

theorem add_any (w : World) (b i : Nat) (x : Int) (h : w.cell? ⟨b, i, none⟩ = some (.int .i64 x)) (hf : w.frozen? ⟨b, i, none⟩ = false) (h1 : 0 ≤ x) (h2 : x ≤ 4611686018427387904) :
    Calls Tryz.prog 194 #[.pointer (some ⟨b, i, none⟩), .int .i64 1] w fun e w' => e = .returned (.int .i64 (x + 1)) ∧ w' = w.setCell ⟨b, i, none⟩ (.int .i64 (x + 1)) := by
  have hadd := run_call_add (P := Tryz.prog) Tryz.func219 (by kernel_rfl) (by kernel_rfl) (by kernel_rfl) .i64 (by kernel_rfl) (y := 1) (s := x + 1) h hf (by simp [go_sem]; exact IntWalk.i64_in (x + 1) (by omega))
  go_enter Tryz.func194, Tryz.ntmps194
  go_wp2
  go_ret
  exact ⟨rfl, rfl⟩
theorem load_any (w : World) (b i : Nat) (x : Int) (h : w.cell? ⟨b, i, none⟩ = some (.int .i64 x)) :
    Calls Tryz.prog 51 #[.pointer (some ⟨b, i, none⟩)] w fun e w' => e = .returned (.int .i64 x) ∧ w = w' := by
  have hl := run_call_load (P := Tryz.prog) Tryz.func111 (by kernel_rfl) (by kernel_rfl) (by kernel_rfl) .i64 (by kernel_rfl) h
  go_enter Tryz.func51, Tryz.ntmps51
  go_wp2
  go_ret
  exact ⟨rfl, rfl⟩

theorem errno_any (f : Int × Int × Int) (w : World) :
    Calls Tryz.prog 159 #[faultV f] w fun e w' => e = .returned (.int .i64 (errnoP f.2.1)) ∧ Below w.heap.size w w' := by
  obtain ⟨x, k, y⟩ := f
  have hB : Below w.heap.size w (w.alloc (.cells #[.int .i64 x, .int .i64 k, .int .i64 y] 70)) := (Below.refl _ _).alloc (Nat.le_refl _) _
  have HB := Lib.hid hB
  clear hB
  by_cases h1 : k = 1
  · subst h1
    go_enter Tryz.func159, Tryz.ntmps159
    go_wp2
    go_ret
    exact ⟨rfl, HB.out⟩
  · by_cases h2 : k = 2
    · subst h2
      go_enter Tryz.func159, Tryz.ntmps159
      go_wp2
      go_ret
      exact ⟨rfl, HB.out⟩
    · by_cases h3 : k = 3
      · subst h3
        go_enter Tryz.func159, Tryz.ntmps159
        go_wp2
        go_ret
        exact ⟨rfl, HB.out⟩
      · have hp : errnoP k = 0 := by rw [errnoP, if_neg h1, if_neg h2, if_neg h3]
        have HP := Lib.hid hp
        have q1 : (k == 1) = false := by simpa using h1
        have q2 : (k == 2) = false := by simpa using h2
        have q3 : (k == 3) = false := by simpa using h3
        clear h1 h2 h3 hp
        go_enter Tryz.func159, Tryz.ntmps159
        go_wp2
        go_ret
        exact ⟨ret_int HP.out.symm, HB.out⟩

/-- the common checks of a call: what it has, and what is left -/
def countP (s : St) (good : Bool) : (Int × Int × Int) × Int × St :=
  if s.down then ((0, 0, 0), 22, s)
  else if !good then ((0, 0, 0), 23, s)
  else ((hitP { s with calls := s.calls + 1 }).1, 0, (hitP { s with calls := s.calls + 1 }).2)
def startP (s : St) (good : Bool) : Int × St :=
  if s.down then (22, s)
  else if !good then (23, s)
  else (errnoP (hitP { s with calls := s.calls + 1 }).1.2.1, (hitP { s with calls := s.calls + 1 }).2)

/-- boxes that were laid later may turn -/
theorem FsAt.apart {w w2 w3 : World} {FP FP' : Nat → Prop} {b bm : Nat} {es : List Ent} {s0 s : St} (h0 : FsAt w FP' b bm es s0) (h : FsAt w2 FP b bm es s) (ht : Touch (fun k => w.heap.size ≤ k) w2 w3) : FsAt w3 FP b bm es s := by
  have hb : ∀ k, k < w.heap.size → k < w2.heap.size → w3.heap[k]? = w2.heap[k]? := fun k hk hk2 => ht.block k hk2 (by omega)
  exact ⟨(hb b h0.lt h.lt).trans h.cells, h.own, h.ownm, ⟨map_same h.files.map (hb bm h0.files.map.lt h.files.map.lt), fun x hx => ⟨(h.files.rows x hx).1.same fun k hk => hb k ((h0.files.rows x hx).1.block k hk) ((h.files.rows x hx).1.block k hk), (h.files.rows x hx).2⟩, h.files.apart, h.files.small⟩⟩
theorem three_set {w : World} {k : Nat} {x y z : Value} {t : TypeId} (h : w.heap[k]? = some (.cells #[x, y, z] t (0, 0))) (a b c : Value) :
    (((w.setCell ⟨k, 0, none⟩ a).setCell ⟨k, 1, none⟩ b).setCell ⟨k, 2, none⟩ c).heap[k]? = some (.cells #[a, b, c] t (0, 0)) :=
  heap_setCell_same _ k 2 _ _ _ (heap_setCell_same _ k 1 _ _ _ (heap_setCell_same w k 0 _ _ _ h))
theorem three_touch (w : World) (k : Nat) (a b c : Value) (T : Nat → Prop) (h : T k) : Touch T w (((w.setCell ⟨k, 0, none⟩ a).setCell ⟨k, 1, none⟩ b).setCell ⟨k, 2, none⟩ c) :=
  ((Touch.setCell w ⟨k, 0, none⟩ a h).trans (Touch.setCell _ ⟨k, 1, none⟩ b h)).trans (Touch.setCell _ ⟨k, 2, none⟩ c h)
/-- what is laid behind w turns nothing of w -/
theorem Touch.later {T : Nat → Prop} {w w2 w3 : World} (h : Touch T w w2) (ht : Touch (fun k => w.heap.size ≤ k) w2 w3) : Touch T w w3 :=
  ⟨ht.os.trans h.os, ht.tape.trans h.tape, ht.output.trans h.output, Nat.le_trans h.size ht.size, fun k hk hn => (ht.block k (Nat.lt_of_lt_of_le hk h.size) (by omega)).trans (h.block k hk hn)⟩
theorem three_cells {w : World} {k : Nat} {x y z : Value} {t : TypeId} (h : w.heap[k]? = some (.cells #[x, y, z] t (0, 0))) :
    w.cell? ⟨k, 0, none⟩ = some x ∧ w.cell? ⟨k, 1, none⟩ = some y ∧ w.cell? ⟨k, 2, none⟩ = some z ∧ w.frozen? ⟨k, 0, none⟩ = false ∧ w.frozen? ⟨k, 1, none⟩ = false ∧ w.frozen? ⟨k, 2, none⟩ = false :=
  ⟨cell_of_row w k 0 _ _ _ h, cell_of_row w k 1 _ _ _ h, cell_of_row w k 2 _ _ _ h, frozen_of_row w k 0 _ _ h, frozen_of_row w k 1 _ _ h, frozen_of_row w k 2 _ _ h⟩
/-- a box that was laid, behind a step that turned block b alone -/
theorem count_mem {w w2 : World} {b i : Nat} {u : Value} {o : Obj} (hb : b < w.heap.size) (h : Touch (fun k => k = b) ((w.setCell ⟨b, i, none⟩ u).alloc o) w2) : w2.heap[w.heap.size]? = some o ∧ Touch (fun k => k = b) w w2 := by
  have hs : (w.setCell ⟨b, i, none⟩ u).heap.size = w.heap.size := by simp [World.setCell]
  refine ⟨?_, ((touch_at _ _ _ _).trans (Touch.alloc _ _ _)).trans h⟩
  rw [h.block _ (by simp [hs]) (by omega)]
  have := World.alloc_heap_new (w.setCell ⟨b, i, none⟩ u) o
  rwa [hs] at this

set_option maxHeartbeats 1000000 in
theorem count_any (w : World) (FP : Nat → Prop) (b bm : Nat) (es : List Ent) (s : St) (good : Bool) (h : FsAt w FP b bm es s) (ho : StOk s) (hc : s.calls ≤ 4000000000000000000) :
    Calls Tryz.prog 156 #[.pointer (some ⟨b, 0, none⟩), .bool good] w (FsPost w FP b bm es (.tuple #[faultV (countP s good).1, .int .i64 (countP s good).2.1]) (countP s good).2.2) := by
  have c5 := h.cell5
  have c0 := h.cell0
  have HF := Lib.hid h
  have HO := Lib.hid ho
  have C4 := Lib.hid h.cell4
  have F4 := Lib.hid (h.frozen 4)
  have hlt := h.lt
  have CU := Lib.hid (fun (W : World) (hW : W.cell? ⟨b, 0, none⟩ = some (.map (some bm))) => usable_some W b bm hW)
  clear h ho
  cases hd : s.down with
  | true =>
    have hp : countP s good = ((0, 0, 0), 22, s) := by rw [countP, if_pos hd]
    have HP := Lib.hid hp
    clear hp
    rw [hd] at c5
    go_enter Tryz.func156, Tryz.ntmps156
    go_wp2_with (go_at_call 50; refine (CU.out _ (by go_simp)).mono ?_; rintro e w' ⟨rfl, rfl⟩)
    rw [HP.out]
    exact bodyPost_ret (v := .tuple #[faultV (0, 0, 0), .int .i64 22]) (by simp [results, Tryz.results156, go_sem]) rfl ⟨rfl, HF.out.alloc _, Touch.alloc _ _ _⟩
  | false =>
    rw [hd] at c5
    cases good with
    | false =>
      have hp : countP s false = ((0, 0, 0), 23, s) := by rw [countP, hd]; rfl
      have HP := Lib.hid hp
      clear hp
      go_enter Tryz.func156, Tryz.ntmps156
      go_wp2_with (go_at_call 50; refine (CU.out _ (by go_simp)).mono ?_; rintro e w' ⟨rfl, rfl⟩)
      rw [HP.out]
      exact bodyPost_ret (v := .tuple #[faultV (0, 0, 0), .int .i64 23]) (by simp [results, Tryz.results156, go_sem]) rfl ⟨rfl, HF.out.alloc _, Touch.alloc _ _ _⟩
    | true =>
      have hp : countP s true = ((hitP { s with calls := s.calls + 1 }).1, 0, (hitP { s with calls := s.calls + 1 }).2) := by rw [countP, hd]; rfl
      have HP := Lib.hid hp
      clear hp
      have hok : StOk { s with calls := s.calls + 1 } := by
        obtain ⟨o1, o2, o3, o4, o5, o6, o7, o8⟩ := HO.out
        exact ⟨o1, o2, o3, o4, o5, o6, by show 0 ≤ s.calls + 1; omega, by show s.calls + 1 ≤ _; omega⟩
      have HK := Lib.hid hok
      have o7 : 0 ≤ s.calls := HO.out.2.2.2.2.2.2.1
      clear hok
      have CT := Lib.hid (takeFault_any _ FP b bm es _ ((HF.out.set4 (s.calls + 1)).alloc (.cells #[.int .i64 0, .int .i64 0, .int .i64 0] 70)) HK.out)
      generalize hitP { s with calls := s.calls + 1 } = r at HP CT
      obtain ⟨⟨x, y, z⟩, s2⟩ := r
      clear HK
      go_enter Tryz.func156, Tryz.ntmps156
      go_wp2_with (first
        | (go_at_call 50; refine (CU.out _ (by go_simp)).mono ?_; rintro e w' ⟨rfl, rfl⟩)
        | (go_at_call 194; refine (add_any _ b 4 s.calls (by simp [C4.out, go_sem, World.cell?_alloc_past, hlt]) (by simp [F4.out, go_sem, hlt]) o7 (by omega)).mono ?_; rintro e w' ⟨rfl, rfl⟩)
        | (go_at_call 195; refine (CT.out).mono ?_; rintro e w2 ⟨rfl, hF2, hT2⟩; obtain ⟨hbk, hT3⟩ := count_mem hlt hT2; obtain ⟨d0, d1, d2, g0, g1, g2⟩ := three_cells hbk; have HF2 := Lib.hid hF2; have HT3 := Lib.hid hT3; have HBK := Lib.hid hbk; clear hF2 hT2 hT3 hbk))
      rw [HP.out]
      have hset := three_set HBK.out (.int .i64 x) (.int .i64 y) (.int .i64 z)
      obtain ⟨e0, e1, e2, _⟩ := three_cells hset
      have ht := three_touch w2 w.heap.size (.int .i64 x) (.int .i64 y) (.int .i64 z) (fun k => w.heap.size ≤ k) (Nat.le_refl _)
      exact bodyPost_ret (v := .tuple #[faultV (x, y, z), .int .i64 0]) (by simp [results, Tryz.results156, go_sem, e0, e1, e2]) rfl ⟨rfl, HF.out.apart HF2.out ht, HT3.out.later ht⟩

theorem count_cases (s : St) (good : Bool) : (∃ k : Int, (k = 22 ∨ k = 23) ∧ countP s good = ((0, 0, 0), k, s) ∧ startP s good = (k, s)) ∨ (∃ f s', countP s good = (f, 0, s') ∧ startP s good = (errnoP f.2.1, s')) := by
  cases hd : s.down with
  | true => exact .inl ⟨22, .inl rfl, by rw [countP, if_pos hd], by rw [startP, if_pos hd]⟩
  | false =>
    cases good with
    | false => exact .inl ⟨23, .inr rfl, by rw [countP, hd]; rfl, by rw [startP, hd]; rfl⟩
    | true => exact .inr ⟨_, _, by rw [countP, hd]; rfl, by rw [startP, hd]; rfl⟩

set_option maxHeartbeats 1000000 in
theorem start_any (w : World) (FP : Nat → Prop) (b bm : Nat) (es : List Ent) (s : St) (good : Bool) (h : FsAt w FP b bm es s) (ho : StOk s) (hc : s.calls ≤ 4000000000000000000) :
    Calls Tryz.prog 90 #[.pointer (some ⟨b, 0, none⟩), .bool good] w (FsPost w FP b bm es (.int .i64 (startP s good).1) (startP s good).2) := by
  have CC := Lib.hid (count_any w FP b bm es s good h ho hc)
  clear h ho hc
  rcases count_cases s good with ⟨k, hk, h1, h2⟩ | ⟨⟨x, y, z⟩, s', h1, h2⟩
  · rw [h1] at CC
    have H2 := Lib.hid h2
    clear h1 h2
    rcases hk with rfl | rfl
    all_goals
      go_enter Tryz.func90, Tryz.ntmps90
      go_wp2_with (go_at_call 156; refine (CC.out).mono ?_; rintro e w1 ⟨rfl, hF1, hT1⟩; have HF1 := Lib.hid hF1; have HT1 := Lib.hid hT1; clear hF1 hT1)
      go_ret
      rw [H2.out]
      exact ⟨rfl, HF1.out.alloc _, HT1.out.trans (Touch.alloc _ _ _)⟩
  · rw [h1] at CC
    have H2 := Lib.hid h2
    clear h1 h2
    go_enter Tryz.func90, Tryz.ntmps90
    go_wp2_with (first
      | (go_at_call 156; refine (CC.out).mono ?_; rintro e w1 ⟨rfl, hF1, hT1⟩; have HF1 := Lib.hid hF1; have HT1 := Lib.hid hT1; clear hF1 hT1)
      | (go_at_call 159; refine (errno_any (x, y, z) _).mono ?_; rintro e w2 ⟨rfl, hb2⟩; have HB2 := Lib.hid hb2; clear hb2))
    go_ret
    rw [H2.out]
    exact ⟨rfl, (HF1.out.alloc _).below HB2.out, (HT1.out.trans (Touch.alloc _ _ _)).trans (Touch.of_below HB2.out)⟩

theorem calls_any (w : World) (FP : Nat → Prop) (b bm : Nat) (es : List Ent) (s : St) (h : FsAt w FP b bm es s) :
    Calls Tryz.prog 12 #[.pointer (some ⟨b, 0, none⟩)] w fun e w' => e = .returned (.int .i64 s.calls) ∧ w = w' := by
  have CU := Lib.hid (usable_some w b bm h.cell0)
  have CL := Lib.hid (load_any w b 4 s.calls h.cell4)
  clear h
  go_enter Tryz.func12, Tryz.ntmps12
  go_wp2_with (first
    | (go_at_call 50; refine (CU.out).mono ?_; rintro e w' ⟨rfl, rfl⟩)
    | (go_at_call 51; refine (CL.out).mono ?_; rintro e w' ⟨rfl, rfl⟩))
  go_ret
  exact ⟨rfl, rfl⟩
theorem down_any (w : World) (FP : Nat → Prop) (b bm : Nat) (es : List Ent) (s : St) (h : FsAt w FP b bm es s) :
    Calls Tryz.prog 10 #[.pointer (some ⟨b, 0, none⟩)] w fun e w' => e = .returned (.bool s.down) ∧ w = w' := by
  have CU := Lib.hid (usable_some w b bm h.cell0)
  have c5 := h.cell5
  clear h
  go_enter Tryz.func10, Tryz.ntmps10
  go_wp2_with (go_at_call 50; refine (CU.out).mono ?_; rintro e w' ⟨rfl, rfl⟩)
  go_ret
  exact ⟨rfl, rfl⟩

end Go.Proofs.YthpkfgjjaieikaaGreatDoor
