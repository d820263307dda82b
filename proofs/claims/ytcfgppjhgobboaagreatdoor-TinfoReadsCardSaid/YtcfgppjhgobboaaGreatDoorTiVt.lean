/-
  The entry vt220 of package tinfo.
-/
import Derived.Test.YtcfgppjhgobboaaGreatDoorTiShip
namespace Go.Proofs.YtcfgppjhgobboaaGreatDoor
open Go.RowKit Go.Shelf Go.Lib
attribute [local go_sem] Oper.semAt_some

/-! ### vt220 -/
def movesT : List (List UInt8 × List UInt8) :=
  [([98, 101, 108], [7]),
   ([99, 114], [13]),
   ([99, 117, 100, 49], [10]),
   ([105, 110, 100], [10]),
   ([99, 117, 98, 49], [8]),
   ([99, 117, 102, 49], [27, 91, 67]),
   ([99, 117, 117, 49], [27, 91, 65]),
   ([104, 111, 109, 101], [27, 91, 72]),
   ([99, 117, 112], [27, 91, 37, 105, 37, 112, 49, 37, 100, 59, 37, 112, 50, 37, 100, 72]),
   ([99, 115, 114], [27, 91, 37, 105, 37, 112, 49, 37, 100, 59, 37, 112, 50, 37, 100, 114]),
   ([99, 117, 117], [27, 91, 37, 112, 49, 37, 100, 65]),
   ([99, 117, 100], [27, 91, 37, 112, 49, 37, 100, 66]),
   ([99, 117, 102], [27, 91, 37, 112, 49, 37, 100, 67]),
   ([99, 117, 98], [27, 91, 37, 112, 49, 37, 100, 68]),
   ([114, 105], [27, 77]),
   ([115, 99], [27, 55]),
   ([114, 99], [27, 56]),
   ([110, 101, 108], [27, 69])]
set_option maxRecDepth 100000 in
theorem vt220Moves_any (w : World) : Calls Tryz.prog 110 #[] w fun e w' => e = .returned (.slice (some ⟨w.heap.size, 0, none⟩) movesT.length movesT.length) ∧ w' = w.alloc (.cells (setVals movesT).toArray 152) := by
  go_enter Tryz.func110, Tryz.ntmps110
  go_wp2
  go_ret
  exact ⟨rfl, rfl⟩
def editsT : List (List UInt8 × List UInt8) :=
  [([99, 108, 101, 97, 114], [27, 91, 72, 27, 91, 74]),
   ([101, 108], [27, 91, 75]),
   ([101, 100], [27, 91, 74]),
   ([100, 99, 104, 49], [27, 91, 80]),
   ([100, 99, 104], [27, 91, 37, 112, 49, 37, 100, 80]),
   ([100, 108, 49], [27, 91, 77]),
   ([100, 108], [27, 91, 37, 112, 49, 37, 100, 77]),
   ([105, 108, 49], [27, 91, 76]),
   ([105, 108], [27, 91, 37, 112, 49, 37, 100, 76]),
   ([105, 99, 104], [27, 91, 37, 112, 49, 37, 100, 64]),
   ([101, 99, 104], [27, 91, 37, 112, 49, 37, 100, 88]),
   ([115, 109, 105, 114], [27, 91, 52, 104]),
   ([114, 109, 105, 114], [27, 91, 52, 108]),
   ([115, 103, 114, 48], [27, 91, 109]),
   ([114, 101, 118], [27, 91, 55, 109]),
   ([98, 111, 108, 100], [27, 91, 49, 109]),
   ([115, 109, 117, 108], [27, 91, 52, 109]),
   ([114, 109, 117, 108], [27, 91, 50, 52, 109]),
   ([99, 110, 111, 114, 109], [27, 91, 63, 50, 53, 104]),
   ([99, 105, 118, 105, 115], [27, 91, 63, 50, 53, 108])]
set_option maxRecDepth 100000 in
theorem vt220Edits_any (w : World) : Calls Tryz.prog 111 #[] w fun e w' => e = .returned (.slice (some ⟨w.heap.size, 0, none⟩) editsT.length editsT.length) ∧ w' = w.alloc (.cells (setVals editsT).toArray 152) := by
  go_enter Tryz.func111, Tryz.ntmps111
  go_wp2
  go_ret
  exact ⟨rfl, rfl⟩
def keysT : List (List UInt8 × List UInt8) :=
  [([107, 99, 117, 98, 49], [27, 91, 68]),
   ([107, 99, 117, 102, 49], [27, 91, 67]),
   ([107, 99, 117, 117, 49], [27, 91, 65]),
   ([107, 99, 117, 100, 49], [27, 91, 66]),
   ([107, 100, 99, 104, 49], [27, 91, 51, 126]),
   ([107, 104, 111, 109, 101], [27, 91, 49, 126]),
   ([107, 101, 110, 100], [27, 91, 52, 126]),
   ([107, 98, 115], [8])]
set_option maxRecDepth 100000 in
theorem vt220Keys_any (w : World) : Calls Tryz.prog 112 #[] w fun e w' => e = .returned (.slice (some ⟨w.heap.size, 0, none⟩) keysT.length keysT.length) ∧ w' = w.alloc (.cells (setVals keysT).toArray 152) := by
  go_enter Tryz.func112, Tryz.ntmps112
  go_wp2
  go_ret
  exact ⟨rfl, rfl⟩

/-- an entry that is being made by a call that began at w -/
def Stage (w : World) (tb : Nat) (t : TermD) (W : World) : Prop := Tabs W ∧ Tabs w ∧ Below w.heap.size w W ∧ TermHas W (fun k => w.heap.size ≤ k ∧ k < W.heap.size) tb t
theorem Stage.clear {w W : World} {tb : Nat} {t : TermD} (h : Stage w tb t W) : Clear (fun k => w.heap.size ≤ k ∧ k < W.heap.size) := fun k hk => by have := h.2.1.lt; omega
theorem Stage.next {w W W2 W' : World} {tb : Nat} {t t' : TermD} {v : Value} {e : Ending} (h : Stage w tb t W) (hb : Below W.heap.size W W2) (hp : HasPost W2 (fun k => w.heap.size ≤ k ∧ k < W.heap.size) tb t' v e W') : e = .returned v ∧ Stage w tb t' W' := by
  obtain ⟨rfl, h1, h2⟩ := hp
  obtain ⟨hT, hT0, hbw, hh⟩ := h
  have hw2 : Below w.heap.size w W2 := hbw.trans (hb.mono hbw.size)
  refine ⟨rfl, (hT.below hb).touch h2 (fun k hk => by have := hT0.lt; omega), hT0, hw2.trans (h2.below hw2.size fun k hk => hk.1), h1.more fun k hk hk2 => ⟨?_, hk⟩⟩
  rcases hk2 with hk2 | hk2
  · exact hk2.1
  · have := hw2.size; omega
theorem stage_number {w W : World} {tb : Nat} {t : TermD} (h : Stage w tb t W) (name : List UInt8) (n : Int) (hp : (placeP name).isSome = true) :
    Calls Tryz.prog 108 #[.pointer (some ⟨tb, 0, none⟩), str name, .int .i64 n] W fun e W' => e = .returned (.tuple #[]) ∧ Stage w tb (put1 t name ⟨1, n, []⟩) W' :=
  (putNumber_any W _ tb t name n h.2.2.2 h.1 hp).mono fun _ _ hp => h.next (Below.refl _ _) hp
theorem stage_flags {w W : World} {tb sb n : Nat} {t : TermD} (h : Stage w tb t W) (names : List (List UInt8)) (hp : (names.all fun n => (placeP n).isSome) = true) (hl : names.length ≤ 1000) (hs : W.heap.size = sb) (hn : names.length = n) {cs : Array Value} (hcs : (names.map str).toArray = cs) :
    Calls Tryz.prog 107 #[.pointer (some ⟨tb, 0, none⟩), .slice (some ⟨sb, 0, none⟩) n n] (W.alloc (.cells cs 9)) fun e W' => e = .returned (.tuple #[]) ∧ Stage w tb (putsP t (names.map fun n => (n, ⟨1, 0, []⟩))) W' := by
  subst hs hn hcs
  have hb : Below W.heap.size W (W.alloc (.cells (names.map str).toArray 9)) := (Below.refl _ _).alloc (Nat.le_refl _) _
  exact (putFlags_any _ _ tb W.heap.size t names (h.2.2.2.below hb) (h.1.below hb) h.clear hp hl (World.alloc_heap_new W _) (fun hk => by omega)).mono fun _ _ hp => h.next hb hp
theorem stage_texts {w W : World} {tb sb : Nat} {t : TermD} (h : Stage w tb t W) (l : List (List UInt8 × List UInt8)) (hp : (l.all fun p => (placeP p.1).isSome) = true) (hl : l.length ≤ 1000) (hs : W.heap.size = sb) :
    Calls Tryz.prog 109 #[.pointer (some ⟨tb, 0, none⟩), .slice (some ⟨sb, 0, none⟩) l.length l.length] (W.alloc (.cells (setVals l).toArray 152)) fun e W' => e = .returned (.tuple #[]) ∧ Stage w tb (putsP t (textCaps l)) W' := by
  subst hs
  have hb : Below W.heap.size W (W.alloc (.cells (setVals l).toArray 152)) := (Below.refl _ _).alloc (Nat.le_refl _) _
  exact (putTexts_any _ _ tb W.heap.size t l (h.2.2.2.below hb) (h.1.below hb) h.clear hp hl (World.alloc_heap_new W _) (fun hk => by omega)).mono fun _ _ hp => h.next hb hp

def vtFlags : List (List UInt8) := [[97, 109], [109, 105, 114], [109, 115, 103, 114], [120, 101, 110, 108]]
def vt0 : TermD := ⟨[118, 116, 50, 50, 48, 124, 118, 116, 50, 48, 48, 124, 97, 32, 86, 84, 50, 50, 48], false, [], [], [], []⟩
def vt1 : TermD := put1 (put1 (put1 (putsP vt0 (vtFlags.map fun n => (n, ⟨1, 0, []⟩))) [99, 111, 108, 115] ⟨1, 80, []⟩) [108, 105, 110, 101, 115] ⟨1, 24, []⟩) [105, 116] ⟨1, 8, []⟩
def vt220P : TermD := putsP (putsP (putsP vt1 (textCaps movesT)) (textCaps editsT)) (textCaps keysT)
theorem known_flags : (vtFlags.all fun n => (placeP n).isSome) = true := by decide +kernel
theorem known_texts : (movesT.all fun p => (placeP p.1).isSome) = true ∧ (editsT.all fun p => (placeP p.1).isSome) = true ∧ (keysT.all fun p => (placeP p.1).isSome) = true := by decide +kernel
theorem known_nums : (placeP [99, 111, 108, 115]).isSome = true ∧ (placeP [108, 105, 110, 101, 115]).isSome = true ∧ (placeP [105, 116]).isSome = true := by decide +kernel
theorem build_vt (w : World) : (Instr.build 26 #[(0, str vt0.names)]).run Tryz.prog w = .ok (.agg #[str vt0.names, .bool false, .slice none 0 0, .slice none 0 0, .slice none 0 0, .slice none 0 0]) w := by kernel_rfl

/-- an entry that a call returns -/
def EntryPost (w : World) (t : TermD) (e : Ending) (w' : World) : Prop :=
  ∃ tb v ve, e = .returned (termVal t v ve) ∧ TermAt w' (fun k => w.heap.size ≤ k) tb v ve t ∧ Below w.heap.size w w'

/-- an entry with no capability yet -/
theorem stage_first (w : World) (hT : Tabs w) (t : TermD) (h : t.wide = false ∧ t.bools = [] ∧ t.nums = [] ∧ t.strs = [] ∧ t.exts = []) (tb : Nat) (htb : w.heap.size = tb) :
    Stage w tb t (w.alloc (.cells #[str t.names, .bool false, .slice none 0 0, .slice none 0 0, .slice none 0 0, .slice none 0 0] 26)) := by
  obtain ⟨names, wide, bools, nums, strs, exts⟩ := t
  obtain ⟨rfl, rfl, rfl, rfl, rfl⟩ := h
  subst htb
  have hb : Below w.heap.size w (w.alloc (.cells #[str names, .bool false, .slice none 0 0, .slice none 0 0, .slice none 0 0, .slice none 0 0] 26)) := (Below.refl _ w).alloc (Nat.le_refl _) _
  have hc := World.alloc_heap_new w (.cells #[str names, .bool false, .slice none 0 0, .slice none 0 0, .slice none 0 0, .slice none 0 0] 26)
  refine ⟨hT.below hb, hT, hb, fun _ => .slice none 0 0, .slice none 0 0, hc, fun i hi => ?_, World.ownsRow_nil _ _ _ _, ⟨by simp, (Array.getElem?_eq_some_iff.1 hc).1⟩, (fun i _ b h => by cases h), (fun b h => by cases h), (fun i j _ _ _ b h => by cases h), (fun i _ b h => by cases h)⟩
  match i, hi with
  | 0, _ | 1, _ | 2, _ => exact World.ownsRow_nil _ _ _ _
/-- the cells of an entry -/
theorem TermAt.loads {W : World} {FP : Nat → Prop} {tb : Nat} {v : Nat → Value} {ve : Value} {t : TermD} (h : TermAt W FP tb v ve t) :
    W.cell? ⟨tb, 0, none⟩ = some (str t.names) ∧ W.cell? ⟨tb, 1, none⟩ = some (.bool t.wide) ∧ W.cell? ⟨tb, 2, none⟩ = some (v 0) ∧ W.cell? ⟨tb, 3, none⟩ = some (v 1) ∧ W.cell? ⟨tb, 4, none⟩ = some (v 2) ∧ W.cell? ⟨tb, 5, none⟩ = some ve :=
  ⟨cell_of_row W tb 0 _ _ _ h.cells, cell_of_row W tb 1 _ _ _ h.cells, cell_of_row W tb 2 _ _ _ h.cells, cell_of_row W tb 3 _ _ _ h.cells, cell_of_row W tb 4 _ _ _ h.cells, cell_of_row W tb 5 _ _ _ h.cells⟩
/-- the four lists of an entry are slices -/
theorem TermAt.forms {W : World} {FP : Nat → Prop} {tb : Nat} {v : Nat → Value} {ve : Value} {t : TermD} (h : TermAt W FP tb v ve t) :
    ∃ A0 c0 A1 c1 A2 c2 Ae ce, v 0 = .slice A0 t.bools.length c0 ∧ v 1 = .slice A1 t.nums.length c1 ∧ v 2 = .slice A2 t.strs.length c2 ∧ ve = .slice Ae t.exts.length ce := by
  obtain ⟨A0, c0, e0⟩ := (h.rows 0 (by omega)).form
  obtain ⟨A1, c1, e1⟩ := (h.rows 1 (by omega)).form
  obtain ⟨A2, c2, e2⟩ := (h.rows 2 (by omega)).form
  obtain ⟨Ae, ce, ee, _⟩ := own_form h.exts
  exact ⟨A0, c0, A1, c1, A2, c2, Ae, ce, e0, e1, e2, ee⟩
abbrev termZero : Obj := .cells #[.string ⟨#[]⟩, .bool false, .slice none 0 0, .slice none 0 0, .slice none 0 0, .slice none 0 0] 26
/-- the result's box, written -/
abbrev storeTerm (W : World) (b : Nat) (t : TermD) (v : Nat → Value) (ve : Value) : World :=
  (((((W.setCell ⟨b, 0, none⟩ (str t.names)).setCell ⟨b, 1, none⟩ (.bool t.wide)).setCell ⟨b, 2, none⟩ (v 0)).setCell ⟨b, 3, none⟩ (v 1)).setCell ⟨b, 4, none⟩ (v 2)).setCell ⟨b, 5, none⟩ ve
theorem storeTerm_touch (W : World) (b : Nat) (t : TermD) (v : Nat → Value) (ve : Value) : Touch (fun k => k = b) W (storeTerm W b t v ve) :=
  (((((Touch.setCell (T := fun k => k = b) W ⟨b, 0, none⟩ _ rfl).trans (Touch.setCell _ ⟨b, 1, none⟩ _ rfl)).trans (Touch.setCell _ ⟨b, 2, none⟩ _ rfl)).trans (Touch.setCell _ ⟨b, 3, none⟩ _ rfl)).trans (Touch.setCell _ ⟨b, 4, none⟩ _ rfl)).trans (Touch.setCell _ ⟨b, 5, none⟩ _ rfl)

theorem storeTerm_box {W : World} {b : Nat} {t : TermD} {v : Nat → Value} {ve : Value} (h : W.heap[b]? = some termZero) : (storeTerm W b t v ve).heap[b]? = some (.cells #[str t.names, .bool t.wide, v 0, v 1, v 2, ve] 26 (0, 0)) := by
  have s0 := heap_setCell_same W b 0 _ _ (str t.names) h
  have s1 := heap_setCell_same _ b 1 _ _ (.bool t.wide) s0
  have s2 := heap_setCell_same _ b 2 _ _ (v 0) s1
  have s3 := heap_setCell_same _ b 3 _ _ (v 1) s2
  have s4 := heap_setCell_same _ b 4 _ _ (v 2) s3
  exact heap_setCell_same _ b 5 _ _ ve s4

set_option maxRecDepth 100000 in
set_option maxHeartbeats 2000000 in
theorem vt220_any (w : World) (hT : Tabs w) : Calls Tryz.prog 58 #[] w (EntryPost w vt220P) := by
  have HT := Lib.hid hT
  clear hT
  go_enter Tryz.func58, Tryz.ntmps58
  have HS := Lib.hid (stage_first (w.alloc termZero) (HT.out.below ((Below.refl _ w).alloc (Nat.le_refl _) _)) vt0 ⟨rfl, rfl, rfl, rfl, rfl⟩ (w.heap.size + 1) (by simp))
  go_wp2_with (first
    | (go_at_call 107; refine (stage_flags HS.out vtFlags known_flags (by decide) (by simp) rfl rfl).mono ?_; rintro e w2 ⟨rfl, h⟩; replace HS := Lib.hid h; clear h)
    | (go_at_call 108; refine (stage_number HS.out _ _ (by first | exact known_nums.1 | exact known_nums.2.1 | exact known_nums.2.2)).mono ?_; rintro e w2 ⟨rfl, h⟩; replace HS := Lib.hid h; clear h)
    | (go_at_call 110; refine (vt220Moves_any _).mono ?_; rintro e w' ⟨rfl, rfl⟩; have CT := Lib.hid (stage_texts HS.out movesT known_texts.1 (by decide) rfl))
    | (go_at_call 111; refine (vt220Edits_any _).mono ?_; rintro e w' ⟨rfl, rfl⟩; replace CT := Lib.hid (stage_texts HS.out editsT known_texts.2.1 (by decide) rfl))
    | (go_at_call 112; refine (vt220Keys_any _).mono ?_; rintro e w' ⟨rfl, rfl⟩; replace CT := Lib.hid (stage_texts HS.out keysT known_texts.2.2 (by decide) rfl); have tokK : True := trivial)
    | (go_at_call 109; have _t := tokK; refine (CT.out).mono ?_; rintro e w2 ⟨rfl, h'⟩; have h : Stage (w.alloc termZero) (w.heap.size + 1) vt220P w2 := h'; clear tokK HS CT h'; obtain ⟨hT2, _, hB2, v, ve, hTA⟩ := h;
       have hbox : w2.heap[w.heap.size]? = some termZero := (hB2.block _ (by simp)).trans (World.alloc_heap_new w _);
       obtain ⟨c0, c1, c2, c3, c4, c5⟩ := hTA.loads; obtain ⟨A0, n0, A1, n1, A2, n2, Ae, ne, e0, e1, e2, ee⟩ := hTA.forms;
       have d0 := cell_of_row w2 w.heap.size 0 _ _ _ hbox; have d1 := cell_of_row w2 w.heap.size 1 _ _ _ hbox; have d2 := cell_of_row w2 w.heap.size 2 _ _ _ hbox; have d3 := cell_of_row w2 w.heap.size 3 _ _ _ hbox; have d4 := cell_of_row w2 w.heap.size 4 _ _ _ hbox; have d5 := cell_of_row w2 w.heap.size 5 _ _ _ hbox;
       have f0 := frozen_of_row w2 w.heap.size 0 _ _ hbox; have f1 := frozen_of_row w2 w.heap.size 1 _ _ hbox; have f2 := frozen_of_row w2 w.heap.size 2 _ _ hbox; have f3 := frozen_of_row w2 w.heap.size 3 _ _ hbox; have f4 := frozen_of_row w2 w.heap.size 4 _ _ hbox; have f5 := frozen_of_row w2 w.heap.size 5 _ _ hbox;
       simp only [List.getElem?_toArray, List.getElem?_cons_zero, List.getElem?_cons_succ] at d0 d1 d2 d3 d4 d5;
       rw [e0] at c2; rw [e1] at c3; rw [e2] at c4; rw [ee] at c5;
       have HR := Lib.hid (And.intro hTA (And.intro hB2 (And.intro e0 (And.intro e1 (And.intro e2 ee))))); have HT2 := Lib.hid hT2; clear hTA hB2 hT2 e0 e1 e2 ee hbox)
    | (go_at_call 109; refine (CT.out).mono ?_; rintro e w2 ⟨rfl, h⟩; replace HS := Lib.hid h; clear h))
  obtain ⟨hTA, hB2, e0, e1, e2, ee⟩ := HR.out
  rw [← e0, ← e1, ← e2, ← ee]
  have hX := storeTerm_touch w2 w.heap.size vt220P v ve
  have hBX : Below w.heap.size w (storeTerm w2 w.heap.size vt220P v ve) := (((Below.refl _ w).alloc (Nat.le_refl _) _).trans (hB2.mono (by simp))).trans (hX.below (by have := hB2.size; simp at this; omega) fun k hk => by omega)
  have hres := fun j => cell_of_row (storeTerm w2 w.heap.size vt220P v ve) w.heap.size j _ _ _ (storeTerm_box (t := vt220P) (v := v) (ve := ve) ((hB2.block _ (by simp)).trans (World.alloc_heap_new w _)))
  refine bodyPost_ret (v := termVal vt220P v ve) (by simp [results, Tryz.results58, go_sem, hres]) rfl ?_
  exact ⟨_, _, _, rfl, (hTA.same fun k _ hk => hX.block k (by omega) (by simp at hk; omega)).more fun k _ hk => by simp at hk; omega, hBX⟩

end Go.Proofs.YtcfgppjhgobboaaGreatDoor
