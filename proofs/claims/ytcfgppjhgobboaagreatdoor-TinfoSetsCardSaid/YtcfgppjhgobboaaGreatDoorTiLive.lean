/-
  The law package's own check: it returns true and writes nothing that was there.
-/
import Derived.Test.YtcfgppjhgobboaaGreatDoorTiSelf
namespace Go.Proofs.YtcfgppjhgobboaaGreatDoor
open Go.RowKit Go.Shelf Go.Lib
attribute [local go_sem] Oper.semAt_some

def vtName : List UInt8 := [118, 116, 50, 50, 48]
def cupName : List UInt8 := [99, 117, 112]
def cupText : List UInt8 := [27, 91, 37, 105, 37, 112, 49, 37, 100, 59, 37, 112, 50, 37, 100, 72]
theorem place_cup : placeP cupName = some (2, 10) := by decide +kernel
theorem place_am : placeP [97, 109] = some (0, 1) := by decide +kernel
theorem vt_cup : getP (listOf vt220P 2) 10 = ⟨1, 0, cupText⟩ := by decide +kernel
theorem vt_am : (getP (listOf vt220P 0) 1).st = 1 := by decide +kernel
theorem vt_small : vt220P.bools.length ≤ 1000 ∧ vt220P.nums.length ≤ 1000 ∧ vt220P.strs.length ≤ 1000 ∧ vt220P.exts.length ≤ 1000 := by decide +kernel

theorem TermAt.reads {W : World} {FP : Nat → Prop} {tb : Nat} {v : Nat → Value} {ve : Value} {t : TermD} (h : TermAt W FP tb v ve t) (hs : t.bools.length ≤ 1000 ∧ t.nums.length ≤ 1000 ∧ t.strs.length ≤ 1000 ∧ t.exts.length ≤ 1000) : TermV W v ve t := by
  refine ⟨fun i hi => (h.rows i hi).reads ?_, h.exts.reads (by omega)⟩
  match i, hi with
  | 0, _ => show t.bools.length * 32 ≤ _; omega
  | 1, _ => show t.nums.length * 32 ≤ _; omega
  | 2, _ => show t.strs.length * 32 ≤ _; omega

theorem termZero_facts {W : World} {b : Nat} (h : W.heap[b]? = some termZero) :
    W.cell? ⟨b, 0, none⟩ = some (.string ⟨#[]⟩) ∧ W.cell? ⟨b, 1, none⟩ = some (.bool false) ∧ W.cell? ⟨b, 2, none⟩ = some (.slice none 0 0) ∧ W.cell? ⟨b, 3, none⟩ = some (.slice none 0 0) ∧ W.cell? ⟨b, 4, none⟩ = some (.slice none 0 0) ∧ W.cell? ⟨b, 5, none⟩ = some (.slice none 0 0) ∧
    W.frozen? ⟨b, 0, none⟩ = false ∧ W.frozen? ⟨b, 1, none⟩ = false ∧ W.frozen? ⟨b, 2, none⟩ = false ∧ W.frozen? ⟨b, 3, none⟩ = false ∧ W.frozen? ⟨b, 4, none⟩ = false ∧ W.frozen? ⟨b, 5, none⟩ = false :=
  ⟨cell_of_row W b 0 _ _ _ h, cell_of_row W b 1 _ _ _ h, cell_of_row W b 2 _ _ _ h, cell_of_row W b 3 _ _ _ h, cell_of_row W b 4 _ _ _ h, cell_of_row W b 5 _ _ _ h, frozen_of_row W b 0 _ _ h, frozen_of_row W b 1 _ _ h, frozen_of_row W b 2 _ _ h, frozen_of_row W b 3 _ _ h, frozen_of_row W b 4 _ _ h, frozen_of_row W b 5 _ _ h⟩
set_option maxRecDepth 100000 in
theorem shipped_vt (w : World) (hT : Tabs w) : Calls Tryz.prog 19 #[str vtName] w fun e w' =>
    ∃ tb v ve, e = .returned (.tuple #[termVal vt220P v ve, .bool true]) ∧ TermAt w' (fun k => w.heap.size ≤ k) tb v ve vt220P ∧ Below w.heap.size w w' := by
  have CV := Lib.hid (vt220_any (w.alloc termZero) (hT.below ((Below.refl _ w).alloc (Nat.le_refl _) _)))
  clear hT
  go_enter Tryz.func19, Tryz.ntmps19
  go_wp2_with (go_at_call 58; refine (CV.out).mono ?_; rintro e w2 ⟨tb, v, ve, he, hTA, hB2⟩; have hbox : w2.heap[w.heap.size]? = some termZero := (hB2.block _ (by simp)).trans (World.alloc_heap_new w _); have F := termZero_facts hbox; obtain ⟨d0, d1, d2, d3, d4, d5, f0, f1, f2, f3, f4, f5⟩ := F; obtain ⟨A0, n0, A1, n1, A2, n2, Ae, ne, e0, e1, e2, ee⟩ := hTA.forms; have he' : e = .returned (.agg #[str vt220P.names, .bool vt220P.wide, .slice A0 vt220P.bools.length n0, .slice A1 vt220P.nums.length n1, .slice A2 vt220P.strs.length n2, .slice Ae vt220P.exts.length ne]) := (by rw [he, termVal, e0, e1, e2, ee]); clear he; subst he'; have HR := Lib.hid (And.intro hTA (And.intro hB2 (And.intro hbox (And.intro e0 (And.intro e1 (And.intro e2 ee)))))); clear hTA hB2 hbox e0 e1 e2 ee)
  obtain ⟨hTA, hB2, hbox, e0, e1, e2, ee⟩ := HR.out
  rw [← e0, ← e1, ← e2, ← ee]
  have hX := storeTerm_touch w2 w.heap.size vt220P v ve
  have hBX : Below w.heap.size w (storeTerm w2 w.heap.size vt220P v ve) := (((Below.refl _ w).alloc (Nat.le_refl _) _).trans (hB2.mono (by simp))).trans (hX.below (by have := hB2.size; simp at this; omega) fun k hk => by omega)
  have hres := fun j => cell_of_row (storeTerm w2 w.heap.size vt220P v ve) w.heap.size j _ _ _ (storeTerm_box (t := vt220P) (v := v) (ve := ve) hbox)
  refine bodyPost_ret (v := .tuple #[termVal vt220P v ve, .bool true]) (by simp [results, Tryz.results19, go_sem, hres]) rfl ?_
  exact ⟨_, _, _, rfl, (hTA.same fun k _ hk => hX.block k (by omega) (by simp at hk; omega)).more fun k _ hk => by simp at hk; omega, hBX⟩

/-- the entry, its lists laid open -/
structure VtV (W : World) (A0 A1 A2 Ae : Option Addr) (n0 n1 n2 ne : Nat) : Prop where
  has : ∃ v ve, TermV W v ve vt220P ∧ v 0 = .slice A0 vt220P.bools.length n0 ∧ v 1 = .slice A1 vt220P.nums.length n1 ∧ v 2 = .slice A2 vt220P.strs.length n2 ∧ ve = .slice Ae vt220P.exts.length ne
  tabs : Tabs W
abbrev vtCells (A0 A1 A2 Ae : Option Addr) (n0 n1 n2 ne : Nat) : Array Value := #[str vt220P.names, .bool vt220P.wide, .slice A0 vt220P.bools.length n0, .slice A1 vt220P.nums.length n1, .slice A2 vt220P.strs.length n2, .slice Ae vt220P.exts.length ne]
section
variable {w2 W W' : World} {A0 A1 A2 Ae : Option Addr} {n0 n1 n2 ne : Nat}
theorem VtV.below (h : VtV W A0 A1 A2 Ae n0 n1 n2 ne) (hb : Below W.heap.size W W') : VtV W' A0 A1 A2 Ae n0 n1 n2 ne := by
  obtain ⟨⟨v, ve, h1, h2⟩, hT⟩ := h
  exact ⟨⟨v, ve, h1.below hb, h2⟩, hT.below hb⟩
theorem VtV.text (h : VtV W A0 A1 A2 Ae n0 n1 n2 ne) : Calls Tryz.prog 29 #[.agg #[str vt220P.names, .bool vt220P.wide, .slice A0 vt220P.bools.length n0, .slice A1 vt220P.nums.length n1, .slice A2 vt220P.strs.length n2, .slice Ae vt220P.exts.length ne], str cupName] W fun e w' => e = .returned (.tuple #[str cupText, .bool true]) ∧ Below W.heap.size W w' := by
  obtain ⟨⟨v, ve, h1, e0, e1, e2, ee⟩, hT⟩ := h
  have := text_yes W vt220P v ve h1 hT cupName 10 place_cup (by rw [show (10 : Int).toNat = 10 from rfl, vt_cup])
  rw [show (10 : Int).toNat = 10 from rfl, vt_cup, termVal, e0, e1, e2, ee] at this
  exact this
theorem VtV.flag (h : VtV W A0 A1 A2 Ae n0 n1 n2 ne) : Calls Tryz.prog 31 #[.agg #[str vt220P.names, .bool vt220P.wide, .slice A0 vt220P.bools.length n0, .slice A1 vt220P.nums.length n1, .slice A2 vt220P.strs.length n2, .slice Ae vt220P.exts.length ne], str [97, 109]] W fun e w' => e = .returned (.bool true) ∧ Below W.heap.size W w' := by
  obtain ⟨⟨v, ve, h1, e0, e1, e2, ee⟩, hT⟩ := h
  have := flag_yes W vt220P v ve h1 hT [97, 109] 1 place_am vt_am
  rw [termVal, e0, e1, e2, ee] at this
  exact this
theorem VtV.same (h : VtV W A0 A1 A2 Ae n0 n1 n2 ne) : Calls Tryz.prog 13 #[.agg #[str vt220P.names, .bool vt220P.wide, .slice A0 vt220P.bools.length n0, .slice A1 vt220P.nums.length n1, .slice A2 vt220P.strs.length n2, .slice Ae vt220P.exts.length ne], .agg #[str vt220P.names, .bool vt220P.wide, .slice A0 vt220P.bools.length n0, .slice A1 vt220P.nums.length n1, .slice A2 vt220P.strs.length n2, .slice Ae vt220P.exts.length ne]] W fun e w' => e = .returned (.bool true) ∧ Below W.heap.size W w' := by
  obtain ⟨⟨v, ve, h1, e0, e1, e2, ee⟩, hT⟩ := h
  have := same_self W vt220P v ve h1
  rw [termVal, e0, e1, e2, ee] at this
  exact this
/-- between the calls of live: the entry lies in its box -/
def LiveS (w2 W : World) (A0 A1 A2 Ae : Option Addr) (n0 n1 n2 ne : Nat) : Prop := VtV W A0 A1 A2 Ae n0 n1 n2 ne ∧ Below w2.heap.size w2 W ∧ W.heap[w2.heap.size]? = some (.cells (vtCells A0 A1 A2 Ae n0 n1 n2 ne) 26 (0, 0))
theorem LiveS.next (h : LiveS w2 W A0 A1 A2 Ae n0 n1 n2 ne) (hb : Below W.heap.size W W') : LiveS w2 W' A0 A1 A2 Ae n0 n1 n2 ne :=
  ⟨h.1.below hb, h.2.1.trans (hb.mono h.2.1.size), (hb.block _ (Array.getElem?_eq_some_iff.1 h.2.2).1).trans h.2.2⟩
theorem LiveS.cells (h : LiveS w2 W A0 A1 A2 Ae n0 n1 n2 ne) : W.cell? ⟨w2.heap.size, 0, none⟩ = some (str vt220P.names) ∧ W.cell? ⟨w2.heap.size, 1, none⟩ = some (.bool vt220P.wide) ∧ W.cell? ⟨w2.heap.size, 2, none⟩ = some (.slice A0 vt220P.bools.length n0) ∧ W.cell? ⟨w2.heap.size, 3, none⟩ = some (.slice A1 vt220P.nums.length n1) ∧
    W.cell? ⟨w2.heap.size, 4, none⟩ = some (.slice A2 vt220P.strs.length n2) ∧ W.cell? ⟨w2.heap.size, 5, none⟩ = some (.slice Ae vt220P.exts.length ne) :=
  ⟨cell_of_row W _ 0 _ _ _ h.2.2, cell_of_row W _ 1 _ _ _ h.2.2, cell_of_row W _ 2 _ _ _ h.2.2, cell_of_row W _ 3 _ _ _ h.2.2, cell_of_row W _ 4 _ _ _ h.2.2, cell_of_row W _ 5 _ _ _ h.2.2⟩
end
theorem place_cup_any (w : World) (hT : Tabs w) : Calls Tryz.prog 30 #[str cupName] w fun e w' => e = .returned (.tuple #[.int .i64 2, .int .i64 10, .bool true]) ∧ Below w.heap.size w w' :=
  (place_any cupName w hT.run).mono fun _ _ ⟨h1, h2⟩ => ⟨by rw [h1]; unfold placeRes; rw [place_cup], h2⟩
/-- the law package's own check -/
def LivePost (w : World) (e : Ending) (w' : World) : Prop := e = .returned (.bool true) ∧ Below w.heap.size w w'

set_option maxRecDepth 100000 in
set_option maxHeartbeats 4000000 in
theorem live_any (w : World) (hT : Tabs w) : Calls Tryz.prog 9 #[] w (LivePost w) := by
  have CS := Lib.hid (shipped_vt w hT)
  have HT := Lib.hid hT
  clear hT
  go_enter Tryz.func9, Tryz.ntmps9
  go_wp2_with (first
    | (go_at_call 19; refine (CS.out).mono ?_; rintro e w2 ⟨tb, v, ve, he, hTA, hB2⟩; obtain ⟨A0, n0, A1, n1, A2, n2, Ae, ne, e0, e1, e2, ee⟩ := hTA.forms; have he' : e = .returned (.tuple #[.agg #[str vt220P.names, .bool vt220P.wide, .slice A0 vt220P.bools.length n0, .slice A1 vt220P.nums.length n1, .slice A2 vt220P.strs.length n2, .slice Ae vt220P.exts.length ne], .bool true]) := (by rw [he, termVal, e0, e1, e2, ee]); clear he; subst he'; have HB2 := Lib.hid hB2; have HS := Lib.hid (show LiveS w2 (w2.alloc (.cells (vtCells A0 A1 A2 Ae n0 n1 n2 ne) 26)) A0 A1 A2 Ae n0 n1 n2 ne from ⟨VtV.below ⟨⟨v, ve, hTA.reads vt_small, e0, e1, e2, ee⟩, HT.out.below hB2⟩ ((Below.refl _ _).alloc (Nat.le_refl _) _), (Below.refl _ _).alloc (Nat.le_refl _) _, World.alloc_heap_new w2 _⟩); clear CS hTA hB2 e0 e1 e2 ee)
    | (go_at_call 29; refine (HS.out.1.text).mono ?_; rintro e W ⟨rfl, hb⟩; replace HS := Lib.hid (HS.out.next hb); clear hb)
    | (go_at_call 30; refine (place_cup_any _ HS.out.1.tabs).mono ?_; rintro e W ⟨rfl, hb⟩; replace HS := Lib.hid (HS.out.next hb); obtain ⟨b0, b1, b2, b3, b4, b5⟩ := HS.out.cells; clear hb)
    | (go_at_call 31; refine (HS.out.1.flag).mono ?_; rintro e W ⟨rfl, hb⟩; replace HS := Lib.hid (HS.out.next hb); clear b0 b1 b2 b3 b4 b5; obtain ⟨b0, b1, b2, b3, b4, b5⟩ := HS.out.cells; clear hb)
    | (go_at_call 13; refine (HS.out.1.same).mono ?_; rintro e W ⟨rfl, hb⟩; replace HS := Lib.hid (HS.out.next hb); clear hb b0 b1 b2 b3 b4 b5))
  go_ret
  exact ⟨rfl, HB2.out.trans (HS.out.2.1.mono HB2.out.size)⟩

end Go.Proofs.YtcfgppjhgobboaaGreatDoor
