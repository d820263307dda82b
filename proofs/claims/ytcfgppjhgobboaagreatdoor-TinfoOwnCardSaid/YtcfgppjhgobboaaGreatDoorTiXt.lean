/-
  The entry xterm of package tinfo.
-/
import Derived.Test.YtcfgppjhgobboaaGreatDoorTmLive
namespace Go.Proofs.YtcfgppjhgobboaaGreatDoor
open Go.RowKit Go.Shelf Go.Lib
attribute [local go_sem] Oper.semAt_some

def xtermT : List (List UInt8 × List UInt8) :=
  [([107, 98, 115], [127]),
   ([107, 104, 111, 109, 101], [27, 79, 72]),
   ([107, 101, 110, 100], [27, 79, 70]),
   ([107, 99, 117, 98, 49], [27, 79, 68]),
   ([107, 99, 117, 102, 49], [27, 79, 67]),
   ([107, 99, 117, 117, 49], [27, 79, 65]),
   ([107, 99, 117, 100, 49], [27, 79, 66]),
   ([115, 109, 107, 120], [27, 91, 63, 49, 104, 27, 61]),
   ([114, 109, 107, 120], [27, 91, 63, 49, 108, 27, 62]),
   ([104, 112, 97], [27, 91, 37, 105, 37, 112, 49, 37, 100, 71]),
   ([118, 112, 97], [27, 91, 37, 105, 37, 112, 49, 37, 100, 100]),
   ([105, 99, 104, 49], [27, 91, 64]),
   ([105, 110, 100, 110], [27, 91, 37, 112, 49, 37, 100, 83]),
   ([114, 105, 110], [27, 91, 37, 112, 49, 37, 100, 84]),
   ([99, 98, 116], [27, 91, 90])]
def xtNames : List UInt8 := [120, 116, 101, 114, 109, 124, 97, 110, 32, 88, 32, 116, 101, 114, 109, 105, 110, 97, 108]
def xt0 : TermD := { vt220P with names := xtNames }
def xt1 : TermD := put1 (put1 xt0 [99, 111, 108, 111, 114, 115] ⟨1, 8, []⟩) [112, 97, 105, 114, 115] ⟨1, 64, []⟩
def xtermP : TermD := putsP xt1 (textCaps xtermT)
theorem xt_texts : (xtermT.all fun p => (placeP p.1).isSome) = true := by decide +kernel
theorem xt_nums : (placeP [99, 111, 108, 111, 114, 115]).isSome = true ∧ (placeP [112, 97, 105, 114, 115]).isSome = true := by decide +kernel

/-- an entry that a call returned, in another box under another name -/
theorem stage_renamed {w W2 : World} {tb : Nat} {v : Nat → Value} {ve : Value} {t : TermD} (hT : Tabs w) (hB : Below w.heap.size w W2) (h : TermAt W2 (fun k => w.heap.size ≤ k) tb v ve t) (nm : List UInt8) :
    Stage w W2.heap.size { t with names := nm } (W2.alloc (.cells #[str nm, .bool t.wide, v 0, v 1, v 2, ve] 26)) := by
  have hb := (Below.refl W2.heap.size W2).alloc (Nat.le_refl _) (.cells #[str nm, .bool t.wide, v 0, v 1, v 2, ve] 26)
  have hB' := hB.trans (hb.mono hB.size)
  have h' := h.below hb
  have hc := World.alloc_heap_new W2 (.cells #[str nm, .bool t.wide, v 0, v 1, v 2, ve] 26)
  refine ⟨hT.below hB', hT, hB', v, ve, hc, h'.rows, h'.exts, ⟨hB.size, (Array.getElem?_eq_some_iff.1 hc).1⟩, fun i hi b hb' => ?_, fun b hb' => ?_, h'.apart, h'.aparte⟩
  · have h1 := (h.own i hi b hb').1
    have h2 := (own_lt (h.rows i hi) b hb').2
    exact ⟨⟨h1, by rw [World.size_alloc]; omega⟩, by omega⟩
  · have h1 := (h.owne b hb').1
    have h2 := (own_lt h.exts b hb').2
    exact ⟨⟨h1, by rw [World.size_alloc]; omega⟩, by omega⟩

theorem stage_texts' {w W : World} {tb sb n : Nat} {t : TermD} (h : Stage w tb t W) (l : List (List UInt8 × List UInt8)) (hp : (l.all fun p => (placeP p.1).isSome) = true) (hl : l.length ≤ 1000) (hs : W.heap.size = sb) (hn : l.length = n) {cs : Array Value} (hcs : (setVals l).toArray = cs) :
    Calls Tryz.prog 109 #[.pointer (some ⟨tb, 0, none⟩), .slice (some ⟨sb, 0, none⟩) n n] (W.alloc (.cells cs 152)) fun e W' => e = .returned (.tuple #[]) ∧ Stage w tb (putsP t (textCaps l)) W' := by
  subst hn hcs
  exact stage_texts h l hp hl hs
set_option maxRecDepth 100000 in
set_option maxHeartbeats 2000000 in
theorem xterm_any (w : World) (hT : Tabs w) : Calls Tryz.prog 59 #[] w (EntryPost w xtermP) := by
  have HT := Lib.hid (hT.below ((Below.refl _ w).alloc (Nat.le_refl _) termZero))
  have CV := Lib.hid (vt220_any (w.alloc termZero) HT.out)
  clear hT
  go_enter Tryz.func59, Tryz.ntmps59
  go_wp2_with (first
    | (go_at_call 58; refine (CV.out).mono ?_; rintro e w2 ⟨tb, v, ve, he, hTA, hB2⟩; have hbox : w2.heap[w.heap.size]? = some termZero := (hB2.block _ (by simp)).trans (World.alloc_heap_new w _); obtain ⟨A0, n0, A1, n1, A2, n2, Ae, ne, e0, e1, e2, ee⟩ := hTA.forms; have he' : e = .returned (.agg #[str vt220P.names, .bool vt220P.wide, .slice A0 vt220P.bools.length n0, .slice A1 vt220P.nums.length n1, .slice A2 vt220P.strs.length n2, .slice Ae vt220P.exts.length ne]) := (by rw [he, termVal, e0, e1, e2, ee]); clear he; subst he'; have hs := stage_renamed HT.out hB2 hTA xtNames; rw [e0, e1, e2, ee] at hs; have HS := Lib.hid hs; clear hTA hB2 hbox hs e0 e1 e2 ee)
    | (go_at_call 108; refine (stage_number HS.out _ _ (by first | exact xt_nums.1 | exact xt_nums.2)).mono ?_; rintro e w3 ⟨rfl, h⟩; replace HS := Lib.hid h; clear h)
    | (go_at_call 109; refine (stage_texts' HS.out xtermT xt_texts (by decide) rfl rfl rfl).mono ?_; rintro e w4 ⟨rfl, h'⟩; have h : Stage (w.alloc termZero) w2.heap.size xtermP w4 := h'; clear HS h'; obtain ⟨hT4, _, hB4, v', ve', hTA⟩ := h;
       have hbox : w4.heap[w.heap.size]? = some termZero := (hB4.block _ (by simp)).trans (World.alloc_heap_new w _);
       obtain ⟨c0, c1, c2, c3, c4, c5⟩ := hTA.loads; obtain ⟨A0', n0', A1', n1', A2', n2', Ae', ne', e0, e1, e2, ee⟩ := hTA.forms;
       obtain ⟨d0, d1, d2, d3, d4, d5, f0, f1, f2, f3, f4, f5⟩ := termZero_facts hbox;
       rw [e0] at c2; rw [e1] at c3; rw [e2] at c4; rw [ee] at c5;
       have HR := Lib.hid (And.intro hTA (And.intro hB4 (And.intro e0 (And.intro e1 (And.intro e2 ee))))); clear hTA hB4 hT4 e0 e1 e2 ee hbox))
  obtain ⟨hTA, hB4, e0, e1, e2, ee⟩ := HR.out
  rw [← e0, ← e1, ← e2, ← ee]
  have hX := storeTerm_touch w4 w.heap.size xtermP v' ve'
  have hBX : Below w.heap.size w (storeTerm w4 w.heap.size xtermP v' ve') := (((Below.refl _ w).alloc (Nat.le_refl _) _).trans (hB4.mono (by simp))).trans (hX.below (by have := hB4.size; simp at this; omega) fun k hk => by omega)
  have hres := fun j => cell_of_row (storeTerm w4 w.heap.size xtermP v' ve') w.heap.size j _ _ _ (storeTerm_box (t := xtermP) (v := v') (ve := ve') ((hB4.block _ (by simp)).trans (World.alloc_heap_new w _)))
  refine bodyPost_ret (v := termVal xtermP v' ve') (by simp [results, Tryz.results59, go_sem, hres]) rfl ?_
  exact ⟨_, _, _, rfl, (hTA.same fun k _ hk => hX.block k (by omega) (by simp at hk; omega)).more fun k _ hk => by simp at hk; omega, hBX⟩
def xtName : List UInt8 := [120, 116, 101, 114, 109]
set_option maxRecDepth 100000 in
theorem shipped_xt (w : World) (hT : Tabs w) : Calls Tryz.prog 19 #[str xtName] w fun e w' =>
    ∃ tb v ve, e = .returned (.tuple #[termVal xtermP v ve, .bool true]) ∧ TermAt w' (fun k => w.heap.size ≤ k) tb v ve xtermP ∧ Below w.heap.size w w' := by
  have CV := Lib.hid (xterm_any (w.alloc termZero) (hT.below ((Below.refl _ w).alloc (Nat.le_refl _) _)))
  clear hT
  go_enter Tryz.func19, Tryz.ntmps19
  go_wp2_with (go_at_call 59; refine (CV.out).mono ?_; rintro e w2 ⟨tb, v, ve, he, hTA, hB2⟩; have hbox : w2.heap[w.heap.size]? = some termZero := (hB2.block _ (by simp)).trans (World.alloc_heap_new w _); have F := termZero_facts hbox; obtain ⟨d0, d1, d2, d3, d4, d5, f0, f1, f2, f3, f4, f5⟩ := F; obtain ⟨A0, n0, A1, n1, A2, n2, Ae, ne, e0, e1, e2, ee⟩ := hTA.forms; have he' : e = .returned (.agg #[str xtermP.names, .bool xtermP.wide, .slice A0 xtermP.bools.length n0, .slice A1 xtermP.nums.length n1, .slice A2 xtermP.strs.length n2, .slice Ae xtermP.exts.length ne]) := (by rw [he, termVal, e0, e1, e2, ee]); clear he; subst he'; have HR := Lib.hid (And.intro hTA (And.intro hB2 (And.intro hbox (And.intro e0 (And.intro e1 (And.intro e2 ee)))))); clear hTA hB2 hbox e0 e1 e2 ee)
  obtain ⟨hTA, hB2, hbox, e0, e1, e2, ee⟩ := HR.out
  rw [← e0, ← e1, ← e2, ← ee]
  have hX := storeTerm_touch w2 w.heap.size xtermP v ve
  have hBX : Below w.heap.size w (storeTerm w2 w.heap.size xtermP v ve) := (((Below.refl _ w).alloc (Nat.le_refl _) _).trans (hB2.mono (by simp))).trans (hX.below (by have := hB2.size; simp at this; omega) fun k hk => by omega)
  have hres := fun j => cell_of_row (storeTerm w2 w.heap.size xtermP v ve) w.heap.size j _ _ _ (storeTerm_box (t := xtermP) (v := v) (ve := ve) hbox)
  refine bodyPost_ret (v := .tuple #[termVal xtermP v ve, .bool true]) (by simp [results, Tryz.results19, go_sem, hres]) rfl ?_
  exact ⟨_, _, _, rfl, (hTA.same fun k _ hk => hX.block k (by omega) (by simp at hk; omega)).more fun k _ hk => by simp at hk; omega, hBX⟩
end Go.Proofs.YtcfgppjhgobboaaGreatDoor
