/-
  What present, Text and Flag of package tinfo return, where the entry has what is asked for.
-/
import Derived.Test.YtcfgppjhgobboaaGreatDoorTiFind
namespace Go.Proofs.YtcfgppjhgobboaaGreatDoor
open Go.RowKit Go.Shelf Go.Lib
attribute [local go_sem] Oper.semAt_some

theorem capZero_facts {W : World} {b : Nat} (h : W.heap[b]? = some capZero) : W.cell? ⟨b, 0, none⟩ = some (.int .i64 0) ∧ W.cell? ⟨b, 1, none⟩ = some (.int .i64 0) ∧ W.cell? ⟨b, 2, none⟩ = some (.string ⟨#[]⟩) ∧ W.frozen? ⟨b, 0, none⟩ = false ∧ W.frozen? ⟨b, 1, none⟩ = false ∧ W.frozen? ⟨b, 2, none⟩ = false :=
  ⟨cell_of_row W b 0 _ _ _ h, cell_of_row W b 1 _ _ _ h, cell_of_row W b 2 _ _ _ h, frozen_of_row W b 0 _ _ h, frozen_of_row W b 1 _ _ h, frozen_of_row W b 2 _ _ h⟩

set_option maxRecDepth 100000 in
set_option maxHeartbeats 2000000 in
theorem present_yes (w : World) (t : TermD) (v : Nat → Value) (ve : Value) (h : TermV w v ve t) (hT : Tabs w) (name : List UInt8) (k n : Int) (hp : placeP name = some (k, n)) (hc : (getP (listOf t k) n.toNat).st = 1) :
    Calls Tryz.prog 84 #[termVal t v ve, str name, .int .i64 k] w fun e w' => e = .returned (.tuple #[capVal (getP (listOf t k) n.toNat), .bool true]) ∧ Below w.heap.size w w' := by
  have CF := Lib.hid (fun W (hb : Below w.heap.size w W) => find_known W t v ve (h.below hb) (hT.below hb) name k n hp)
  clear h hT hp
  generalize getP (listOf t k) n.toNat = c at *
  obtain ⟨st, num, text⟩ := c
  simp only at hc
  subst hc
  unfold FoundPost at CF
  go_enter Tryz.func84, Tryz.ntmps84
  go_wp2_with (go_at_call 56; refine (CF.out _ (((Below.refl _ w).alloc (Nat.le_refl _) _).alloc (by simp) _)).mono ?_; rintro e w2 ⟨rfl, hb2⟩; obtain ⟨x1, x2, x3, x4⟩ := two_boxes hb2; have HB2 := Lib.hid (And.intro x1 (And.intro x2 (And.intro x3 x4))); have D := (fun o => capZero_facts ((Below.heap_alloc w2 o (w.heap.size + 1) x4).trans x2)); have d0 := (fun o => (D o).1); have d1 := (fun o => (D o).2.1); have d2 := (fun o => (D o).2.2.1); have f0 := (fun o => (D o).2.2.2.1); have f1 := (fun o => (D o).2.2.2.2.1); have f2 := (fun o => (D o).2.2.2.2.2); clear D; clear hb2 x1 x2 x3 x4)
  have hB3 := HB2.out.2.2.1.trans (((Below.refl _ w2).alloc (Nat.le_refl _) (.cells #[.int .i64 1, .int .i64 num, str text] 37)).mono HB2.out.2.2.1.size)
  have hbox := (Below.heap_alloc w2 (.cells #[.int .i64 1, .int .i64 num, str text] 37) (w.heap.size + 1) HB2.out.2.2.2).trans HB2.out.2.1
  generalize w2.alloc (.cells #[.int .i64 1, .int .i64 num, str text] 37) = w3 at *
  have hX := storeCap_touch w3 (w.heap.size + 1) ⟨1, num, text⟩
  obtain ⟨r0, r1, r2⟩ := storeCap_cells (c := ⟨1, num, text⟩) hbox
  refine bodyPost_ret (v := .tuple #[.agg #[.int .i64 1, .int .i64 num, str text], .bool true]) (by simp [results, Tryz.results84, go_sem, r0, r1, r2]) rfl ?_
  exact ⟨rfl, hB3.trans (hX.below hB3.size fun k hk => by omega)⟩

set_option maxRecDepth 100000 in
theorem text_yes (w : World) (t : TermD) (v : Nat → Value) (ve : Value) (h : TermV w v ve t) (hT : Tabs w) (name : List UInt8) (n : Int) (hp : placeP name = some (2, n)) (hc : (getP (listOf t 2) n.toNat).st = 1) :
    Calls Tryz.prog 29 #[termVal t v ve, str name] w fun e w' => e = .returned (.tuple #[str (getP (listOf t 2) n.toNat).text, .bool true]) ∧ Below w.heap.size w w' := by
  have CF := Lib.hid (fun W (hb : Below w.heap.size w W) => present_yes W t v ve (h.below hb) (hT.below hb) name 2 n hp hc)
  clear h hT hp hc
  generalize getP (listOf t 2) n.toNat = c at *
  go_enter Tryz.func29, Tryz.ntmps29
  go_wp2_with (go_at_call 84; refine (CF.out _ ((Below.refl _ w).alloc (Nat.le_refl _) _)).mono ?_; rintro e w2 ⟨rfl, hb2⟩; have HB2 := Lib.hid (((Below.refl _ w).alloc (Nat.le_refl _) _).trans (hb2.mono (by simp))); clear hb2)
  go_ret2
  exact ⟨rfl, HB2.out.alloc HB2.out.size _⟩

set_option maxRecDepth 100000 in
theorem flag_yes (w : World) (t : TermD) (v : Nat → Value) (ve : Value) (h : TermV w v ve t) (hT : Tabs w) (name : List UInt8) (n : Int) (hp : placeP name = some (0, n)) (hc : (getP (listOf t 0) n.toNat).st = 1) :
    Calls Tryz.prog 31 #[termVal t v ve, str name] w fun e w' => e = .returned (.bool true) ∧ Below w.heap.size w w' := by
  have CF := Lib.hid (fun W (hb : Below w.heap.size w W) => present_yes W t v ve (h.below hb) (hT.below hb) name 0 n hp hc)
  clear h hT hp hc
  generalize getP (listOf t 0) n.toNat = c at *
  go_enter Tryz.func31, Tryz.ntmps31
  go_wp2_with (go_at_call 84; refine (CF.out _ ((Below.refl _ w).alloc (Nat.le_refl _) _)).mono ?_; rintro e w2 ⟨rfl, hb2⟩; have HB2 := Lib.hid (((Below.refl _ w).alloc (Nat.le_refl _) _).trans (hb2.mono (by simp))); clear hb2)
  go_ret
  exact ⟨rfl, HB2.out.alloc HB2.out.size _⟩

end Go.Proofs.YtcfgppjhgobboaaGreatDoor
