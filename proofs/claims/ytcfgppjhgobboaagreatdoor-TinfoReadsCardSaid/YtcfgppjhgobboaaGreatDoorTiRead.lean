/-
  Read of package tinfo: what it returns.
-/
import Derived.Test.YtcfgppjhgobboaaGreatDoorTiTerm2
import Derived.Recover
import Derived.Defers
import Derived.Tactics2
namespace Go.Proofs.YtcfgppjhgobboaaGreatDoor
open Go.RowKit Go.Shelf Go.Lib
attribute [local go_sem] Oper.semAt_some

abbrev flawV (p : Nat) (er : Int) : Value := .iface 56 (.agg #[.int .i64 p, .int .i64 er])
theorem assert_nil (w : World) : (Instr.typeAssert .nilIface 20 56 true).run Tryz.prog w = .ok (.tuple #[.agg #[.int .i64 0, .int .i64 0], .bool false]) w := by kernel_rfl
theorem assert_flaw (p er : Int) (w : World) : (Instr.typeAssert (.iface 56 (.agg #[.int .i64 p, .int .i64 er])) 20 56 true).run Tryz.prog w = .ok (.tuple #[.agg #[.int .i64 p, .int .i64 er], .bool true]) w := by kernel_rfl
/-- the results of Read behind a flaw -/
structure CaughtAt (tb ab eb p : Nat) (er : Int) (w w' : World) : Prop where
  ht : Touch (fun k => k = tb ∨ k = ab ∨ k = eb) w w'
  h1 : w'.heap[tb]? = some termZero
  h2 : w'.heap[ab]? = some (.cells #[.int .i64 p] 3 (0, 0))
  h3 : w'.heap[eb]? = some (.cells #[.int .i64 er] 27 (0, 0))
theorem CaughtAt.made (tb ab eb p : Nat) (er : Int) (w : World) (h1 : w.heap[tb]? = some termZero) (h2 : w.heap[ab]? = some (.cells #[.int .i64 0] 3 (0, 0))) (h3 : w.heap[eb]? = some (.cells #[.int .i64 0] 27 (0, 0))) (hne : tb ≠ ab ∧ tb ≠ eb ∧ ab ≠ eb) :
    CaughtAt tb ab eb p er w (((((storeTerm w tb term00 (fun _ => .slice none 0 0) (.slice none 0 0)).setCell ⟨ab, 0, none⟩ (.int .i64 p)).setCell ⟨eb, 0, none⟩ (.int .i64 er)).alloc (.cells #[.int .i64 p, .int .i64 er] 56)).drew) := by
  obtain ⟨n1, n2, n3⟩ := hne
  have b1 := (Array.getElem?_eq_some_iff.1 h1).1
  have b2 := (Array.getElem?_eq_some_iff.1 h2).1
  have b3 := (Array.getElem?_eq_some_iff.1 h3).1
  obtain ⟨s, hs⟩ : ∃ s, storeTerm w tb term00 (fun _ => .slice none 0 0) (.slice none 0 0) = s := ⟨_, rfl⟩
  have t0 : Touch (fun k => k = tb) w s := hs ▸ storeTerm_touch w tb term00 _ _
  have x1 : s.heap[tb]? = some termZero := by rw [← hs]; exact storeTerm_box (t := term00) (v := fun _ => .slice none 0 0) (ve := .slice none 0 0) h1
  rw [hs]
  clear hs
  have t1 : Touch (fun k => k = ab) s (s.setCell ⟨ab, 0, none⟩ (.int .i64 p)) := Touch.setCell (T := fun k => k = ab) s ⟨ab, 0, none⟩ _ rfl
  have x2 := heap_setCell_same s ab 0 _ _ (.int .i64 p) ((t0.block ab b2 (by omega)).trans h2)
  have t2 := Touch.setCell (T := fun k => k = eb) (s.setCell ⟨ab, 0, none⟩ (.int .i64 p)) ⟨eb, 0, none⟩ (.int .i64 er) rfl
  have s0 := t0.size
  have s1 := t1.size
  have s2 := t2.size
  have x3 := heap_setCell_same (s.setCell ⟨ab, 0, none⟩ (.int .i64 p)) eb 0 _ _ (.int .i64 er) ((t1.block eb (by omega) (by omega)).trans ((t0.block eb b3 (by omega)).trans h3))
  have hb := ((Below.refl _ ((s.setCell ⟨ab, 0, none⟩ (.int .i64 p)).setCell ⟨eb, 0, none⟩ (.int .i64 er))).alloc (Nat.le_refl _) (.cells #[.int .i64 p, .int .i64 er] 56)).drew
  refine ⟨?_, ?_, ?_, ?_⟩
  · exact (((t0.mono fun k _ hk => .inl hk).trans (t1.mono fun k _ hk => .inr (.inl hk))).trans (t2.mono fun k _ hk => .inr (.inr hk))).trans (Touch.of_below hb)
  · exact (hb.block tb (by omega)).trans ((t2.block tb (by omega) (by omega)).trans ((t1.block tb (by omega) (by omega)).trans x1))
  · exact (hb.block ab (by omega)).trans ((t2.block ab (by omega) (by omega)).trans x2)
  · exact (hb.block eb (by omega)).trans x3
theorem arr16 (a b c d e f g h i j u : Value) : #[a, b, c] ++ (((((((Array.replicate 13 u).setIfInBounds 3 g).setIfInBounds 4 h).setIfInBounds 2 f).setIfInBounds 5 i).setIfInBounds 6 j).setIfInBounds 0 d).setIfInBounds 1 e = #[a, b, c, d, e, f, g, h, i, j, u, u, u, u, u, u] := by kernel_rfl
set_option maxRecDepth 100000 in
set_option maxHeartbeats 2000000 in
theorem catch_idle (tb ab eb : Nat) (w : World) :
    CallsD Tryz.prog 23 #[.pointer (some ⟨tb, 0, none⟩), .pointer (some ⟨ab, 0, none⟩), .pointer (some ⟨eb, 0, none⟩)] .returning w fun e u' w' => e = .returned (.tuple #[]) ∧ u' = .returning ∧ Below w.heap.size w w' := by
  refine callsD_of_wpS Tryz.func23 rfl fun c₀ cs hu => ?_
  apply wpS_seq
  apply wpS_region
  simp [wpOpsS, go_sem, recoverD, hu, Tryz.ntmps23, Exit.thenS, assert_nil]
  refine wpS_of_wp ?_
  go_wp2
  exact ⟨rfl, .returning, by rw [← hu], .tuple #[], by simp [results, Tryz.results23, go_sem], rfl, rfl, (Below.refl _ _).alloc (Nat.le_refl _) _⟩
set_option maxRecDepth 100000 in
set_option maxHeartbeats 2000000 in
theorem catch_flaw (tb ab eb : Nat) (w : World) (p : Nat) (er : Int) (h1 : w.heap[tb]? = some termZero) (h2 : w.heap[ab]? = some (.cells #[.int .i64 0] 3 (0, 0))) (h3 : w.heap[eb]? = some (.cells #[.int .i64 0] 27 (0, 0))) (hne : tb ≠ ab ∧ tb ≠ eb ∧ ab ≠ eb) :
    CallsD Tryz.prog 23 #[.pointer (some ⟨tb, 0, none⟩), .pointer (some ⟨ab, 0, none⟩), .pointer (some ⟨eb, 0, none⟩)] (.panicking [{ v := flawV p er, recovered := false }]) w fun e u' w' => e = .returned (.tuple #[]) ∧ u' = .panicking [{ v := flawV p er, recovered := true }] ∧ CaughtAt tb ab eb p er w w' := by
  have HC := Lib.hid (CaughtAt.made tb ab eb p er w h1 h2 h3 hne)
  have b1 := (termZero_facts h1)
  have b2 := And.intro (cell_of_row w ab 0 _ _ _ h2) (frozen_of_row w ab 0 _ _ h2)
  have b3 := And.intro (cell_of_row w eb 0 _ _ _ h3) (frozen_of_row w eb 0 _ _ h3)
  obtain ⟨d0, d1, d2, d3, d4, d5, f0, f1, f2, f3, f4, f5⟩ := b1
  obtain ⟨g0, g1⟩ := b2
  obtain ⟨j0, j1⟩ := b3
  obtain ⟨n1, n2, n3⟩ := hne
  have hlt := (Array.getElem?_eq_some_iff.1 h1).1
  have hlt2 := (Array.getElem?_eq_some_iff.1 h2).1
  have hlt3 := (Array.getElem?_eq_some_iff.1 h3).1
  clear h1 h2 h3
  refine callsD_of_wpS Tryz.func23 rfl fun c₀ cs hu => ?_
  apply wpS_seq
  apply wpS_region
  simp [wpOpsS, go_sem, recoverD, hu, Tryz.ntmps23, Exit.thenS, assert_flaw]
  refine wpS_of_wp ?_
  rw [arr16]
  have hbz : ∀ W, (Instr.build 26 #[]).run Tryz.prog W = .ok (.agg #[.string ⟨#[]⟩, .bool false, .slice none 0 0, .slice none 0 0, .slice none 0 0, .slice none 0 0]) W := fun W => by kernel_rfl
  go_wp2
  go_region
  refine ⟨rfl, _, rfl, .tuple #[], by simp [results, Tryz.results23, go_sem], rfl, rfl, ?_⟩
  exact HC.out
theorem RdAt.made (w : World) (v : Value) (b : List UInt8) (hw : ∀ W', Below w.heap.size w W' → BytesV W' v b) : RdAt (w.alloc (.cells #[v, .int .i64 0, .int .i64 0] 60)) w.heap.size v b 0 0 :=
  ⟨World.alloc_heap_new _ _, fun W' ht => hw W' (((Below.refl _ w).alloc (Nat.le_refl _) _).trans (ht.below (by simp) fun k hk => by omega)), Nat.zero_le _⟩
/-- where Read begins: the boxes of its results, its reader -/
abbrev readW (w : World) (v : Value) : World := (((w.alloc termZero).alloc (.cells #[.int .i64 0] 3)).alloc (.cells #[.int .i64 0] 27)).alloc (.cells #[v, .int .i64 0, .int .i64 0] 60)
structure ReadAt (w w4 : World) (v : Value) (b : List UInt8) : Prop where
  rd : RdAt w4 (w.heap.size + 1 + 1 + 1) v b 0 0
  tabs : RobP (fun k => k = w.heap.size + 1 + 1 + 1) w4 Tabs
  below : Below w.heap.size w w4
  size : w4.heap.size = w.heap.size + 1 + 1 + 1 + 1
  h1 : w4.heap[w.heap.size]? = some termZero
  h2 : w4.heap[w.heap.size + 1]? = some (.cells #[.int .i64 0] 3 (0, 0))
  h3 : w4.heap[w.heap.size + 1 + 1]? = some (.cells #[.int .i64 0] 27 (0, 0))
theorem ReadAt.made (w : World) (v : Value) (b : List UInt8) (h : BytesV w v b) (hT : Tabs w) : ReadAt w (readW w v) v b := by
  obtain ⟨w1, h1⟩ : ∃ w1, w.alloc termZero = w1 := ⟨_, rfl⟩
  obtain ⟨w2, h2⟩ : ∃ w2, w1.alloc (.cells #[.int .i64 0] 3) = w2 := ⟨_, rfl⟩
  obtain ⟨w3, h3⟩ : ∃ w3, w2.alloc (.cells #[.int .i64 0] 27) = w3 := ⟨_, rfl⟩
  have s1 : w1.heap.size = w.heap.size + 1 := by rw [← h1]; simp
  have s2 : w2.heap.size = w.heap.size + 1 + 1 := by rw [← h2]; simp [s1]
  have s3 : w3.heap.size = w.heap.size + 1 + 1 + 1 := by rw [← h3]; simp [s2]
  have b1 : Below w.heap.size w w1 := h1 ▸ (Below.refl _ w).alloc (Nat.le_refl _) _
  have b2 : Below w1.heap.size w1 w2 := h2 ▸ (Below.refl _ w1).alloc (Nat.le_refl _) _
  have b3 : Below w2.heap.size w2 w3 := h3 ▸ (Below.refl _ w2).alloc (Nat.le_refl _) _
  have b4 : Below w3.heap.size w3 (w3.alloc (.cells #[v, .int .i64 0, .int .i64 0] 60)) := (Below.refl _ w3).alloc (Nat.le_refl _) _
  have x1 : w1.heap[w.heap.size]? = some termZero := h1 ▸ World.alloc_heap_new w _
  have x2 : w2.heap[w.heap.size + 1]? = some (.cells #[.int .i64 0] 3 (0, 0)) := s1 ▸ h2 ▸ World.alloc_heap_new w1 _
  have x3 : w3.heap[w.heap.size + 1 + 1]? = some (.cells #[.int .i64 0] 27 (0, 0)) := s2 ▸ h3 ▸ World.alloc_heap_new w2 _
  have hb3 : Below w.heap.size w w3 := b1.trans ((b2.mono (by omega)).trans (b3.mono (by omega)))
  unfold readW
  rw [h1, h2, h3]
  refine ⟨s3 ▸ RdAt.made w3 v b fun W' hW => h.below (hb3.trans (hW.mono (by omega))), fun W' ht => hT.below ((hb3.trans (b4.mono (by omega))).trans (ht.below (by simp; omega) fun k hk => by omega)), hb3.trans (b4.mono (by omega)), by simp; omega, ?_, ?_, ?_⟩
  · exact (b4.block _ (by omega)).trans ((b3.block _ (by omega)).trans ((b2.block _ (by omega)).trans x1))
  · exact (b4.block _ (by omega)).trans ((b3.block _ (by omega)).trans x2)
  · exact (b4.block _ (by omega)).trans x3
def ReadPost (w : World) (b : List UInt8) (e : Ending) (w' : World) : Prop :=
  Below w.heap.size w w' ∧ match readAll b with
    | .error q => e = .returned (.tuple #[termVal term00 (fun _ => .slice none 0 0) (.slice none 0 0), .int .i64 q.1, .int .i64 q.2])
    | .ok t => ∃ x0 x1 x2 xe, e = .returned (.tuple #[termVal t (tri x0 x1 x2) xe, .int .i64 0, .int .i64 0]) ∧ RobT (fun k => k < w.heap.size) w' (tri x0 x1 x2) xe t
/-- behind the stores of the results -/
structure ReadOk (w w6 : World) (b : List UInt8) (t : TermD) (x0 x1 x2 xe : Value) : Prop where
  below : Below w.heap.size w w6
  size : w.heap.size + 1 + 1 < w6.heap.size
  rob : RobT (fun k => k < w.heap.size) w6 (tri x0 x1 x2) xe t
  h1 : w6.heap[w.heap.size]? = some (.cells #[str t.names, .bool t.wide, x0, x1, x2, xe] 26 (0, 0))
  h2 : w6.heap[w.heap.size + 1]? = some (.cells #[.int .i64 0] 3 (0, 0))
  h3 : w6.heap[w.heap.size + 1 + 1]? = some (.cells #[.int .i64 0] 27 (0, 0))
theorem ReadOk.made (w : World) (v : Value) (w5 : World) (b : List UInt8) (t : TermD) (x0 x1 x2 xe : Value) (hA : ReadAt w (readW w v) v b) (ht : Touch (fun k => k = w.heap.size + 1 + 1 + 1) (readW w v) w5) (hrob : RobT (fun k => k < (readW w v).heap.size) w5 (tri x0 x1 x2) xe t) :
    ReadOk w (((storeTerm w5 w.heap.size t (tri x0 x1 x2) xe).setCell ⟨w.heap.size + 1, 0, none⟩ (.int .i64 0)).setCell ⟨w.heap.size + 1 + 1, 0, none⟩ (.int .i64 0)) b t x0 x1 x2 xe := by
  have z := hA.size
  have z1 := ht.size
  have hB := hA.below
  have hC := (ht.block w.heap.size (by omega) (by omega)).trans hA.h1
  have hC2 := (ht.block (w.heap.size + 1) (by omega) (by omega)).trans hA.h2
  have hC3 := (ht.block (w.heap.size + 1 + 1) (by omega) (by omega)).trans hA.h3
  generalize readW w v = w4 at *
  have t0 := storeTerm_touch w5 w.heap.size t (tri x0 x1 x2) xe
  have y1 : (storeTerm w5 w.heap.size t (tri x0 x1 x2) xe).heap[w.heap.size]? = some (.cells #[str t.names, .bool t.wide, x0, x1, x2, xe] 26 (0, 0)) := storeTerm_box hC
  generalize storeTerm w5 w.heap.size t (tri x0 x1 x2) xe = s at *
  have t1 := Touch.setCell (T := fun k => k = w.heap.size + 1) s ⟨w.heap.size + 1, 0, none⟩ (.int .i64 0) rfl
  have y2 := heap_setCell_same s (w.heap.size + 1) 0 _ _ (.int .i64 0) ((t0.block _ (by omega) (by omega)).trans hC2)
  have s0 := t0.size
  have s1 := t1.size
  have t2 := Touch.setCell (T := fun k => k = w.heap.size + 1 + 1) (s.setCell ⟨w.heap.size + 1, 0, none⟩ (.int .i64 0)) ⟨w.heap.size + 1 + 1, 0, none⟩ (.int .i64 0) rfl
  have s2 := t2.size
  have y3 := heap_setCell_same (s.setCell ⟨w.heap.size + 1, 0, none⟩ (.int .i64 0)) (w.heap.size + 1 + 1) 0 _ _ (.int .i64 0) ((t1.block _ (by omega) (by omega)).trans ((t0.block _ (by omega) (by omega)).trans hC3))
  have hall : Touch (fun k => k = w.heap.size ∨ k = w.heap.size + 1 ∨ k = w.heap.size + 1 + 1) w5 ((s.setCell ⟨w.heap.size + 1, 0, none⟩ (.int .i64 0)).setCell ⟨w.heap.size + 1 + 1, 0, none⟩ (.int .i64 0)) := ((t0.mono fun k _ hk => .inl hk).trans (t1.mono fun k _ hk => .inr (.inl hk))).trans (t2.mono fun k _ hk => .inr (.inr hk))
  refine ⟨hB.trans ((ht.below (by omega) fun k hk => by omega).trans (hall.below (by omega) fun k hk => by omega)), by omega, (hrob.next (hall.mono fun k _ hk => by omega)).less fun k hk => by omega, ?_, ?_, ?_⟩
  · exact (t2.block _ (by omega) (by omega)).trans ((t1.block _ (by omega) (by omega)).trans y1)
  · exact (t2.block _ (by omega) (by omega)).trans y2
  · exact y3
set_option maxRecDepth 100000 in
set_option maxHeartbeats 4000000 in
theorem read_any (w : World) (A : Option Addr) (cap : Nat) (b : List UInt8) (h : BytesV w (.slice A b.length cap) b) (hT : Tabs w) :
    Calls Tryz.prog 7 #[.slice A b.length cap] w (ReadPost w b) := by
  have hmf : ∀ (fn : Fn) (first cap : Array Value) (w : World), (Instr.makeFunc fn first cap).run Tryz.prog w = .ok (.func fn first cap) w := fun _ _ _ _ => rfl
  have hbr : ∀ W, (Instr.build 60 #[(0, .slice A b.length cap)]).run Tryz.prog W = .ok (.agg #[.slice A b.length cap, .int .i64 0, .int .i64 0]) W := fun W => by kernel_rfl
  have HA := Lib.hid (ReadAt.made w _ b h hT)
  clear h hT
  cases hr : readAll b with
  | error q =>
    obtain ⟨q, er⟩ := q
    have HR := Lib.hid hr
    clear hr
    go_enter_defers Tryz.func7, Tryz.ntmps7
    go_wp2_with (go_at_call 24; (refine (term_any _ _ A cap b HA.out.rd HA.out.tabs).mono ?_); rintro e w5 ⟨ht, hm⟩; rw [HR.out] at hm; subst hm; have HS := Lib.hid ht; clear ht)
    have z := HA.out.size
    have z1 := HS.out.size
    have hC := (HS.out.block w.heap.size (by omega) (by omega)).trans HA.out.h1
    have hC2 := (HS.out.block (w.heap.size + 1) (by omega) (by omega)).trans HA.out.h2
    have hC3 := (HS.out.block (w.heap.size + 1 + 1) (by omega) (by omega)).trans HA.out.h3
    refine leaves_cons (f := 23) (args := #[.pointer (some ⟨w.heap.size, 0, none⟩), .pointer (some ⟨w.heap.size + 1, 0, none⟩), .pointer (some ⟨w.heap.size + 1 + 1, 0, none⟩)]) (by simp) (by simp [go_sem]) ?_
    refine (catch_flaw w.heap.size (w.heap.size + 1) (w.heap.size + 1 + 1) w5 q er hC hC2 hC3 ⟨by omega, by omega, by omega⟩).mono ?_
    rintro e u' w6 ⟨rfl, rfl, hX⟩
    have hr1 := fun j => cell_of_row w6 w.heap.size j _ _ _ hX.h1
    have hr2 := fun j => cell_of_row w6 (w.heap.size + 1) j _ _ _ hX.h2
    have hr3 := fun j => cell_of_row w6 (w.heap.size + 1 + 1) j _ _ _ hX.h3
    simp [Leaves, settle, results, Tryz.results7, go_sem, hr1, hr2, hr3]
    exact ⟨HA.out.below.trans ((HS.out.below (by omega) fun k hk => by omega).trans (hX.ht.below (by omega) fun k hk => by omega)), by rw [HR.out]; rfl⟩
  | ok t =>
    have HR := Lib.hid hr
    clear hr
    go_enter_defers Tryz.func7, Tryz.ntmps7
    go_wp2_with (first
    | (go_at_call 24; (refine (term_any _ _ A cap b HA.out.rd HA.out.tabs).mono ?_); rintro e w5 ⟨ht, hm⟩; rw [HR.out] at hm; obtain ⟨x0, x1, x2, xe, rfl, hrob⟩ := hm
       obtain ⟨B0, m0, rfl, _⟩ := CapsV.form (show CapsV w5 x0 t.bools from (hrob.caps 0 (by omega)).val)
       obtain ⟨B1, m1, rfl, _⟩ := CapsV.form (show CapsV w5 x1 t.nums from (hrob.caps 1 (by omega)).val)
       obtain ⟨B2, m2, rfl, _⟩ := CapsV.form (show CapsV w5 x2 t.strs from (hrob.caps 2 (by omega)).val)
       obtain ⟨B3, m3, rfl, _⟩ := ExtsV.form (hrob.exts w5 (Touch.refl _ _))
       rw [show termVal t (tri (.slice B0 t.bools.length m0) (.slice B1 t.nums.length m1) (.slice B2 t.strs.length m2)) (.slice B3 t.exts.length m3) = .agg #[str t.names, .bool t.wide, .slice B0 t.bools.length m0, .slice B1 t.nums.length m1, .slice B2 t.strs.length m2, .slice B3 t.exts.length m3] from rfl]
       have z := HA.out.size
       have z1 := ht.size
       have hC := (ht.block w.heap.size (by omega) (by omega)).trans HA.out.h1
       have hC2 := (ht.block (w.heap.size + 1) (by omega) (by omega)).trans HA.out.h2
       have hC3 := (ht.block (w.heap.size + 1 + 1) (by omega) (by omega)).trans HA.out.h3
       have HX := Lib.hid (ReadOk.made w _ w5 b t _ _ _ _ HA.out ht hrob)
       obtain ⟨d0, d1, d2, d3, d4, d5, f0, f1, f2, f3, f4, f5⟩ := termZero_facts hC
       have g0 := cell_of_row w5 (w.heap.size + 1) 0 _ _ _ hC2
       have g1 := frozen_of_row w5 (w.heap.size + 1) 0 _ _ hC2
       have j0 := cell_of_row w5 (w.heap.size + 1 + 1) 0 _ _ _ hC3
       have j1 := frozen_of_row w5 (w.heap.size + 1 + 1) 0 _ _ hC3
       clear hC hC2 hC3 ht hrob z z1))
    change bodyPostD _ _ _ _ _ (((storeTerm w5 w.heap.size t (tri (.slice B0 t.bools.length m0) (.slice B1 t.nums.length m1) (.slice B2 t.strs.length m2)) (.slice B3 t.exts.length m3)).setCell ⟨w.heap.size + 1, 0, none⟩ (.int .i64 0)).setCell ⟨w.heap.size + 1 + 1, 0, none⟩ (.int .i64 0))
    generalize ((storeTerm w5 w.heap.size t (tri (.slice B0 t.bools.length m0) (.slice B1 t.nums.length m1) (.slice B2 t.strs.length m2)) (.slice B3 t.exts.length m3)).setCell ⟨w.heap.size + 1, 0, none⟩ (.int .i64 0)).setCell ⟨w.heap.size + 1 + 1, 0, none⟩ (.int .i64 0) = w6 at *
    refine leaves_cons (f := 23) (args := #[.pointer (some ⟨w.heap.size, 0, none⟩), .pointer (some ⟨w.heap.size + 1, 0, none⟩), .pointer (some ⟨w.heap.size + 1 + 1, 0, none⟩)]) (by simp) (by simp [go_sem]) ?_
    refine (catch_idle w.heap.size (w.heap.size + 1) (w.heap.size + 1 + 1) w6).mono ?_
    rintro e u' w7 ⟨rfl, rfl, hB⟩
    have sz := HX.out.size
    have hr1 := fun j => cell_of_row w7 w.heap.size j _ _ _ ((hB.block _ (by omega)).trans HX.out.h1)
    have hr2 := fun j => cell_of_row w7 (w.heap.size + 1) j _ _ _ ((hB.block _ (by omega)).trans HX.out.h2)
    have hr3 := fun j => cell_of_row w7 (w.heap.size + 1 + 1) j _ _ _ ((hB.block _ (by omega)).trans HX.out.h3)
    simp [Leaves, settle, results, Tryz.results7, go_sem, hr1, hr2, hr3]
    exact ⟨HX.out.below.trans (hB.mono (by omega)), by rw [HR.out]; exact ⟨.slice B0 t.bools.length m0, .slice B1 t.nums.length m1, .slice B2 t.strs.length m2, .slice B3 t.exts.length m3, rfl, HX.out.rob.below hB⟩⟩
end Go.Proofs.YtcfgppjhgobboaaGreatDoor
