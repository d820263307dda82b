/-
  What findExt, find and Get of package tinfo return, for every name.
-/
import Derived.Test.YtcfgppjhgobboaaGreatDoorTiIdx
namespace Go.Proofs.YtcfgppjhgobboaaGreatDoor
open Go.RowKit Go.Shelf Go.Lib Go.Maps
attribute [local go_sem] Oper.semAt_some

def extR (l : List ExtD) (name : List UInt8) : Int × CapD × Bool := match extIdx l name with
  | some i => match l[i]? with | some x => (x.kind, x.cap, true) | none => (0, cap0, false)
  | none => (0, cap0, false)
/-- what a name gets: its kind, its capability, whether it is known -/
def findR (t : TermD) (name : List UInt8) : Int × CapD × Bool := match placeP name with | some (k, n) => (k, getP (listOf t k) n.toNat, true) | none => extR t.exts name
theorem extIdx_at {l : List ExtD} {name : List UInt8} {i : Nat} (h : extIdx l name = some i) : ∃ x, l[i]? = some x ∧ x.name = name := by
  unfold extIdx at h
  rw [List.findIdx?_eq_some_iff_getElem] at h
  obtain ⟨hlt, h1, _⟩ := h
  exact ⟨_, List.getElem?_eq_getElem hlt, by simpa using h1⟩
abbrev findVal (r : Int × CapD × Bool) : Value := .tuple #[.int .i64 r.1, capVal r.2.1, .bool r.2.2]
def ExtPost (w : World) (r : Int × CapD × Bool) (e : Ending) (w' : World) : Prop := e = .returned (findVal r) ∧ Below w.heap.size w w'

set_option maxRecDepth 100000 in
theorem findExt_any (w : World) (v : Value) (l : List ExtD) (h : ExtsV w v l) (name : List UInt8) : Calls Tryz.prog 106 #[v, str name] w (ExtPost w (extR l name)) := by
  have hb : Below w.heap.size w (w.alloc capZero) := (Below.refl _ w).alloc (Nat.le_refl _) _
  have HB := Lib.hid hb
  have hbz := build_cap0
  have CI := Lib.hid (indexOf_any (w.alloc capZero) v l (h.below hb) name)
  cases hx : extIdx l name with
  | none =>
    have HR : Hid (extR l name = (0, cap0, false)) := Lib.hid (by rw [extR, hx])
    rw [show idxInt l name = -1 by rw [idxInt, hx]] at CI
    rw [HR.out]
    clear h hb hx
    go_enter Tryz.func106, Tryz.ntmps106
    go_wp2_with (go_at_call 102; refine (CI.out).mono ?_; rintro e w2 ⟨rfl, hb2⟩; have hbox := (hb2.block w.heap.size (by simp)).trans (World.alloc_heap_new w capZero); obtain ⟨d0, d1, d2, f0, f1, f2⟩ := capZero_facts hbox; have HB2 := Lib.hid (And.intro hbox (HB.out.trans (hb2.mono HB.out.size))); clear hb2 hbox)
    have hX := storeCap_touch w2 w.heap.size cap0
    obtain ⟨r0, r1, r2⟩ := storeCap_cells (c := cap0) HB2.out.1
    simp only [storeCap, cap0] at r0 r1 r2
    refine bodyPost_ret (v := findVal (0, cap0, false)) (by simp [results, Tryz.results106, go_sem, r0, r1, r2, cap0]) rfl ?_
    exact ⟨rfl, HB2.out.2.trans (hX.below HB2.out.2.size fun k hk => by omega)⟩
  | some i =>
    obtain ⟨x, hi, _⟩ := extIdx_at hx
    have HR : Hid (extR l name = (x.kind, x.cap, true)) := Lib.hid (by rw [extR, hx]; simp only [hi])
    rw [show idxInt l name = (i : Int) by rw [idxInt, hx]] at CI
    rw [HR.out]
    obtain ⟨A, cap, rfl, hsm⟩ := h.form
    have hlt := (List.getElem?_eq_some_iff.1 hi).1
    obtain ⟨kb, off, rfl, hkb, g0, g1, g2, g3, g4⟩ := h.cells hi
    obtain ⟨n, hln⟩ : ∃ n, l.length = n := ⟨_, rfl⟩
    rw [hln] at CI hsm hlt ⊢
    have i1 : (0 : Int) ≤ (i : Int) := by omega
    have i2 : (i : Int) < (n : Int) := by omega
    have G := Lib.hid (And.intro hkb (And.intro g0 (And.intro g2 (And.intro g3 g4))))
    clear h hb hx hi hkb g0 g1 g2 g3 g4 hln
    go_enter Tryz.func106, Tryz.ntmps106
    go_wp2_with (go_at_call 102; refine (CI.out).mono ?_; rintro e w2 ⟨rfl, hb2⟩; have hbox := (hb2.block w.heap.size (by simp)).trans (World.alloc_heap_new w capZero); obtain ⟨d0, d1, d2, f0, f1, f2⟩ := capZero_facts hbox; have HB2 := Lib.hid (And.intro hbox (HB.out.trans (hb2.mono HB.out.size))); have b0 := HB2.out.2.cell (p := ⟨kb, off + i * 5, none⟩) G.out.1; have b2 := HB2.out.2.cell (p := ⟨kb, off + i * 5 + 2, none⟩) G.out.1; have b3 := HB2.out.2.cell (p := ⟨kb, off + i * 5 + 3, none⟩) G.out.1; have b4 := HB2.out.2.cell (p := ⟨kb, off + i * 5 + 4, none⟩) G.out.1; rw [G.out.2.1] at b0; rw [G.out.2.2.1] at b2; rw [G.out.2.2.2.1] at b3; rw [G.out.2.2.2.2] at b4; have hkn : ¬ kb = w.heap.size := (by have := G.out.1; omega); clear hb2 hbox)
    go_region
    all_goals
      go_wp2
      have hX := storeCap_touch w2 w.heap.size x.cap
      obtain ⟨r0, r1, r2⟩ := storeCap_cells (c := x.cap) HB2.out.1
      refine bodyPost_ret (v := findVal (x.kind, x.cap, true)) (by simp [results, Tryz.results106, go_sem, r0, r1, r2]) rfl ?_
      exact ⟨rfl, HB2.out.2.trans ((hX.drew).below HB2.out.2.size fun k hk => by omega)⟩

set_option maxRecDepth 100000 in
set_option maxHeartbeats 2000000 in
theorem find_any (w : World) (t : TermD) (v : Nat → Value) (ve : Value) (h : TermV w v ve t) (hT : Tabs w) (name : List UInt8) : Calls Tryz.prog 56 #[termVal t v ve, str name] w (ExtPost w (findR t name)) := by
  cases hp : placeP name with
  | some q =>
    obtain ⟨k, n⟩ := q
    have := find_known w t v ve h hT name k n hp
    rw [show findR t name = (k, getP (listOf t k) n.toNat, true) by rw [findR, hp]]
    exact this
  | none =>
    rw [show findR t name = extR t.exts name by rw [findR, hp]]
    have CP := Lib.hid (fun W (hW : Tabs W) => place_any name W hW.run)
    have hres : placeRes name = .tuple #[.int .i64 0, .int .i64 0, .bool false] := by unfold placeRes; rw [hp]
    unfold PlacePost at CP
    rw [hres] at CP
    have HT := Lib.hid hT
    have CE := Lib.hid (fun W (hW : Below w.heap.size w W) => findExt_any W ve t.exts (h.exts.below hW) name)
    generalize extR t.exts name = r at *
    obtain ⟨rk, rc, rb⟩ := r
    unfold ExtPost at CE
    clear hres hp hT h
    go_enter Tryz.func56, Tryz.ntmps56
    go_wp2_with (first
      | (go_at_call 30; refine (CP.out _ (HT.out.below (((Below.refl _ w).alloc (Nat.le_refl _) _).alloc (by simp) _))).mono ?_; rintro e w2 ⟨rfl, hb2⟩; obtain ⟨x1, x2, x3, x4⟩ := two_boxes hb2; have HB2 := Lib.hid (And.intro x2 (And.intro x3 x4)); have c0 := cell_of_row w2 w.heap.size 5 _ _ _ x1; simp only [List.getElem?_toArray, List.getElem?_cons_zero, List.getElem?_cons_succ] at c0; clear hb2 x1 x2 x3 x4)
      | (go_at_call 106; refine (CE.out _ HB2.out.2.1).mono ?_; rintro e w3 ⟨rfl, hb3⟩; have hbox := (hb3.block _ HB2.out.2.2).trans HB2.out.1; obtain ⟨d0, d1, d2, f0, f1, f2⟩ := capZero_facts hbox; have HB3 := Lib.hid (And.intro hbox (HB2.out.2.1.trans (hb3.mono HB2.out.2.1.size))); clear hb3 hbox))
    have hX := storeCap_touch w3 (w.heap.size + 1) rc
    obtain ⟨r0, r1, r2⟩ := storeCap_cells (c := rc) HB3.out.1
    refine bodyPost_ret (v := findVal (rk, rc, rb)) (by simp [results, Tryz.results56, go_sem, r0, r1, r2]) rfl ?_
    exact ⟨rfl, HB3.out.2.trans (hX.below HB3.out.2.size fun k hk => by omega)⟩

/-- what Get answers -/
def GetPost (w : World) (r : Int × CapD × Bool) (e : Ending) (w' : World) : Prop := e = .returned (.tuple #[capVal r.2.1, .bool r.2.2]) ∧ Below w.heap.size w w'
set_option maxRecDepth 100000 in
set_option maxHeartbeats 2000000 in
theorem get_any (w : World) (t : TermD) (v : Nat → Value) (ve : Value) (h : TermV w v ve t) (hT : Tabs w) (name : List UInt8) : Calls Tryz.prog 16 #[termVal t v ve, str name] w (GetPost w (findR t name)) := by
  have CF := Lib.hid (fun W (hW : Below w.heap.size w W) => find_any W t v ve (h.below hW) (hT.below hW) name)
  generalize findR t name = r at *
  obtain ⟨rk, rc, rb⟩ := r
  unfold ExtPost at CF
  clear h hT
  go_enter Tryz.func16, Tryz.ntmps16
  go_wp2_with (go_at_call 56; refine (CF.out _ (((Below.refl _ w).alloc (Nat.le_refl _) _).alloc (by simp) _)).mono ?_; rintro e w2 ⟨rfl, hb2⟩; obtain ⟨x1, x2, x3, x4⟩ := two_boxes hb2; have HB2 := Lib.hid (And.intro x2 (And.intro x3 x4)); have y2 := (Below.heap_alloc w2 (.cells #[.int .i64 rc.st, .int .i64 rc.num, str rc.text] 37) (w.heap.size + 1) x4).trans x2; have Y2 := Lib.hid (And.intro y2 (x3.alloc x3.size (.cells #[.int .i64 rc.st, .int .i64 rc.num, str rc.text] 37))); obtain ⟨d0, d1, d2, f0, f1, f2⟩ := capZero_facts y2; clear hb2 x1 x2 x3 x4 y2)
  generalize w2.alloc (.cells #[.int .i64 rc.st, .int .i64 rc.num, str rc.text] 37) = w3 at *
  have hX := storeCap_touch w3 (w.heap.size + 1) rc
  obtain ⟨r0, r1, r2⟩ := storeCap_cells (c := rc) Y2.out.1
  refine bodyPost_ret (v := .tuple #[capVal rc, .bool rb]) (by simp [results, Tryz.results16, go_sem, r0, r1, r2]) rfl ?_
  exact ⟨rfl, Y2.out.2.trans (hX.below Y2.out.2.size fun k hk => by omega)⟩
end Go.Proofs.YtcfgppjhgobboaaGreatDoor
