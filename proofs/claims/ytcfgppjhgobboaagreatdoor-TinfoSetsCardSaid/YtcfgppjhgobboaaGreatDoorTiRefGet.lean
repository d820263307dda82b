/-
  What Get of the document returns, for every name.
-/
import Derived.Test.YtcfgppjhgobboaaGreatDoorTiRefSet0
import Derived.Test.YtcfgppjhgobboaaGreatDoorTiRefPlace
namespace Go.Proofs.YtcfgppjhgobboaaGreatDoor
open Go.RowKit Go.Shelf Go.Lib
attribute [local go_sem] Oper.semAt_some

def RefGetPost (w : World) (r : Int × CapD × Bool) (e : Ending) (w' : World) : Prop := e = .returned (.tuple #[capVal r.2.1, .int .i64 r.1, .bool r.2.2]) ∧ Below w.heap.size w w'

set_option maxRecDepth 100000 in
set_option maxHeartbeats 400000 in
theorem refGet_known0 (w : World) (t : TermD) (v : Nat → Value) (ve : Value) (h : TermV w v ve t) (hT : Tabs w) (name : List UInt8) (n : Nat) (hp : placeP name = some ((0 : Int), (n : Int))) (hn : n ≤ 164) :
    Calls Tryz.prog 53 #[termVal t v ve, str name] w (RefGetPost w (0, getP (listOf t 0) n, true)) := by
  have CP := Lib.hid (fun W (hW : Tabs W) => refPlace_any name W hW)
  have hres : placeRes name = .tuple #[.int .i64 0, .int .i64 n, .bool true] := by unfold placeRes; rw [hp]
  unfold PlacePost at CP
  rw [hres] at CP
  obtain ⟨A0, n0, A1, n1, A2, n2, A3, n3, e0, e1, e2, e3, _, g0, g1, g2, _⟩ := h.forms
  rw [termVal_open e0 e1 e2 e3]
  have CG := Lib.hid (fun W (hW : Below w.heap.size w W) => refGetAt_any W _ (listOf t 0) (g0.below hW) n hn)
  have HT := Lib.hid hT
  generalize getP (listOf t 0) n = c at *
  clear h hT hp hres e0 e1 e2 e3 g0 g1 g2
  obtain ⟨nm, wd, l0, l1, l2, l3⟩ := t
  simp only at CG ⊢
  go_enter Tryz.func53, Tryz.ntmps53
  go_wp2_with (first
    | (go_at_call 54; refine (CP.out _ (HT.out.below (((Below.refl _ w).alloc (Nat.le_refl _) _).alloc (by simp) _))).mono ?_; rintro e w2 ⟨rfl, hb2⟩; obtain ⟨x1, x2, x3, x4⟩ := two_boxes hb2; have HB2 := Lib.hid (And.intro x1 (And.intro x2 (And.intro x3 x4))); have c2 := cell_of_row w2 w.heap.size 2 _ _ _ x1; have c3 := cell_of_row w2 w.heap.size 3 _ _ _ x1; have c4 := cell_of_row w2 w.heap.size 4 _ _ _ x1; simp only [List.getElem?_toArray, List.getElem?_cons_zero, List.getElem?_cons_succ] at c2 c3 c4; clear hb2 x1 x2 x3 x4)
    | (go_at_call 103; with_reducible refine (CG.out _ (HB2.out.2.2.1.alloc HB2.out.2.2.1.size (.cells #[.slice A0 l0.length n0, .slice A1 l1.length n1, .slice A2 l2.length n2] 23))).mono ?_; rintro e w3 ⟨rfl, hb3⟩; have y2 := (hb3.block (w.heap.size + 1) (by rw [World.size_alloc]; have := HB2.out.2.2.2; omega)).trans ((Below.heap_alloc w2 (.cells #[.slice A0 l0.length n0, .slice A1 l1.length n1, .slice A2 l2.length n2] 23) (w.heap.size + 1) HB2.out.2.2.2).trans HB2.out.2.1); have HB3 := Lib.hid (And.intro y2 ((HB2.out.2.2.1.alloc HB2.out.2.2.1.size (.cells #[.slice A0 l0.length n0, .slice A1 l1.length n1, .slice A2 l2.length n2] 23)).trans (hb3.mono (by rw [World.size_alloc]; have := HB2.out.2.2.1.size; omega)))); obtain ⟨d0, d1, d2, f0, f1, f2⟩ := capZero_facts y2; clear hb3 y2))
  have hX := storeCap_touch w3 (w.heap.size + 1) c
  obtain ⟨r0, r1, r2⟩ := storeCap_cells (c := c) HB3.out.1
  refine bodyPost_ret (v := .tuple #[capVal c, .int .i64 0, .bool true]) (by simp [results, Tryz.results53, go_sem, r0, r1, r2]) rfl ?_
  exact ⟨rfl, HB3.out.2.trans (hX.below HB3.out.2.size fun k hk => by omega)⟩

set_option maxRecDepth 100000 in
set_option maxHeartbeats 400000 in
theorem refGet_known1 (w : World) (t : TermD) (v : Nat → Value) (ve : Value) (h : TermV w v ve t) (hT : Tabs w) (name : List UInt8) (n : Nat) (hp : placeP name = some ((1 : Int), (n : Int))) (hn : n ≤ 164) :
    Calls Tryz.prog 53 #[termVal t v ve, str name] w (RefGetPost w (1, getP (listOf t 1) n, true)) := by
  have CP := Lib.hid (fun W (hW : Tabs W) => refPlace_any name W hW)
  have hres : placeRes name = .tuple #[.int .i64 1, .int .i64 n, .bool true] := by unfold placeRes; rw [hp]
  unfold PlacePost at CP
  rw [hres] at CP
  obtain ⟨A0, n0, A1, n1, A2, n2, A3, n3, e0, e1, e2, e3, _, g0, g1, g2, _⟩ := h.forms
  rw [termVal_open e0 e1 e2 e3]
  have CG := Lib.hid (fun W (hW : Below w.heap.size w W) => refGetAt_any W _ (listOf t 1) (g1.below hW) n hn)
  have HT := Lib.hid hT
  generalize getP (listOf t 1) n = c at *
  clear h hT hp hres e0 e1 e2 e3 g0 g1 g2
  obtain ⟨nm, wd, l0, l1, l2, l3⟩ := t
  simp only at CG ⊢
  go_enter Tryz.func53, Tryz.ntmps53
  go_wp2_with (first
    | (go_at_call 54; refine (CP.out _ (HT.out.below (((Below.refl _ w).alloc (Nat.le_refl _) _).alloc (by simp) _))).mono ?_; rintro e w2 ⟨rfl, hb2⟩; obtain ⟨x1, x2, x3, x4⟩ := two_boxes hb2; have HB2 := Lib.hid (And.intro x1 (And.intro x2 (And.intro x3 x4))); have c2 := cell_of_row w2 w.heap.size 2 _ _ _ x1; have c3 := cell_of_row w2 w.heap.size 3 _ _ _ x1; have c4 := cell_of_row w2 w.heap.size 4 _ _ _ x1; simp only [List.getElem?_toArray, List.getElem?_cons_zero, List.getElem?_cons_succ] at c2 c3 c4; clear hb2 x1 x2 x3 x4)
    | (go_at_call 103; with_reducible refine (CG.out _ (HB2.out.2.2.1.alloc HB2.out.2.2.1.size (.cells #[.slice A0 l0.length n0, .slice A1 l1.length n1, .slice A2 l2.length n2] 23))).mono ?_; rintro e w3 ⟨rfl, hb3⟩; have y2 := (hb3.block (w.heap.size + 1) (by rw [World.size_alloc]; have := HB2.out.2.2.2; omega)).trans ((Below.heap_alloc w2 (.cells #[.slice A0 l0.length n0, .slice A1 l1.length n1, .slice A2 l2.length n2] 23) (w.heap.size + 1) HB2.out.2.2.2).trans HB2.out.2.1); have HB3 := Lib.hid (And.intro y2 ((HB2.out.2.2.1.alloc HB2.out.2.2.1.size (.cells #[.slice A0 l0.length n0, .slice A1 l1.length n1, .slice A2 l2.length n2] 23)).trans (hb3.mono (by rw [World.size_alloc]; have := HB2.out.2.2.1.size; omega)))); obtain ⟨d0, d1, d2, f0, f1, f2⟩ := capZero_facts y2; clear hb3 y2))
  have hX := storeCap_touch w3 (w.heap.size + 1) c
  obtain ⟨r0, r1, r2⟩ := storeCap_cells (c := c) HB3.out.1
  refine bodyPost_ret (v := .tuple #[capVal c, .int .i64 1, .bool true]) (by simp [results, Tryz.results53, go_sem, r0, r1, r2]) rfl ?_
  exact ⟨rfl, HB3.out.2.trans (hX.below HB3.out.2.size fun k hk => by omega)⟩

set_option maxRecDepth 100000 in
set_option maxHeartbeats 400000 in
theorem refGet_known2 (w : World) (t : TermD) (v : Nat → Value) (ve : Value) (h : TermV w v ve t) (hT : Tabs w) (name : List UInt8) (n : Nat) (hp : placeP name = some ((2 : Int), (n : Int))) (hn : n ≤ 164) :
    Calls Tryz.prog 53 #[termVal t v ve, str name] w (RefGetPost w (2, getP (listOf t 2) n, true)) := by
  have CP := Lib.hid (fun W (hW : Tabs W) => refPlace_any name W hW)
  have hres : placeRes name = .tuple #[.int .i64 2, .int .i64 n, .bool true] := by unfold placeRes; rw [hp]
  unfold PlacePost at CP
  rw [hres] at CP
  obtain ⟨A0, n0, A1, n1, A2, n2, A3, n3, e0, e1, e2, e3, _, g0, g1, g2, _⟩ := h.forms
  rw [termVal_open e0 e1 e2 e3]
  have CG := Lib.hid (fun W (hW : Below w.heap.size w W) => refGetAt_any W _ (listOf t 2) (g2.below hW) n hn)
  have HT := Lib.hid hT
  generalize getP (listOf t 2) n = c at *
  clear h hT hp hres e0 e1 e2 e3 g0 g1 g2
  obtain ⟨nm, wd, l0, l1, l2, l3⟩ := t
  simp only at CG ⊢
  go_enter Tryz.func53, Tryz.ntmps53
  go_wp2_with (first
    | (go_at_call 54; refine (CP.out _ (HT.out.below (((Below.refl _ w).alloc (Nat.le_refl _) _).alloc (by simp) _))).mono ?_; rintro e w2 ⟨rfl, hb2⟩; obtain ⟨x1, x2, x3, x4⟩ := two_boxes hb2; have HB2 := Lib.hid (And.intro x1 (And.intro x2 (And.intro x3 x4))); have c2 := cell_of_row w2 w.heap.size 2 _ _ _ x1; have c3 := cell_of_row w2 w.heap.size 3 _ _ _ x1; have c4 := cell_of_row w2 w.heap.size 4 _ _ _ x1; simp only [List.getElem?_toArray, List.getElem?_cons_zero, List.getElem?_cons_succ] at c2 c3 c4; clear hb2 x1 x2 x3 x4)
    | (go_at_call 103; with_reducible refine (CG.out _ (HB2.out.2.2.1.alloc HB2.out.2.2.1.size (.cells #[.slice A0 l0.length n0, .slice A1 l1.length n1, .slice A2 l2.length n2] 23))).mono ?_; rintro e w3 ⟨rfl, hb3⟩; have y2 := (hb3.block (w.heap.size + 1) (by rw [World.size_alloc]; have := HB2.out.2.2.2; omega)).trans ((Below.heap_alloc w2 (.cells #[.slice A0 l0.length n0, .slice A1 l1.length n1, .slice A2 l2.length n2] 23) (w.heap.size + 1) HB2.out.2.2.2).trans HB2.out.2.1); have HB3 := Lib.hid (And.intro y2 ((HB2.out.2.2.1.alloc HB2.out.2.2.1.size (.cells #[.slice A0 l0.length n0, .slice A1 l1.length n1, .slice A2 l2.length n2] 23)).trans (hb3.mono (by rw [World.size_alloc]; have := HB2.out.2.2.1.size; omega)))); obtain ⟨d0, d1, d2, f0, f1, f2⟩ := capZero_facts y2; clear hb3 y2))
  have hX := storeCap_touch w3 (w.heap.size + 1) c
  obtain ⟨r0, r1, r2⟩ := storeCap_cells (c := c) HB3.out.1
  refine bodyPost_ret (v := .tuple #[capVal c, .int .i64 2, .bool true]) (by simp [results, Tryz.results53, go_sem, r0, r1, r2]) rfl ?_
  exact ⟨rfl, HB3.out.2.trans (hX.below HB3.out.2.size fun k hk => by omega)⟩

set_option maxRecDepth 100000 in
set_option maxHeartbeats 2000000 in
theorem refGet_unknown (w : World) (t : TermD) (v : Nat → Value) (ve : Value) (h : TermV w v ve t) (hT : Tabs w) (name : List UInt8) (hp : placeP name = none) :
    Calls Tryz.prog 53 #[termVal t v ve, str name] w (RefGetPost w (extR t.exts name)) := by
  have CP := Lib.hid (fun W (hW : Tabs W) => refPlace_any name W hW)
  have hres : placeRes name = .tuple #[.int .i64 0, .int .i64 0, .bool false] := by unfold placeRes; rw [hp]
  unfold PlacePost at CP
  rw [hres] at CP
  have HT := Lib.hid hT
  have hbz := build_cap0
  obtain ⟨A0, n0, A1, n1, A2, n2, A3, n3, e0, e1, e2, e3, ⟨_, _, _, s3⟩, _, _, _, g3⟩ := h.forms
  rw [termVal_open e0 e1 e2 e3]
  clear h e0 e1 e2 e3 hT hp hres
  obtain ⟨nm, wd, l0, l1, l2, l3⟩ := t
  simp only at s3 g3 ⊢
  have HG := Lib.hid g3
  clear g3
  obtain ⟨n, hn⟩ : ∃ n, l3.length = n := ⟨_, rfl⟩
  have HN := Lib.hid hn
  rw [hn] at HG s3 ⊢
  clear hn
  go_enter Tryz.func53, Tryz.ntmps53
  go_wp2_with (go_at_call 54; refine (CP.out _ (HT.out.below (((Below.refl _ w).alloc (Nat.le_refl _) _).alloc (by simp) _))).mono ?_; rintro e w2 ⟨rfl, hb2⟩; obtain ⟨x1, x2, x3, x4⟩ := two_boxes hb2; have HB2 := Lib.hid (And.intro x1 (And.intro x2 (And.intro x3 x4))); have c5 := cell_of_row w2 w.heap.size 5 _ _ _ x1; obtain ⟨d0, d1, d2, f0, f1, f2⟩ := capZero_facts x2; simp only [List.getElem?_toArray, List.getElem?_cons_zero, List.getElem?_cons_succ] at c5; clear hb2 x1 x2 x3 x4)
  go_loop [11] (fun i => ∃ k : Nat, i = .int .i64 k ∧ k ≤ n ∧ ((l3.take k).any fun x => x.name == name) = false) (fun i => n - (RowKit.intOf i).toNat)
  case atStart => exact ⟨0, rfl, Nat.zero_le _, rfl⟩
  case round =>
    obtain ⟨k, rfl, hk, hno⟩ := hrel
    have HNO := Lib.hid hno
    clear hno
    by_cases hlt : k < n
    · obtain ⟨x, hx⟩ : ∃ x, l3[k]? = some x := ⟨_, List.getElem?_eq_getElem (by rw [HN.out]; exact hlt)⟩
      obtain ⟨kb, off, rfl, hkb, g0, g1, g2, g3, g4⟩ := HG.out.cells hx
      rw [← HB2.out.2.2.1.cell (p := ⟨kb, off + k * 5, none⟩) hkb] at g0
      rw [← HB2.out.2.2.1.cell (p := ⟨kb, off + k * 5 + 1, none⟩) hkb] at g1
      rw [← HB2.out.2.2.1.cell (p := ⟨kb, off + k * 5 + 2, none⟩) hkb] at g2
      rw [← HB2.out.2.2.1.cell (p := ⟨kb, off + k * 5 + 3, none⟩) hkb] at g3
      rw [← HB2.out.2.2.1.cell (p := ⟨kb, off + k * 5 + 4, none⟩) hkb] at g4
      have i1 : (0 : Int) ≤ (k : Int) := by omega
      have i2 : (k : Int) < (n : Int) := by omega
      have hkn : ¬ kb = w.heap.size + 1 := by omega
      have HX := Lib.hid hx
      clear hx hkb hk
      by_cases hq : x.name = name
      · have HQ := Lib.hid hq
        have hq2 : (x.name == name) = true := by simpa using hq
        clear hq
        have HR : Hid (extR l3 name = (x.kind, x.cap, true)) := Lib.hid (by
          have h1 := idx_at HX.out HNO.out hq2
          unfold idxInt at h1
          cases hi : extIdx l3 name with
          | none => rw [hi] at h1; simp at h1
          | some i => rw [hi] at h1; have : i = k := by simp at h1; omega
                      subst this; rw [extR, hi]; simp only [HX.out])
        go_wp2
        go_region
        all_goals
          go_wp2
          have hX := storeCap_touch w2 (w.heap.size + 1) x.cap
          obtain ⟨r0, r1, r2⟩ := storeCap_cells (c := x.cap) HB2.out.2.1
          refine bodyPost_ret (v := .tuple #[capVal x.cap, .int .i64 x.kind, .bool true]) (by simp [results, Tryz.results53, go_sem, r0, r1, r2]) rfl ?_
          exact ⟨by rw [HR.out], HB2.out.2.2.1.trans ((hX.drew).below HB2.out.2.2.1.size fun k hk => by omega)⟩
      · have HQ := Lib.hid hq
        have hq2 : (x.name == name) = false := by simpa using hq
        clear hq
        go_wp2
        exact ⟨⟨k + 1, by go_num, hlt, any_next HX.out HNO.out (by simpa using HQ.out)⟩, by simp [RowKit.intOf]; omega⟩
    · obtain rfl : k = n := by omega
      have HR : Hid (extR l3 name = (0, cap0, false)) := Lib.hid (by
        have h1 := idx_none (any_end (Nat.le_of_eq HN.out) HNO.out)
        unfold idxInt at h1
        cases hi : extIdx l3 name with
        | none => rw [extR, hi]
        | some i => rw [hi] at h1; simp at h1)
      go_wp2
      have hX := storeCap_touch w2 (w.heap.size + 1) cap0
      obtain ⟨r0, r1, r2⟩ := storeCap_cells (c := cap0) HB2.out.2.1
      simp only [storeCap, cap0] at r0 r1 r2
      refine bodyPost_ret (v := .tuple #[capVal cap0, .int .i64 0, .bool false]) (by simp [results, Tryz.results53, go_sem, r0, r1, r2, cap0]) rfl ?_
      exact ⟨by rw [HR.out], HB2.out.2.2.1.trans (hX.below HB2.out.2.2.1.size fun k hk => by omega)⟩

theorem refGet_any (w : World) (t : TermD) (v : Nat → Value) (ve : Value) (h : TermV w v ve t) (hT : Tabs w) (name : List UInt8) :
    Calls Tryz.prog 53 #[termVal t v ve, str name] w (RefGetPost w (findR t name)) := by
  cases hp : placeP name with
  | none =>
    rw [show findR t name = extR t.exts name by rw [findR, hp]]
    exact refGet_unknown w t v ve h hT name hp
  | some q =>
    obtain ⟨k, n⟩ := q
    obtain ⟨hk, hn0, hn⟩ := placeP_small hp
    obtain ⟨n', rfl⟩ : ∃ n' : Nat, n = n' := ⟨n.toNat, by omega⟩
    rw [show findR t name = (k, getP (listOf t k) n', true) by rw [findR, hp]; rfl]
    rcases hk with rfl | rfl | rfl
    · exact refGet_known0 w t v ve h hT name n' hp (by omega)
    · exact refGet_known1 w t v ve h hT name n' hp (by omega)
    · exact refGet_known2 w t v ve h hT name n' hp (by omega)

end Go.Proofs.YtcfgppjhgobboaaGreatDoor
