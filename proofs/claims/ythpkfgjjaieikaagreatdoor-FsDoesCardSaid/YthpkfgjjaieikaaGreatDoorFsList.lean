/-
  What List of package simfs returns and changes where there is a directory, for every file system.
-/
import Derived.Test.YthpkfgjjaieikaaGreatDoorFsListA
namespace Go.Proofs.YthpkfgjjaieikaaGreatDoor
open Go.RowKit Go.Shelf Go.Lib Go.Maps Go.Sort
attribute [local go_sem] Oper.semAt_some

theorem good_small {es : List Ent} {w : World} {FP : Nat → Prop} {bm : Nat} (h : Files w FP bm es) {p : List UInt8} (hp : p ∈ pathsOf es) : p.length ≤ 1024 := by
  unfold pathsOf at hp
  rw [List.mem_mergeSort, List.mem_map] at hp
  obtain ⟨x, hx, rfl⟩ := hp
  exact (h.small x hx).1
theorem pathsOf_length (es : List Ent) : (pathsOf es).length = es.length := by simp [pathsOf]

/-- a row stays while its block does -/
theorem row_kept {w w' : World} {base : Nat} {e : TypeId} {size : Nat} {v : Value} {n : Nat} {xs : List Value} (h : w.ownsRow base e size v n xs) (hb : ∀ k, v.ownBlock = some k → w'.heap[k]? = w.heap[k]?) : w'.ownsRow base e size v n xs := by
  obtain ⟨h1, h2⟩ := h
  refine ⟨h1, ?_⟩
  rcases h2 with h2 | ⟨g, cap, cur, hv, hg, hh, r⟩
  · exact .inl h2
  · exact .inr ⟨g, cap, cur, hv, hg, (hb g (by rw [hv]; rfl)).trans hh, r⟩

set_option maxRecDepth 100000 in
set_option maxHeartbeats 2000000 in
theorem list_ok (w : World) (FP : Nat → Prop) (b bm : Nat) (es : List Ent) (s s1 : St) (d : List UInt8) (h : FsAt w FP b bm es s) (ho : StOk s) (hc : s.calls ≤ 4000000000000000000) (hd : d ≠ [47]) (h1 : startP s (goodP d) = (0, s1)) (h2 : isP es d = (false, true)) (hl : es.length ≤ 1000000) :
    Calls Tryz.prog 32 #[.pointer (some ⟨b, 0, none⟩), str d] w (ListPost w FP b bm es (Lib.compact (namesOf d (pathsOf es)), 0, s1)) := by
  refine (callsIn_wide (n := 8)).1 ?_
  refine callsIn_of_wp_marks Tryz.func32 rfl trivial ?_ rfl
  simp only [Tryz.ntmps32, List.size_toArray, List.length_cons, List.length_nil, Nat.reduceAdd, Nat.reduceSub, Array.replicate_succ, Array.replicate_zero, List.push_toArray, List.append_toArray, List.nil_append, List.cons_append]
  have hf1 : Fence.wide.fn 90 := trivial
  have hf2 : Fence.wide.fn 47 := trivial
  have hf3 : Fence.wide.fn 91 := trivial
  have hf4 : Fence.wide.fn 52 := trivial
  have hf5 : Fence.wide.fn 94 := trivial
  have hf6 : Fence.wide.fn 95 := trivial
  have hdep : Fence.wide.depth.isSome = false := rfl
  have CG := Lib.hid (good_any d)
  have CS := Lib.hid (fun (W : World) (hW : Below w.heap.size w W) => start_any W FP b bm es s (goodP d) (h.below hW) ho hc)
  rw [h1] at CS
  have CI := Lib.hid (fun (W : World) (hW : FsAt W FP b bm es s1) => is_any W FP b bm es s1 d hW)
  rw [h2] at CI
  have CP := Lib.hid (fun (W : World) (hW : FsAt W FP b bm es s1) => paths_any W FP b bm es s1 hW hl)
  have hq : (d == [47]) = false := by simpa using hd
  have HLT := Lib.hid h.lt
  have HL := Lib.hid hl
  have HSM := Lib.hid (fun p (hp : p ∈ pathsOf es) => good_small h.files hp)
  clear h ho hc hd h1 h2 hl
  gi_wp2_with (first
    | (gi_at_call 91; refine (callsIn_wide.2 (CG.out _)).mono ?_; rintro e w1 ⟨rfl, hb1⟩; have hx1 : Box w1 w.heap.size (str d) 9 := box_after hb1; have cx1 := hx1.cell; have HX1 := Lib.hid hx1; have HB1 := Lib.hid (((Below.refl _ w).alloc (Nat.le_refl _) _).trans (hb1.mono (by simp))); clear hb1 hx1)
    | (gi_at_call 90; refine (callsIn_wide.2 (CS.out _ HB1.out)).mono ?_; rintro e w2 ⟨rfl, hF2, hT2⟩; have hx2 : Box w2 w.heap.size (str d) 9 := HX1.out.same (hT2.block _ HX1.out.lt (by have := HLT.out; omega)); have cx2 := hx2.cell; have HX2 := Lib.hid hx2; have HF2 := Lib.hid hF2; have HT2 := Lib.hid hT2; clear hF2 hT2 hx2)
    | (gi_at_call 47; refine (callsIn_wide.2 (CI.out _ HF2.out)).mono ?_; rintro e w3 ⟨rfl, hb3⟩; have hx3 : Box w3 w.heap.size (str d) 9 := HX2.out.same (hb3.block _ HX2.out.lt); have HX3 := Lib.hid hx3; have HF3 := Lib.hid (HF2.out.below hb3); have HB3 := Lib.hid hb3; clear hb3 hx3)
    | (gi_at_call 52; refine (callsIn_wide.2 (CP.out _ (HF3.out.alloc _))).mono ?_; rintro e w4 ⟨v4, rfl, hb4, hr4, hB4⟩; have HB4 := Lib.hid hb4; have HR4 := Lib.hid hr4; have HBL4 := Lib.hid hB4; clear hb4 hr4 hB4))
  have hnb : Box w4 w3.heap.size (.slice none 0 0) 80 := box_after HBL4.out
  have hxb : Box w4 w.heap.size (str d) 9 := HX3.out.same ((HBL4.out.block _ (by have := HX3.out.lt; simp; omega)).trans (Below.heap_alloc _ _ _ HX3.out.lt))
  have hsz : (w3.alloc (.cells #[.slice none 0 0] 80)).heap.size = w3.heap.size + 1 := by simp
  have hle4 : w3.heap.size + 1 < w4.heap.size := by
    have := HBL4.out.size
    have h1 := HB4.out.lt
    rw [hsz] at this h1
    exact h1
  have h23 : w2.heap.size ≤ w3.heap.size := HB3.out.size
  have hw2 : w.heap.size < w2.heap.size := HX2.out.lt
  have hB24 : Below w2.heap.size w2 w4 := (HB3.out.alloc h23 _).trans (HBL4.out.mono (by rw [hsz]; omega))
  have hrow4 := HR4.out
  have hv4 : ∀ j, v4.ownBlock = some j → w3.heap.size + 2 ≤ j ∧ j < w4.heap.size := fun j hj => by
    have := hrow4.lt j hj
    rw [hsz] at this
    omega
  have HV4 := Lib.hid hv4
  rw [hsz] at hrow4
  have hbox4 := HB4.out
  rw [hsz] at hbox4
  have HNB := Lib.hid hnb
  have HXB := Lib.hid hxb
  have HB24 := Lib.hid hB24
  have hit := paths_iter w4 (w3.heap.size + 1) _ v4 (pathsOf es) (by rw [pathsOf_length]; exact HL.out) hbox4 (by rw [pathsOf_length]; exact hrow4)
  clear hnb hxb hsz hrow4 hbox4 hv4 hB24 cx1 cx2
  refine range_law (gf := 114) (xs := (pathsOf es).map str) (T := PathsT (w3.heap.size + 1) v4) rfl (enters_of Tryz.func114 (by kernel_rfl) rfl) hit
    (fun k hk => by rcases hk with rfl | hk; exact hle4; exact (HV4.out k hk).2)
    (fun k W => ListI w w2 w3.heap.size (w4.heap.size + 2) d (pathsOf es) k W) (fun _ _ => False) ?hI (fun _ _ _ h _ => h) ?h0
    (fun x => { tmps := #[.pointer (some ⟨b, 0, none⟩), str d, undef, .pointer (some ⟨w.heap.size, 0, none⟩), .slice none 0 0, .int .i64 0, .int .i64 0, .bool false, .bool true, .pointer (some ⟨w3.heap.size, 0, none⟩), x, undef, undef,
        .pointer (some ⟨b, 0, none⟩), str d, .bool false, .bool false, str d, .bool (goodP d), .bool (goodP d), .int .i64 0, .int .i64 0, .bool false, undef, .tuple #[.bool false, .bool true], .pointer (some ⟨b, 0, none⟩), str d, .tuple #[.bool false, .bool true],
        .bool false, .bool true, .bool false, .bool true, .bool false, .pointer (some ⟨b, 0, none⟩), .func (.func 114) #[] #[.pointer (some ⟨w3.heap.size + 1, 0, none⟩)], x,
        undef, undef, undef, undef, undef, undef, undef, undef, undef, undef, undef, undef, undef], defers := [] }) ?assign ?body ?done ?stop
  case hI =>
    rintro k W W' ⟨v, g1, g2, g3, g4⟩ ht
    have hT : ∀ j, (PathsT (w3.heap.size + 1) v4 j ∨ j = w4.heap.size + 1) → w3.heap.size + 1 ≤ j ∧ j < w4.heap.size + 2 := fun j hj => by
      rcases hj with (rfl | hj) | rfl
      · omega
      · have := HV4.out j hj; omega
      · omega
    refine ⟨v, g1.same (ht.block _ g1.lt fun h => by have := hT _ h; omega), ?_, g3.same (ht.block _ g3.lt fun h => by have := hT _ h; omega), g4.trans (ht.below g4.size fun j hj => by have := hT _ hj; omega)⟩
    exact row_kept g2 fun k hk => ht.block k (g2.lt k hk).2 fun h => by have := hT _ h; have := (g2.lt k hk).1; omega
  case h0 => exact ⟨_, HNB.out, World.ownsRow_nil _ _ _ _, HXB.out, HB24.out⟩
  case assign =>
    intro l x W K hK
    gi_wp2_with fail
    exact hK
  case stop => exact fun _ _ h => h.elim
  case body =>
    rintro l k x W hx ⟨v, g1, g2, g3, g4⟩ hlt
    obtain ⟨p, hp, rfl⟩ : ∃ p, (pathsOf es)[k]? = some p ∧ str p = x := by simpa using hx
    have CE := Lib.hid (entry_any d p W (HSM.out p (List.mem_of_getElem? hp)))
    have hzl : (namesOf d ((pathsOf es).take k)).length ≤ 1000000 := by
      refine Nat.le_trans (namesOf_le _ _) ?_
      rw [List.length_take, pathsOf_length]
      have := HL.out
      omega
    have HZL := Lib.hid hzl
    have cd := g3.cell
    have G1 := Lib.hid g1
    have G2 := Lib.hid g2
    have G3 := Lib.hid g3
    have G4 := Lib.hid g4
    have HP := Lib.hid hp
    clear hx g1 g2 g3 g4 hp hzl hit
    have hT : ∀ j, (PathsT (w3.heap.size + 1) v4 j ∨ j = w4.heap.size ∨ j = w4.heap.size + 1) → w3.heap.size + 1 ≤ j ∧ j < w4.heap.size + 2 := fun j hj => by
      rcases hj with (rfl | hj) | rfl | rfl
      · omega
      · have := HV4.out j hj; omega
      · omega
      · omega
    have HT := Lib.hid hT
    clear hT
    cases he : (entryP d p).2 with
    | false =>
      rw [he] at CE
      have HE := Lib.hid he
      clear he
      generalize (entryP d p).1 = nm at CE
      gi_wp2_with (gi_at_call 94; refine (callsIn_wide.2 CE.out).mono ?_; rintro e w5 ⟨rfl, hb5⟩; have HB5 := Lib.hid hb5; clear hb5)
      refine ⟨Same.of_touch (Touch.of_below (T := fun _ => False) HB5.out) fun j hj => ⟨by have := HT.out j hj; omega, fun h => h⟩, v, G1.out.same (HB5.out.block _ G1.out.lt), ?_, G3.out.same (HB5.out.block _ G3.out.lt), G4.out.trans (HB5.out.mono G4.out.size)⟩
      rw [namesOf_skip HP.out HE.out]
      exact row_kept G2.out fun k hk => HB5.out.block k (G2.out.lt k hk).2
    | true =>
      rw [he] at CE
      have hmore := namesOf_more HP.out he
      generalize (entryP d p).1 = nm at CE hmore
      have HM := Lib.hid hmore
      clear he hmore
      gi_wp2_with (first
        | (gi_at_call 94; refine (callsIn_wide.2 CE.out).mono ?_; rintro e w5 ⟨rfl, hb5⟩; have hn5 := (G1.out.same (hb5.block _ G1.out.lt)).cell; have HB5 := Lib.hid hb5; clear hb5)
        | (gi_at_builtin; refine wpListIn_append_str rfl _ _ rfl (w4.heap.size + 2) v (namesOf d ((pathsOf es).take k)) nm w5.heap.size 1 rfl rfl (cell_of_row _ _ 0 _ _ _ (World.alloc_heap_new w5 _)) (row_kept G2.out fun k hk => (Below.heap_alloc _ _ k (Nat.lt_of_lt_of_le (G2.out.lt k hk).2 HB5.out.size)).trans (HB5.out.block k (G2.out.lt k hk).2)) (by have := HB5.out.size; simp; omega) HZL.out ?_; intro g6 cap6 w6 hr6 hg6 hl6; have hn6 : Box w6 w3.heap.size v 80 := G1.out.same ((hg6.block _ (by have := HB5.out.size; have := G1.out.lt; simp; omega) (row_ne_low G2.out (by omega))).trans ((Below.heap_alloc _ _ _ (Nat.lt_of_lt_of_le G1.out.lt HB5.out.size)).trans (HB5.out.block _ G1.out.lt))); have hn6c := hn6.cell; have hn6f := hn6.frozen; have HN6 := Lib.hid hn6; simp only [List.length_append, List.length_cons, List.length_nil, Nat.zero_add] at hr6; have HR6 := Lib.hid hr6; have HG6 := Lib.hid hg6; have HL6 := Lib.hid hl6; clear hn6 hr6 hg6 hl6))
      have h5 : W.heap.size ≤ w5.heap.size := HB5.out.size
      have hg6l : w4.heap.size + 2 ≤ g6 ∧ g6 < w6.heap.size := HR6.out.lt g6 rfl
      have hU : Touch (fun j => j = w3.heap.size ∨ w4.heap.size + 2 ≤ j) W (w6.setCell ⟨w3.heap.size, 0, none⟩ (.slice (some ⟨g6, 0, none⟩) ((namesOf d ((pathsOf es).take k)).length + 1) cap6)) :=
        (((Touch.of_below HB5.out).trans (Touch.alloc _ _ _)).trans (Touch.of_grown HG6.out fun j hj => .inr (G2.out.lt j hj).1)).trans (Touch.setCell _ _ _ (.inl rfl))
      refine ⟨Same.of_touch hU fun j hj => ⟨by have := HT.out j hj; omega, fun h => by have := HT.out j hj; omega⟩, _, HN6.out.set _, ?_, ?_, ?_⟩
      · rw [HM.out]
        simp only [List.length_append, List.length_cons, List.length_nil, Nat.zero_add]
        exact row_kept HR6.out fun j hj => Below.heap_setCell _ _ _ j (by cases hj; show g6 ≠ w3.heap.size; omega)
      · exact G3.out.same (hU.block _ G3.out.lt (by omega))
      · exact G4.out.trans (hU.below G4.out.size fun j hj => by omega)
  case done =>
    rintro W ⟨v, g1, g2, g3, g4⟩ hK
    have htk : (pathsOf es).take ((pathsOf es).map str).length = pathsOf es := by rw [List.length_map]; exact List.take_of_length_le (Nat.le_refl _)
    rw [htk] at g2
    have CC := Lib.hid (compact_any W (w4.heap.size + 2) v (namesOf d (pathsOf es)) g2 (Nat.le_trans (namesOf_le _ _) (by rw [pathsOf_length]; exact HL.out)))
    have cn := g1.cell
    have G4 := Lib.hid g4
    have HK := Lib.hid hK
    have hBlt : w4.heap.size < W.heap.size := (Array.getElem?_eq_some_iff.1 hK).1
    clear g1 g2 g3 g4 hK htk hit
    gi_wp2_with (gi_at_call 95; refine (callsIn_wide.2 CC.out).mono ?_; rintro e w7 ⟨v7, rfl, hr7, hT7⟩; have HR7 := Lib.hid hr7; have HT7 := Lib.hid hT7; clear hr7 hT7)
    have hK7 := (HT7.out.block _ hBlt (by omega)).trans HK.out
    refine ⟨by simp, .inl ⟨_, _, rfl, run_takeDeferred hK7, ?_⟩⟩
    have hB7 : Below w2.heap.size w2 (w7.putObj w4.heap.size (.deferred none)) :=
      (G4.out.trans (HT7.out.below G4.out.size fun j hj => by omega)).trans ((Touch.putObj (T := fun j => j = w4.heap.size) _ _ _ rfl).below (Nat.le_trans G4.out.size HT7.out.size) fun j hj => by omega)
    refine ⟨.tuple #[v7, .int .i64 0], by simp [results, Tryz.results32, go_sem], v7, rfl, ?_, HF2.out.below hB7, ((Touch.of_below HB1.out).trans HT2.out).trans (Touch.of_below hB7)⟩
    refine own_base (row_kept HR7.out fun j hj => World.putObj_heap_other fun e => ?_) (by omega)
    have := (HR7.out.lt j hj).1
    omega

set_option maxRecDepth 100000 in
set_option maxHeartbeats 2000000 in
theorem list_root (w : World) (FP : Nat → Prop) (b bm : Nat) (es : List Ent) (s s1 : St) (d : List UInt8) (h : FsAt w FP b bm es s) (ho : StOk s) (hc : s.calls ≤ 4000000000000000000) (hd : d = [47]) (h1 : startP s true = (0, s1)) (h2 : isP es d = (false, true)) (hl : es.length ≤ 1000000) :
    Calls Tryz.prog 32 #[.pointer (some ⟨b, 0, none⟩), str d] w (ListPost w FP b bm es (Lib.compact (namesOf d (pathsOf es)), 0, s1)) := by
  refine (callsIn_wide (n := 8)).1 ?_
  refine callsIn_of_wp_marks Tryz.func32 rfl trivial ?_ rfl
  simp only [Tryz.ntmps32, List.size_toArray, List.length_cons, List.length_nil, Nat.reduceAdd, Nat.reduceSub, Array.replicate_succ, Array.replicate_zero, List.push_toArray, List.append_toArray, List.nil_append, List.cons_append]
  have hf1 : Fence.wide.fn 90 := trivial
  have hf2 : Fence.wide.fn 47 := trivial
  have hf3 : Fence.wide.fn 91 := trivial
  have hf4 : Fence.wide.fn 52 := trivial
  have hf5 : Fence.wide.fn 94 := trivial
  have hf6 : Fence.wide.fn 95 := trivial
  have hdep : Fence.wide.depth.isSome = false := rfl
  have CG := Lib.hid (good_any d)
  have CS := Lib.hid (fun (W : World) (hW : Below w.heap.size w W) => start_any W FP b bm es s true (h.below hW) ho hc)
  rw [h1] at CS
  have CI := Lib.hid (fun (W : World) (hW : FsAt W FP b bm es s1) => is_any W FP b bm es s1 d hW)
  rw [h2] at CI
  have CP := Lib.hid (fun (W : World) (hW : FsAt W FP b bm es s1) => paths_any W FP b bm es s1 hW hl)
  have hq : (d == [47]) = true := by simpa using hd
  have hw1 : Below w.heap.size w (w.alloc (.cells #[str d] 9)) := (Below.refl _ w).alloc (Nat.le_refl _) _
  have hbx1 : Box (w.alloc (.cells #[str d] 9)) w.heap.size (str d) 9 := World.alloc_heap_new w _
  have HB1 := Lib.hid hw1
  have HX1 := Lib.hid hbx1
  clear hw1 hbx1 CG
  have HLT := Lib.hid h.lt
  have HL := Lib.hid hl
  have HSM := Lib.hid (fun p (hp : p ∈ pathsOf es) => good_small h.files hp)
  clear h ho hc hd h1 h2 hl
  gi_wp2_with (first
    | (gi_at_call 90; refine (callsIn_wide.2 (CS.out _ HB1.out)).mono ?_; rintro e w2 ⟨rfl, hF2, hT2⟩; have hx2 : Box w2 w.heap.size (str d) 9 := HX1.out.same (hT2.block _ HX1.out.lt (by have := HLT.out; omega)); have cx2 := hx2.cell; have HX2 := Lib.hid hx2; have HF2 := Lib.hid hF2; have HT2 := Lib.hid hT2; clear hF2 hT2 hx2)
    | (gi_at_call 47; refine (callsIn_wide.2 (CI.out _ HF2.out)).mono ?_; rintro e w3 ⟨rfl, hb3⟩; have hx3 : Box w3 w.heap.size (str d) 9 := HX2.out.same (hb3.block _ HX2.out.lt); have HX3 := Lib.hid hx3; have HF3 := Lib.hid (HF2.out.below hb3); have HB3 := Lib.hid hb3; clear hb3 hx3)
    | (gi_at_call 52; refine (callsIn_wide.2 (CP.out _ (HF3.out.alloc _))).mono ?_; rintro e w4 ⟨v4, rfl, hb4, hr4, hB4⟩; have HB4 := Lib.hid hb4; have HR4 := Lib.hid hr4; have HBL4 := Lib.hid hB4; clear hb4 hr4 hB4))
  have hnb : Box w4 w3.heap.size (.slice none 0 0) 80 := box_after HBL4.out
  have hxb : Box w4 w.heap.size (str d) 9 := HX3.out.same ((HBL4.out.block _ (by have := HX3.out.lt; simp; omega)).trans (Below.heap_alloc _ _ _ HX3.out.lt))
  have hsz : (w3.alloc (.cells #[.slice none 0 0] 80)).heap.size = w3.heap.size + 1 := by simp
  have hle4 : w3.heap.size + 1 < w4.heap.size := by
    have := HBL4.out.size
    have h1 := HB4.out.lt
    rw [hsz] at this h1
    exact h1
  have h23 : w2.heap.size ≤ w3.heap.size := HB3.out.size
  have hw2 : w.heap.size < w2.heap.size := HX2.out.lt
  have hB24 : Below w2.heap.size w2 w4 := (HB3.out.alloc h23 _).trans (HBL4.out.mono (by rw [hsz]; omega))
  have hrow4 := HR4.out
  have hv4 : ∀ j, v4.ownBlock = some j → w3.heap.size + 2 ≤ j ∧ j < w4.heap.size := fun j hj => by
    have := hrow4.lt j hj
    rw [hsz] at this
    omega
  have HV4 := Lib.hid hv4
  rw [hsz] at hrow4
  have hbox4 := HB4.out
  rw [hsz] at hbox4
  have HNB := Lib.hid hnb
  have HXB := Lib.hid hxb
  have HB24 := Lib.hid hB24
  have hit := paths_iter w4 (w3.heap.size + 1) _ v4 (pathsOf es) (by rw [pathsOf_length]; exact HL.out) hbox4 (by rw [pathsOf_length]; exact hrow4)
  clear hnb hxb hsz hrow4 hbox4 hv4 hB24 cx2
  refine range_law (gf := 114) (xs := (pathsOf es).map str) (T := PathsT (w3.heap.size + 1) v4) rfl (enters_of Tryz.func114 (by kernel_rfl) rfl) hit
    (fun k hk => by rcases hk with rfl | hk; exact hle4; exact (HV4.out k hk).2)
    (fun k W => ListI w w2 w3.heap.size (w4.heap.size + 2) d (pathsOf es) k W) (fun _ _ => False) ?hI (fun _ _ _ h _ => h) ?h0
    (fun x => { tmps := #[.pointer (some ⟨b, 0, none⟩), str d, undef, .pointer (some ⟨w.heap.size, 0, none⟩), .slice none 0 0, .int .i64 0, .int .i64 0, .bool false, .bool true, .pointer (some ⟨w3.heap.size, 0, none⟩), x, undef, undef,
        .pointer (some ⟨b, 0, none⟩), str d, .bool true, .bool true, undef, undef, .bool true, .int .i64 0, .int .i64 0, .bool false, undef, .tuple #[.bool false, .bool true], .pointer (some ⟨b, 0, none⟩), str d, .tuple #[.bool false, .bool true],
        .bool false, .bool true, .bool false, .bool true, .bool false, .pointer (some ⟨b, 0, none⟩), .func (.func 114) #[] #[.pointer (some ⟨w3.heap.size + 1, 0, none⟩)], x,
        undef, undef, undef, undef, undef, undef, undef, undef, undef, undef, undef, undef, undef], defers := [] }) ?assign ?body ?done ?stop
  case hI =>
    rintro k W W' ⟨v, g1, g2, g3, g4⟩ ht
    have hT : ∀ j, (PathsT (w3.heap.size + 1) v4 j ∨ j = w4.heap.size + 1) → w3.heap.size + 1 ≤ j ∧ j < w4.heap.size + 2 := fun j hj => by
      rcases hj with (rfl | hj) | rfl
      · omega
      · have := HV4.out j hj; omega
      · omega
    refine ⟨v, g1.same (ht.block _ g1.lt fun h => by have := hT _ h; omega), ?_, g3.same (ht.block _ g3.lt fun h => by have := hT _ h; omega), g4.trans (ht.below g4.size fun j hj => by have := hT _ hj; omega)⟩
    exact row_kept g2 fun k hk => ht.block k (g2.lt k hk).2 fun h => by have := hT _ h; have := (g2.lt k hk).1; omega
  case h0 => exact ⟨_, HNB.out, World.ownsRow_nil _ _ _ _, HXB.out, HB24.out⟩
  case assign =>
    intro l x W K hK
    gi_wp2_with fail
    exact hK
  case stop => exact fun _ _ h => h.elim
  case body =>
    rintro l k x W hx ⟨v, g1, g2, g3, g4⟩ hlt
    obtain ⟨p, hp, rfl⟩ : ∃ p, (pathsOf es)[k]? = some p ∧ str p = x := by simpa using hx
    have CE := Lib.hid (entry_any d p W (HSM.out p (List.mem_of_getElem? hp)))
    have hzl : (namesOf d ((pathsOf es).take k)).length ≤ 1000000 := by
      refine Nat.le_trans (namesOf_le _ _) ?_
      rw [List.length_take, pathsOf_length]
      have := HL.out
      omega
    have HZL := Lib.hid hzl
    have cd := g3.cell
    have G1 := Lib.hid g1
    have G2 := Lib.hid g2
    have G3 := Lib.hid g3
    have G4 := Lib.hid g4
    have HP := Lib.hid hp
    clear hx g1 g2 g3 g4 hp hzl hit
    have hT : ∀ j, (PathsT (w3.heap.size + 1) v4 j ∨ j = w4.heap.size ∨ j = w4.heap.size + 1) → w3.heap.size + 1 ≤ j ∧ j < w4.heap.size + 2 := fun j hj => by
      rcases hj with (rfl | hj) | rfl | rfl
      · omega
      · have := HV4.out j hj; omega
      · omega
      · omega
    have HT := Lib.hid hT
    clear hT
    cases he : (entryP d p).2 with
    | false =>
      rw [he] at CE
      have HE := Lib.hid he
      clear he
      generalize (entryP d p).1 = nm at CE
      gi_wp2_with (gi_at_call 94; refine (callsIn_wide.2 CE.out).mono ?_; rintro e w5 ⟨rfl, hb5⟩; have HB5 := Lib.hid hb5; clear hb5)
      refine ⟨Same.of_touch (Touch.of_below (T := fun _ => False) HB5.out) fun j hj => ⟨by have := HT.out j hj; omega, fun h => h⟩, v, G1.out.same (HB5.out.block _ G1.out.lt), ?_, G3.out.same (HB5.out.block _ G3.out.lt), G4.out.trans (HB5.out.mono G4.out.size)⟩
      rw [namesOf_skip HP.out HE.out]
      exact row_kept G2.out fun k hk => HB5.out.block k (G2.out.lt k hk).2
    | true =>
      rw [he] at CE
      have hmore := namesOf_more HP.out he
      generalize (entryP d p).1 = nm at CE hmore
      have HM := Lib.hid hmore
      clear he hmore
      gi_wp2_with (first
        | (gi_at_call 94; refine (callsIn_wide.2 CE.out).mono ?_; rintro e w5 ⟨rfl, hb5⟩; have hn5 := (G1.out.same (hb5.block _ G1.out.lt)).cell; have HB5 := Lib.hid hb5; clear hb5)
        | (gi_at_builtin; refine wpListIn_append_str rfl _ _ rfl (w4.heap.size + 2) v (namesOf d ((pathsOf es).take k)) nm w5.heap.size 1 rfl rfl (cell_of_row _ _ 0 _ _ _ (World.alloc_heap_new w5 _)) (row_kept G2.out fun k hk => (Below.heap_alloc _ _ k (Nat.lt_of_lt_of_le (G2.out.lt k hk).2 HB5.out.size)).trans (HB5.out.block k (G2.out.lt k hk).2)) (by have := HB5.out.size; simp; omega) HZL.out ?_; intro g6 cap6 w6 hr6 hg6 hl6; have hn6 : Box w6 w3.heap.size v 80 := G1.out.same ((hg6.block _ (by have := HB5.out.size; have := G1.out.lt; simp; omega) (row_ne_low G2.out (by omega))).trans ((Below.heap_alloc _ _ _ (Nat.lt_of_lt_of_le G1.out.lt HB5.out.size)).trans (HB5.out.block _ G1.out.lt))); have hn6c := hn6.cell; have hn6f := hn6.frozen; have HN6 := Lib.hid hn6; simp only [List.length_append, List.length_cons, List.length_nil, Nat.zero_add] at hr6; have HR6 := Lib.hid hr6; have HG6 := Lib.hid hg6; have HL6 := Lib.hid hl6; clear hn6 hr6 hg6 hl6))
      have h5 : W.heap.size ≤ w5.heap.size := HB5.out.size
      have hg6l : w4.heap.size + 2 ≤ g6 ∧ g6 < w6.heap.size := HR6.out.lt g6 rfl
      have hU : Touch (fun j => j = w3.heap.size ∨ w4.heap.size + 2 ≤ j) W (w6.setCell ⟨w3.heap.size, 0, none⟩ (.slice (some ⟨g6, 0, none⟩) ((namesOf d ((pathsOf es).take k)).length + 1) cap6)) :=
        (((Touch.of_below HB5.out).trans (Touch.alloc _ _ _)).trans (Touch.of_grown HG6.out fun j hj => .inr (G2.out.lt j hj).1)).trans (Touch.setCell _ _ _ (.inl rfl))
      refine ⟨Same.of_touch hU fun j hj => ⟨by have := HT.out j hj; omega, fun h => by have := HT.out j hj; omega⟩, _, HN6.out.set _, ?_, ?_, ?_⟩
      · rw [HM.out]
        simp only [List.length_append, List.length_cons, List.length_nil, Nat.zero_add]
        exact row_kept HR6.out fun j hj => Below.heap_setCell _ _ _ j (by cases hj; show g6 ≠ w3.heap.size; omega)
      · exact G3.out.same (hU.block _ G3.out.lt (by omega))
      · exact G4.out.trans (hU.below G4.out.size fun j hj => by omega)
  case done =>
    rintro W ⟨v, g1, g2, g3, g4⟩ hK
    have htk : (pathsOf es).take ((pathsOf es).map str).length = pathsOf es := by rw [List.length_map]; exact List.take_of_length_le (Nat.le_refl _)
    rw [htk] at g2
    have CC := Lib.hid (compact_any W (w4.heap.size + 2) v (namesOf d (pathsOf es)) g2 (Nat.le_trans (namesOf_le _ _) (by rw [pathsOf_length]; exact HL.out)))
    have cn := g1.cell
    have G4 := Lib.hid g4
    have HK := Lib.hid hK
    have hBlt : w4.heap.size < W.heap.size := (Array.getElem?_eq_some_iff.1 hK).1
    clear g1 g2 g3 g4 hK htk hit
    gi_wp2_with (gi_at_call 95; refine (callsIn_wide.2 CC.out).mono ?_; rintro e w7 ⟨v7, rfl, hr7, hT7⟩; have HR7 := Lib.hid hr7; have HT7 := Lib.hid hT7; clear hr7 hT7)
    have hK7 := (HT7.out.block _ hBlt (by omega)).trans HK.out
    refine ⟨by simp, .inl ⟨_, _, rfl, run_takeDeferred hK7, ?_⟩⟩
    have hB7 : Below w2.heap.size w2 (w7.putObj w4.heap.size (.deferred none)) :=
      (G4.out.trans (HT7.out.below G4.out.size fun j hj => by omega)).trans ((Touch.putObj (T := fun j => j = w4.heap.size) _ _ _ rfl).below (Nat.le_trans G4.out.size HT7.out.size) fun j hj => by omega)
    refine ⟨.tuple #[v7, .int .i64 0], by simp [results, Tryz.results32, go_sem], v7, rfl, ?_, HF2.out.below hB7, ((Touch.of_below HB1.out).trans HT2.out).trans (Touch.of_below hB7)⟩
    refine own_base (row_kept HR7.out fun j hj => World.putObj_heap_other fun e => ?_) (by omega)
    have := (HR7.out.lt j hj).1
    omega

set_option maxRecDepth 100000 in
theorem list_bad (w : World) (FP : Nat → Prop) (b bm : Nat) (es : List Ent) (s s1 : St) (d : List UInt8) (h : FsAt w FP b bm es s) (ho : StOk s) (hc : s.calls ≤ 4000000000000000000) (hd : d ≠ [47]) (e1 : Int) (h1 : startP s (goodP d) = (e1, s1)) (he : e1 ≠ 0) :
    Calls Tryz.prog 32 #[.pointer (some ⟨b, 0, none⟩), str d] w (ListPost w FP b bm es ([], e1, s1)) := by
  have CG := Lib.hid (good_any d)
  have CS := Lib.hid (fun (W : World) (hW : Below w.heap.size w W) => start_any W FP b bm es s (goodP d) (h.below hW) ho hc)
  rw [h1] at CS
  have hq : (d == [47]) = false := by simpa using hd
  have hk : (e1 != 0) = true := by simpa using he
  have HLT := Lib.hid h.lt
  clear h ho hc hd h1 he
  go_enter Tryz.func32, Tryz.ntmps32
  go_wp2_with (first
    | (go_at_call 91; refine (CG.out _).mono ?_; rintro e w1 ⟨rfl, hb1⟩; have HB1 := Lib.hid (((Below.refl _ w).alloc (Nat.le_refl _) _).trans (hb1.mono (by simp))); clear hb1)
    | (go_at_call 90; refine (CS.out _ HB1.out).mono ?_; rintro e w2 ⟨rfl, hF2, hT2⟩; have HF2 := Lib.hid hF2; have HT2 := Lib.hid hT2; clear hF2 hT2))
  go_ret2
  exact ⟨_, rfl, World.ownsRow_nil _ _ _ _, HF2.out, (Touch.of_below HB1.out).trans HT2.out⟩

set_option maxRecDepth 100000 in
theorem list_bad_root (w : World) (FP : Nat → Prop) (b bm : Nat) (es : List Ent) (s s1 : St) (d : List UInt8) (h : FsAt w FP b bm es s) (ho : StOk s) (hc : s.calls ≤ 4000000000000000000) (hd : d = [47]) (e1 : Int) (h1 : startP s true = (e1, s1)) (he : e1 ≠ 0) :
    Calls Tryz.prog 32 #[.pointer (some ⟨b, 0, none⟩), str d] w (ListPost w FP b bm es ([], e1, s1)) := by
  have hw1 : Below w.heap.size w (w.alloc (.cells #[str d] 9)) := (Below.refl _ w).alloc (Nat.le_refl _) _
  have CS := Lib.hid (start_any _ FP b bm es s true (h.below hw1) ho hc)
  rw [h1] at CS
  have HB1 := Lib.hid hw1
  have hq : (d == [47]) = true := by simpa using hd
  have hk : (e1 != 0) = true := by simpa using he
  have HLT := Lib.hid h.lt
  clear h ho hc hd h1 he hw1
  go_enter Tryz.func32, Tryz.ntmps32
  go_wp2_with (go_at_call 90; refine (CS.out).mono ?_; rintro e w2 ⟨rfl, hF2, hT2⟩; have HF2 := Lib.hid hF2; have HT2 := Lib.hid hT2; clear hF2 hT2)
  go_ret2
  exact ⟨_, rfl, World.ownsRow_nil _ _ _ _, HF2.out, (Touch.of_below HB1.out).trans HT2.out⟩

set_option maxRecDepth 100000 in
theorem list_not (w : World) (FP : Nat → Prop) (b bm : Nat) (es : List Ent) (s s1 : St) (d : List UInt8) (h : FsAt w FP b bm es s) (ho : StOk s) (hc : s.calls ≤ 4000000000000000000) (hd : d ≠ [47]) (h1 : startP s (goodP d) = (0, s1)) (f : Bool) (h2 : isP es d = (f, false)) :
    Calls Tryz.prog 32 #[.pointer (some ⟨b, 0, none⟩), str d] w (ListPost w FP b bm es ([], if f then 24 else 4, s1)) := by
  have CG := Lib.hid (good_any d)
  have CS := Lib.hid (fun (W : World) (hW : Below w.heap.size w W) => start_any W FP b bm es s (goodP d) (h.below hW) ho hc)
  rw [h1] at CS
  have CI := Lib.hid (fun (W : World) (hW : FsAt W FP b bm es s1) => is_any W FP b bm es s1 d hW)
  rw [h2] at CI
  have hq : (d == [47]) = false := by simpa using hd
  have HLT := Lib.hid h.lt
  clear h ho hc hd h1 h2
  cases f
  all_goals
    go_enter Tryz.func32, Tryz.ntmps32
    go_wp2_with (first
      | (go_at_call 91; refine (CG.out _).mono ?_; rintro e w1 ⟨rfl, hb1⟩; have hx1 : Box w1 w.heap.size (str d) 9 := box_after hb1; have cx1 := hx1.cell; have HX1 := Lib.hid hx1; have HB1 := Lib.hid (((Below.refl _ w).alloc (Nat.le_refl _) _).trans (hb1.mono (by simp))); clear hb1 hx1)
      | (go_at_call 90; refine (CS.out _ HB1.out).mono ?_; rintro e w2 ⟨rfl, hF2, hT2⟩; have hx2 : Box w2 w.heap.size (str d) 9 := HX1.out.same (hT2.block _ HX1.out.lt (by have := HLT.out; omega)); have cx2 := hx2.cell; have HX2 := Lib.hid hx2; have HF2 := Lib.hid hF2; have HT2 := Lib.hid hT2; clear hF2 hT2 hx2)
      | (go_at_call 47; refine (CI.out _ HF2.out).mono ?_; rintro e w3 ⟨rfl, hb3⟩; have HB3 := Lib.hid hb3; clear hb3))
    go_ret2
    exact ⟨_, rfl, World.ownsRow_nil _ _ _ _, HF2.out.below HB3.out, ((Touch.of_below HB1.out).trans HT2.out).trans (Touch.of_below HB3.out)⟩

theorem isP_root (es : List Ent) : isP es [47] = (false, true) := by rw [isP, if_pos rfl]
theorem isP_both {es : List Ent} {d : List UInt8} (h : (isP es d).1 = true) : (isP es d).2 = false := by
  unfold isP at h ⊢
  split
  · next e => rw [if_pos e] at h; cases h
  · next e =>
    rw [if_neg e] at h
    split
    · rfl
    · next e2 => rw [if_neg e2] at h; simp only at h; simp [h]
theorem list_any (w : World) (FP : Nat → Prop) (b bm : Nat) (es : List Ent) (s : St) (d : List UInt8) (h : FsAt w FP b bm es s) (ho : StOk s) (hc : s.calls ≤ 4000000000000000000) (hl : es.length ≤ 1000000) :
    Calls Tryz.prog 32 #[.pointer (some ⟨b, 0, none⟩), str d] w (ListPost w FP b bm es (listP es s d)) := by
  unfold listP
  by_cases hd : d = [47]
  · have hb : (d == [47] || goodP d) = true := by simp [hd]
    have hi : isP es d = (false, true) := by rw [hd]; exact isP_root es
    rw [hb, hi]
    cases h1 : startP s true with
    | mk e1 s1 =>
      by_cases he : e1 = 0
      · subst he
        simpa using list_root w FP b bm es s s1 d h ho hc hd h1 hi hl
      · simpa [he] using list_bad_root w FP b bm es s s1 d h ho hc hd e1 h1 he
  · have hb : (d == [47] || goodP d) = goodP d := by simp [hd]
    rw [hb]
    cases h1 : startP s (goodP d) with
    | mk e1 s1 =>
      by_cases he : e1 = 0
      · subst he
        cases h2 : isP es d with
        | mk f g =>
          cases g with
          | false =>
            have := list_not w FP b bm es s s1 d h ho hc hd h1 f h2
            cases f <;> simpa using this
          | true =>
            have hf : f = false := by
              cases f with
              | false => rfl
              | true => have := isP_both (es := es) (d := d) (by rw [h2]); rw [h2] at this; cases this
            subst hf
            simpa using list_ok w FP b bm es s s1 d h ho hc hd h1 h2 hl
      · simpa [he] using list_bad w FP b bm es s s1 d h ho hc hd e1 h1 he

end Go.Proofs.YthpkfgjjaieikaaGreatDoor
