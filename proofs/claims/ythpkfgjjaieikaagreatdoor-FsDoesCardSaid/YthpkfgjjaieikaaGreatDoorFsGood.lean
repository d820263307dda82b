/-
  What simfs.Good returns, for every string.
-/
import Derived.Test.YthpkfgjjaieikaaGreatDoorFsSplit
namespace Go.Proofs.YthpkfgjjaieikaaGreatDoor
open Go.RowKit Go.Shelf Go.Lib
attribute [local go_sem] Oper.semAt_some

/-- between two rounds of Good -/
def GoodI (r : List UInt8) (w : World) (k : Nat) (W : World) : Prop := Box W w.heap.size (.bool false) 4 ∧ ((names r).take k).all nameOk = true ∧ Below w.heap.size w W
/-- behind a name that is none -/
def GoodX (r : List UInt8) (w : World) (W : World) : Prop := Box W w.heap.size (.bool false) 4 ∧ (names r).all nameOk = false ∧ Below w.heap.size w W
theorem good_bad {l : List (List UInt8)} {k : Nat} {n : List UInt8} (h : l[k]? = some n) (hb : nameOk n = false) : l.all nameOk = false := by
  rw [List.all_eq_false]
  exact ⟨n, List.mem_of_getElem? h, by simp [hb]⟩
theorem good_step {l : List (List UInt8)} {k : Nat} {n : List UInt8} (h : l[k]? = some n) (ho : nameOk n = true) (ha : (l.take k).all nameOk = true) : (l.take (k + 1)).all nameOk = true := by
  rw [List.take_add_one, h, List.all_append, ha]
  simp [ho]
theorem bad_of {n : List UInt8} (h : (n.isEmpty = true ∨ (n == [46]) = true) ∨ (n == [46, 46]) = true) : nameOk n = false := by
  unfold nameOk
  rcases h with (h | h) | h <;> simp_all
theorem ok_of {n : List UInt8} (h : (n.isEmpty = false ∧ (n == [46]) = false) ∧ (n == [46, 46]) = false) : nameOk n = true := by
  unfold nameOk
  simp_all
theorem cut_root (r : List UInt8) (w : World) :
    Calls Tryz.prog 161 #[str (47 :: r), str [47]] w fun e w' => e = .returned (.tuple #[str r, .bool true]) ∧ w = w' :=
  (Any.strings_CutPrefix Tryz.layCutPrefix ⟨(47 :: r).toArray⟩ ⟨#[47]⟩ w).mono fun _ _ ⟨h1, h2⟩ => ⟨by simpa [Lib.trimPrefix, Lib.hasPrefix] using h1, h2.symm⟩
theorem cut_none (l : List UInt8) (w : World) (h : hasPrefix l [47] = false) :
    Calls Tryz.prog 161 #[str l, str [47]] w fun e w' => e = .returned (.tuple #[str l, .bool false]) ∧ w = w' :=
  (Any.strings_CutPrefix Tryz.layCutPrefix ⟨l.toArray⟩ ⟨#[47]⟩ w).mono fun _ _ ⟨h1, h2⟩ => ⟨by simpa [Lib.trimPrefix, h] using h1, h2.symm⟩

/-- the three boxes that SplitSeq lays -/
abbrev splitWorld (r : List UInt8) (w : World) : World := ((w.alloc (.cells #[str r] 9)).alloc (.cells #[str [47]] 9)).alloc (.cells #[.int .i64 0] 3)
theorem split_seq (r : List UInt8) (w : World) :
    Calls Tryz.prog 131 #[str r, str [47]] w fun e w' =>
      e = .returned (.func (.func 207) #[] #[.pointer (some ⟨w.heap.size + 1, 0, none⟩), .pointer (some ⟨w.heap.size, 0, none⟩), .pointer (some ⟨w.heap.size + 2, 0, none⟩)]) ∧ w' = splitWorld r w := by
  go_enter Tryz.func131, Tryz.ntmps131
  go_wp2
  go_ret
  exact ⟨rfl, rfl⟩

theorem good_not (l : List UInt8) (w : World) (h : hasPrefix l [47] = false) :
    Calls Tryz.prog 91 #[str l] w fun e w' => e = .returned (.bool false) ∧ Below w.heap.size w w' := by
  have CC := Lib.hid (fun W => cut_none l W h)
  clear h
  go_enter Tryz.func91, Tryz.ntmps91
  go_wp2_with (go_at_call 161; refine (CC.out _).mono ?_; rintro e w' ⟨rfl, rfl⟩)
  exact bodyPost_ret (v := .bool false) (by simp [results, Tryz.results91, go_sem]) rfl ⟨rfl, (Below.refl _ _).alloc (Nat.le_refl _) _⟩

set_option maxRecDepth 100000 in
theorem good_long (r : List UInt8) (w : World) (h : 1024 ≤ r.length) :
    Calls Tryz.prog 91 #[str (47 :: r)] w fun e w' => e = .returned (.bool false) ∧ Below w.heap.size w w' := by
  have hl : (1024 : Int) < ((r.length + 1 : Nat) : Int) := by omega
  clear h
  go_enter Tryz.func91, Tryz.ntmps91
  go_wp2_with (go_at_call 161; refine (cut_root r _).mono ?_; rintro e w' ⟨rfl, rfl⟩)
  exact bodyPost_ret (v := .bool false) (by simp [results, Tryz.results91, go_sem]) rfl ⟨rfl, (Below.refl _ _).alloc (Nat.le_refl _) _⟩

set_option maxRecDepth 100000 in
set_option maxHeartbeats 2000000 in
theorem good_short (r : List UInt8) (w : World) (h : r.length < 1024) :
    Calls Tryz.prog 91 #[str (47 :: r)] w fun e w' => e = .returned (.bool ((names r).all nameOk)) ∧ Below w.heap.size w w' := by
  have hl : ((r.length + 1 : Nat) : Int) ≤ 1024 := by omega
  have HS := Lib.hid (split_iter r (by omega))
  clear h
  refine (callsIn_wide (n := 6)).1 ?_
  refine callsIn_of_wp_marks Tryz.func91 rfl trivial ?_ rfl
  simp only [Tryz.ntmps91, List.size_toArray, List.length_cons, List.length_nil, Nat.reduceAdd, Nat.reduceSub, Array.replicate_succ, Array.replicate_zero, List.push_toArray, List.append_toArray, List.nil_append, List.cons_append]
  have hf1 : Fence.wide.fn 161 := trivial
  have hf2 : Fence.wide.fn 131 := trivial
  have hdep : Fence.wide.depth.isSome = false := rfl
  gi_wp2_with (first
    | (gi_at_call 161; refine (callsIn_wide.2 (cut_root r _)).mono ?_; rintro e w' ⟨rfl, rfl⟩)
    | (gi_at_call 131; refine (callsIn_wide.2 (split_seq r _)).mono ?_; rintro e w' ⟨rfl, rfl⟩))
  have hb0 : Box (splitWorld r (w.alloc (.cells #[.bool false] 4))) w.heap.size (.bool false) 4 := by
    unfold Box splitWorld
    rw [Below.heap_alloc _ _ _ (by simp <;> omega), Below.heap_alloc _ _ _ (by simp <;> omega), Below.heap_alloc _ _ _ (by simp)]
    exact World.alloc_heap_new w _
  have hb1 : Box (splitWorld r (w.alloc (.cells #[.bool false] 4))) (w.heap.size + 1) (str r) 9 := by
    unfold Box splitWorld
    rw [Below.heap_alloc _ _ _ (by simp <;> omega), Below.heap_alloc _ _ _ (by simp)]
    have := World.alloc_heap_new (w.alloc (.cells #[.bool false] 4)) (.cells #[str r] 9)
    simpa using this
  have hb2 : Box (splitWorld r (w.alloc (.cells #[.bool false] 4))) (w.heap.size + 1 + 1) (str [47]) 9 := by
    unfold Box splitWorld
    rw [Below.heap_alloc _ _ _ (by simp)]
    have := World.alloc_heap_new ((w.alloc (.cells #[.bool false] 4)).alloc (.cells #[str r] 9)) (.cells #[str [47]] 9)
    simpa using this
  have hb3 : Box (splitWorld r (w.alloc (.cells #[.bool false] 4))) (w.heap.size + 1 + 2) (.int .i64 0) 3 := by
    unfold Box splitWorld
    have := World.alloc_heap_new (((w.alloc (.cells #[.bool false] 4)).alloc (.cells #[str r] 9)).alloc (.cells #[str [47]] 9)) (.cells #[.int .i64 0] 3)
    simpa using this
  have hB : Below w.heap.size w (splitWorld r (w.alloc (.cells #[.bool false] 4))) := ((((Below.refl _ w).alloc (Nat.le_refl _) _).alloc (by simp) _).alloc (by simp <;> omega) _).alloc (by simp <;> omega) _
  have hsz : (splitWorld r (w.alloc (.cells #[.bool false] 4))).heap.size = w.heap.size + 4 := by simp
  generalize splitWorld r (w.alloc (.cells #[.bool false] 4)) = W0 at *
  have HB0 := Lib.hid hb0
  have HBl := Lib.hid hB
  have HSZ := Lib.hid hsz
  have hit := HS.out _ W0 hb1 hb2 hb3
  clear hb0 hb1 hb2 hb3 hB hsz HS
  refine range_law (gf := 207) (xs := (names r).map str) (T := Boxes (w.heap.size + 1)) rfl (enters_of Tryz.func207 (by kernel_rfl) rfl) hit
    (fun k hk => by have := HSZ.out; unfold Boxes at hk; omega)
    (fun k W => GoodI r w k W) (fun c W => c = .ret ∧ GoodX r w W) ?hI ?hIx ?h0
    (fun x => { tmps := #[str (47 :: r), undef, .pointer (some ⟨w.heap.size, 0, none⟩), str r, .bool true, x, .tuple #[str r, .bool true], str (47 :: r), .tuple #[str r, .bool true], str r, .bool true, .bool true, .bool false, .bool false, str (47 :: r),
        .int .i64 (↑r.length + 1), .bool (decide ((1024 : Int) < ↑r.length + 1)), .bool (decide ((1024 : Int) < ↑r.length + 1)), str r,
        .func (.func 207) #[] #[.pointer (some ⟨w.heap.size + 1 + 1, 0, none⟩), .pointer (some ⟨w.heap.size + 1, 0, none⟩), .pointer (some ⟨w.heap.size + 1 + 2, 0, none⟩)],
        x, undef, undef, undef, undef, undef, undef, undef, undef, undef, undef], defers := [] }) ?assign ?body ?done ?stop
  case hI =>
    rintro k W W' ⟨g1, g2, g3⟩ ht
    exact ⟨g1.same (ht.block _ g1.lt (fun h => by have := HSZ.out; unfold Boxes at h; omega)), g2, g3.trans (ht.below g3.size (fun j hj => by have := HSZ.out; unfold Boxes at hj; omega))⟩
  case hIx =>
    rintro c W W' ⟨hc, g1, g2, g3⟩ ht
    exact ⟨hc, g1.same (ht.block _ g1.lt (fun h => by have := HSZ.out; unfold Boxes at h; omega)), g2, g3.trans (ht.below g3.size (fun j hj => by have := HSZ.out; unfold Boxes at hj; omega))⟩
  case h0 => exact ⟨HB0.out, by simp, HBl.out⟩
  case assign =>
    intro l x W K hK
    gi_wp2_with fail
    exact hK
  case body =>
    rintro l k x W hx ⟨g1, g2, g3⟩ hlt
    obtain ⟨n, hn, rfl⟩ : ∃ n, (names r)[k]? = some n ∧ str n = x := by simpa using hx
    have c0 := g1.cell
    have f0 := g1.frozen
    have G1 := Lib.hid g1
    have G2 := Lib.hid g2
    have G3 := Lib.hid g3
    have HN := Lib.hid hn
    clear g1 g2 g3 hn hx
    have HSZ' := HSZ.out
    have hS : Same (fun j => j = W0.heap.size ∨ j = W0.heap.size + 1) W (W.setCell ⟨w.heap.size, 0, none⟩ (.bool false)) :=
      Same.of_touch (Touch.setCell (T := fun j => j = w.heap.size) W ⟨w.heap.size, 0, none⟩ _ rfl) fun j hj => ⟨by omega, by omega⟩
    have HS := Lib.hid hS
    clear hS HSZ'
    gi_wp2_with fail
    · have e : n = [] := by assumption
      exact ⟨HS.out, rfl, G1.out.set _, good_bad HN.out (e ▸ rfl), G3.out.setCell (p := ⟨w.heap.size, 0, none⟩) (Nat.le_refl _) _⟩
    · have e : n = [46] := by assumption
      exact ⟨HS.out, rfl, G1.out.set _, good_bad HN.out (e ▸ rfl), G3.out.setCell (p := ⟨w.heap.size, 0, none⟩) (Nat.le_refl _) _⟩
    · have hb : (n.isEmpty = true ∨ (n == [46]) = true) ∨ (n == [46, 46]) = true := by assumption
      exact ⟨HS.out, rfl, G1.out.set _, good_bad HN.out (bad_of hb), G3.out.setCell (p := ⟨w.heap.size, 0, none⟩) (Nat.le_refl _) _⟩
    · have hb : (n.isEmpty = false ∧ (n == [46]) = false) ∧ (n == [46, 46]) = false := by assumption
      exact ⟨Same.refl _ _, G1.out, good_step HN.out (ok_of hb) G2.out, G3.out⟩
  case done =>
    rintro W ⟨g1, g2, g3⟩ hK
    have c0 := g1.cell
    have f0 := g1.frozen
    have hne : w.heap.size ≠ W0.heap.size := by have := HSZ.out; omega
    have hlt := g1.lt
    gi_wp2_with fail
    refine ⟨by simp, .inl ⟨_, _, rfl, run_takeDeferred ((Below.heap_setCell W _ _ _ hne.symm).trans hK), ?_⟩⟩
    have hbx : Box ((W.setCell ⟨w.heap.size, 0, none⟩ (.bool true)).putObj W0.heap.size (.deferred none)) w.heap.size (.bool true) 4 := (g1.set _).same (World.putObj_heap_other hne)
    have hc := hbx.cell
    have hall : (names r).all nameOk = true := by
      rw [List.length_map, List.take_length] at g2
      exact g2
    have hB1 : Below w.heap.size w ((W.setCell ⟨w.heap.size, 0, none⟩ (.bool true)).putObj W0.heap.size (.deferred none)) :=
      (g3.setCell (p := ⟨w.heap.size, 0, none⟩) (Nat.le_refl _) _).trans ((Touch.putObj (T := fun j => j = W0.heap.size) _ _ _ rfl).below (Nat.le_trans g3.size (by simp [World.setCell])) (fun j hj => by have := HSZ.out; omega))
    rw [hall]
    exact ⟨.bool true, by simp [results, Tryz.results91, go_sem, hc], rfl, hB1⟩
  case stop =>
    rintro c W ⟨rfl, g1, g2, g3⟩ hK
    have hne : w.heap.size ≠ W0.heap.size := by have := HSZ.out; omega
    gi_wp2_with fail
    refine ⟨by simp, .inl ⟨_, _, rfl, run_takeDeferred hK, ?_⟩⟩
    have hbx : Box (W.putObj W0.heap.size (.deferred none)) w.heap.size (.bool false) 4 := g1.same (World.putObj_heap_other hne)
    have hc := hbx.cell
    have hB1 : Below w.heap.size w (W.putObj W0.heap.size (.deferred none)) :=
      g3.trans ((Touch.putObj (T := fun j => j = W0.heap.size) _ _ _ rfl).below g3.size (fun j hj => by have := HSZ.out; omega))
    rw [g2]
    exact ⟨.bool false, by simp [results, Tryz.results91, go_sem, hc], rfl, hB1⟩

theorem good_any (l : List UInt8) (w : World) :
    Calls Tryz.prog 91 #[str l] w fun e w' => e = .returned (.bool (goodP l)) ∧ Below w.heap.size w w' := by
  by_cases hp : hasPrefix l [47] = true
  · obtain ⟨r, rfl⟩ := (hasPrefix_root l).1 hp
    rw [goodP_root]
    by_cases hr : r.length < 1024
    · refine (good_short r w hr).mono fun e w' ⟨h1, h2⟩ => ⟨by rw [h1, decide_eq_true hr, Bool.true_and], h2⟩
    · refine (good_long r w (by omega)).mono fun e w' ⟨h1, h2⟩ => ⟨by rw [h1, decide_eq_false hr, Bool.false_and], h2⟩
  · have hp' : hasPrefix l [47] = false := by simpa using hp
    rw [goodP_not hp']
    exact good_not l w hp'

end Go.Proofs.YthpkfgjjaieikaaGreatDoor
