/-
  What every call of a file system that no call made (a nil one, and one without a map) returns.
-/
import Derived.Test.YthpkfgjjaieikaaDoorFsBegun
namespace Go.Proofs.YthpkfgjjaieikaaDoor
open Go.RowKit Go.Shelf Go.Lib Go.Maps

/-- a file system that no call made -/
def NoneV (w : World) (v : Value) : Prop := v = .pointer none ∨ ∃ b, v = .pointer (some ⟨b, 0, none⟩) ∧ b < w.heap.size ∧ w.cell? ⟨b, 0, none⟩ = some (.map none)
theorem NoneV.below {w w' : World} {v : Value} (h : NoneV w v) (hb : Below w.heap.size w w') : NoneV w' v := by
  rcases h with h | ⟨b, h1, h2, h3⟩
  · exact .inl h
  · exact .inr ⟨b, h1, Nat.lt_of_lt_of_le h2 hb.size, (hb.cell (p := ⟨b, 0, none⟩) h2).trans h3⟩
theorem usable_none (w : World) (v : Value) (h : NoneV w v) : Calls Tryd.prog 32 #[v] w fun e w' => e = .returned (.bool false) ∧ w = w' := by
  rcases h with rfl | ⟨b, rfl, _, h3⟩
  · exact usable_nil w
  · exact usable_zero w b h3
theorem NoneV.alloc {w : World} {v : Value} (h : NoneV w v) (o : Obj) : NoneV (w.alloc o) v := h.below ((Below.refl _ _).alloc (Nat.le_refl _) o)

theorem none_alloc (w : World) (o : Obj) : Below w.heap.size w (w.alloc o) := (Below.refl _ _).alloc (Nat.le_refl _) o
theorem count_none (w : World) (v : Value) (g : Bool) (h : NoneV w v) : Calls Tryd.prog 54 #[v, .bool g] w fun e w' => e = .returned (.tuple #[faultV (0, 0, 0), .int .i64 2]) ∧ Below w.heap.size w w' := by
  have CU := Lib.hid (fun (W : World) (hW : Below w.heap.size w W) => usable_none W v (h.below hW))
  clear h
  go_enter Tryd.func54, Tryd.ntmps54
  go_wp2_with (go_at_call 32; refine (CU.out _ (none_alloc _ _)).mono ?_; rintro e w' ⟨rfl, rfl⟩)
  exact bodyPost_ret (v := .tuple #[faultV (0, 0, 0), .int .i64 2]) (by simp [results, Tryd.results54, go_sem]) rfl ⟨rfl, none_alloc _ _⟩
theorem start_none (w : World) (v : Value) (g : Bool) (h : NoneV w v) : Calls Tryd.prog 37 #[v, .bool g] w fun e w' => e = .returned (.int .i64 2) ∧ Below w.heap.size w w' := by
  have CC := Lib.hid (count_none w v g h)
  clear h
  go_enter Tryd.func37, Tryd.ntmps37
  go_wp2_with (go_at_call 54; refine (CC.out).mono ?_; rintro e w1 ⟨rfl, hb1⟩; have HB1 := Lib.hid hb1; clear hb1)
  go_ret
  exact ⟨rfl, HB1.out.alloc HB1.out.size _⟩
set_option maxRecDepth 100000 in
theorem read_none (w : World) (v : Value) (p : List UInt8) (h : NoneV w v) : Calls Tryd.prog 23 #[v, str p] w fun e w' => e = .returned (.tuple #[.slice none 0 0, .int .i64 2]) ∧ Below w.heap.size w w' := by
  have CS := Lib.hid (fun (W : World) (g : Bool) (hW : Below w.heap.size w W) => start_none W v g (h.below hW))
  clear h
  go_enter Tryd.func23, Tryd.ntmps23
  go_wp2_with (first
    | (go_at_call 9; refine (good_any _ _).mono ?_; rintro e w1 ⟨rfl, hb1⟩; have HB1 := Lib.hid hb1; clear hb1)
    | (go_at_call 37; refine (CS.out _ _ HB1.out).mono ?_; rintro e w2 ⟨rfl, hb2⟩; have HB2 := Lib.hid hb2; clear hb2))
  go_ret2
  exact ⟨rfl, HB1.out.trans (HB2.out.mono HB1.out.size)⟩
set_option maxRecDepth 100000 in
theorem remove_none (w : World) (v : Value) (p : List UInt8) (h : NoneV w v) : Calls Tryd.prog 27 #[v, str p] w fun e w' => e = .returned (.int .i64 2) ∧ Below w.heap.size w w' := by
  have CS := Lib.hid (fun (W : World) (g : Bool) (hW : Below w.heap.size w W) => start_none W v g (h.below hW))
  clear h
  go_enter Tryd.func27, Tryd.ntmps27
  go_wp2_with (first
    | (go_at_call 9; refine (good_any _ _).mono ?_; rintro e w1 ⟨rfl, hb1⟩; have HB1 := Lib.hid hb1; clear hb1)
    | (go_at_call 37; refine (CS.out _ _ HB1.out).mono ?_; rintro e w2 ⟨rfl, hb2⟩; have HB2 := Lib.hid hb2; clear hb2))
  go_ret
  exact ⟨rfl, HB1.out.trans (HB2.out.mono HB1.out.size)⟩
set_option maxRecDepth 100000 in
theorem put_none (w : World) (v : Value) (p : List UInt8) (u : Value) (m : Bool) (h : NoneV w v) : Calls Tryd.prog 42 #[v, str p, u, .bool m] w fun e w' => e = .returned (.int .i64 2) ∧ Below w.heap.size w w' := by
  have CC := Lib.hid (fun (W : World) (g : Bool) (hW : Below w.heap.size w W) => count_none W v g (h.below hW))
  clear h
  go_enter Tryd.func42, Tryd.ntmps42
  go_wp2_with (first
    | (go_at_call 9; refine (good_any _ _).mono ?_; rintro e w1 ⟨rfl, hb1⟩; have HB1 := Lib.hid hb1; clear hb1)
    | (go_at_call 54; refine (CC.out _ _ HB1.out).mono ?_; rintro e w2 ⟨rfl, hb2⟩; have HB2 := Lib.hid hb2; clear hb2))
  go_ret
  exact ⟨rfl, (HB1.out.trans (HB2.out.mono HB1.out.size)).alloc (Nat.le_trans HB1.out.size HB2.out.size) _⟩
set_option maxRecDepth 100000 in
theorem write_none (w : World) (v : Value) (p : List UInt8) (u : Value) (h : NoneV w v) : Calls Tryd.prog 22 #[v, str p, u] w fun e w' => e = .returned (.int .i64 2) ∧ Below w.heap.size w w' := by
  have CP := Lib.hid (put_none w v p u false h)
  clear h
  go_enter Tryd.func22, Tryd.ntmps22
  go_wp2_with (first
    | (go_at_call 42; refine (CP.out).mono ?_; rintro e w1 ⟨rfl, hb1⟩; have HB1 := Lib.hid hb1; clear hb1))
  go_ret
  exact ⟨rfl, HB1.out⟩
set_option maxRecDepth 100000 in
theorem append_none (w : World) (v : Value) (p : List UInt8) (u : Value) (h : NoneV w v) : Calls Tryd.prog 25 #[v, str p, u] w fun e w' => e = .returned (.int .i64 2) ∧ Below w.heap.size w w' := by
  have CP := Lib.hid (put_none w v p u true h)
  clear h
  go_enter Tryd.func25, Tryd.ntmps25
  go_wp2_with (first
    | (go_at_call 42; refine (CP.out).mono ?_; rintro e w1 ⟨rfl, hb1⟩; have HB1 := Lib.hid hb1; clear hb1))
  go_ret
  exact ⟨rfl, HB1.out⟩
set_option maxRecDepth 100000 in
theorem rename_none (w : World) (v : Value) (p q : List UInt8) (h : NoneV w v) : Calls Tryd.prog 26 #[v, str p, str q] w fun e w' => e = .returned (.int .i64 2) ∧ Below w.heap.size w w' := by
  have CS := Lib.hid (fun (W : World) (g : Bool) (hW : Below w.heap.size w W) => start_none W v g (h.below hW))
  have CG := Lib.hid (good_any p w)
  clear h
  generalize goodP p = gp at CG
  cases gp with
  | false =>
    go_enter Tryd.func26, Tryd.ntmps26
    go_wp2_with (first
      | (go_at_call 9; (with_reducible refine (CG.out).mono ?_); rintro e w1 ⟨rfl, hb1⟩; have HB1 := Lib.hid hb1; clear hb1)
      | (go_at_call 37; refine (CS.out _ _ HB1.out).mono ?_; rintro e w2 ⟨rfl, hb2⟩; have HB2 := Lib.hid hb2; clear hb2))
    go_ret
    exact ⟨rfl, HB1.out.trans (HB2.out.mono HB1.out.size)⟩
  | true =>
    have CH := Lib.hid (fun W : World => good_any q W)
    generalize goodP q = gq at CH
    go_enter Tryd.func26, Tryd.ntmps26
    go_wp2_with (first
      | (go_at_call 37; refine (CS.out _ _ HB3.out).mono ?_; rintro e w2 ⟨rfl, hb2⟩; have HB2 := Lib.hid hb2; clear hb2)
      | (go_at_call 9; (with_reducible refine (CG.out).mono ?_); rintro e w1 ⟨rfl, hb1⟩; have HB1 := Lib.hid hb1; clear hb1)
      | (go_at_call 9; (with_reducible refine (CH.out _).mono ?_); rintro e w3 ⟨rfl, hb3⟩; have HB3 := Lib.hid (HB1.out.trans (hb3.mono HB1.out.size)); clear hb3))
    go_ret
    exact ⟨rfl, HB3.out.trans (HB2.out.mono HB3.out.size)⟩
set_option maxRecDepth 100000 in
theorem list_none (w : World) (v : Value) (p : List UInt8) (h : NoneV w v) : Calls Tryd.prog 16 #[v, str p] w fun e w' => e = .returned (.tuple #[.slice none 0 0, .int .i64 2]) ∧ Below w.heap.size w w' := by
  have CS := Lib.hid (fun (W : World) (g : Bool) (hW : Below w.heap.size w W) => start_none W v g (h.below hW))
  have HB0 := Lib.hid (none_alloc w (.cells #[str p] 9))
  clear h
  by_cases hp : p = [47]
  · have hq : (p == [47]) = true := by simpa using hp
    clear hp
    go_enter Tryd.func16, Tryd.ntmps16
    go_wp2_with (go_at_call 37; refine (CS.out _ _ HB0.out).mono ?_; rintro e w2 ⟨rfl, hb2⟩; have HB2 := Lib.hid hb2; clear hb2)
    go_ret2
    exact ⟨rfl, HB0.out.trans (HB2.out.mono HB0.out.size)⟩
  · have hq : (p == [47]) = false := by simpa using hp
    clear hp
    go_enter Tryd.func16, Tryd.ntmps16
    go_wp2_with (first
      | (go_at_call 9; refine (good_any _ _).mono ?_; rintro e w1 ⟨rfl, hb1⟩; have HB1 := Lib.hid (HB0.out.trans (hb1.mono HB0.out.size)); clear hb1)
      | (go_at_call 37; refine (CS.out _ _ HB1.out).mono ?_; rintro e w2 ⟨rfl, hb2⟩; have HB2 := Lib.hid hb2; clear hb2))
    go_ret2
    exact ⟨rfl, HB1.out.trans (HB2.out.mono HB1.out.size)⟩
set_option maxRecDepth 100000 in
theorem is_none (w : World) (v : Value) (p : List UInt8) (h : NoneV w v) : Calls Tryd.prog 15 #[v, str p] w fun e w' => e = .returned (.tuple #[.bool false, .bool false]) ∧ Below w.heap.size w w' := by
  have CU := Lib.hid (usable_none w v h)
  clear h
  go_enter Tryd.func15, Tryd.ntmps15
  go_wp2_with (first
    | (go_at_call 32; refine (CU.out).mono ?_; rintro e w1 ⟨rfl, rfl⟩))
  go_ret2
  exact ⟨rfl, Below.refl _ _⟩
set_option maxRecDepth 100000 in
theorem setFault_none (w : World) (v : Value) (k i j : Int) (h : NoneV w v) : Calls Tryd.prog 13 #[v, .int .i64 k, .int .i64 i, .int .i64 j] w fun e w' => e = .returned (.int .i64 2) ∧ Below w.heap.size w w' := by
  have CU := Lib.hid (usable_none w v h)
  clear h
  go_enter Tryd.func13, Tryd.ntmps13
  go_wp2_with (first
    | (go_at_call 32; refine (CU.out).mono ?_; rintro e w1 ⟨rfl, rfl⟩))
  go_ret
  exact ⟨rfl, Below.refl _ _⟩
set_option maxRecDepth 100000 in
theorem restart_none (w : World) (v : Value)  (h : NoneV w v) : Calls Tryd.prog 12 #[v] w fun e w' => e = .returned (.int .i64 2) ∧ Below w.heap.size w w' := by
  have CU := Lib.hid (usable_none w v h)
  clear h
  go_enter Tryd.func12, Tryd.ntmps12
  go_wp2_with (first
    | (go_at_call 32; refine (CU.out).mono ?_; rintro e w1 ⟨rfl, rfl⟩))
  go_ret
  exact ⟨rfl, Below.refl _ _⟩
set_option maxRecDepth 100000 in
theorem calls_none (w : World) (v : Value)  (h : NoneV w v) : Calls Tryd.prog 28 #[v] w fun e w' => e = .returned (.int .i64 0) ∧ Below w.heap.size w w' := by
  have CU := Lib.hid (usable_none w v h)
  clear h
  go_enter Tryd.func28, Tryd.ntmps28
  go_wp2_with (first
    | (go_at_call 32; refine (CU.out).mono ?_; rintro e w1 ⟨rfl, rfl⟩))
  go_ret
  exact ⟨rfl, Below.refl _ _⟩
set_option maxRecDepth 100000 in
theorem down_none (w : World) (v : Value)  (h : NoneV w v) : Calls Tryd.prog 29 #[v] w fun e w' => e = .returned (.bool false) ∧ Below w.heap.size w w' := by
  have CU := Lib.hid (usable_none w v h)
  clear h
  go_enter Tryd.func29, Tryd.ntmps29
  go_wp2_with (first
    | (go_at_call 32; refine (CU.out).mono ?_; rintro e w1 ⟨rfl, rfl⟩))
  go_ret
  exact ⟨rfl, Below.refl _ _⟩
set_option maxRecDepth 100000 in
theorem clone_none (w : World) (v : Value)  (h : NoneV w v) : Calls Tryd.prog 24 #[v] w fun e w' => e = .returned (.pointer none) ∧ Below w.heap.size w w' := by
  have CU := Lib.hid (usable_none w v h)
  clear h
  go_enter Tryd.func24, Tryd.ntmps24
  go_wp2_with (first
    | (go_at_call 32; refine (CU.out).mono ?_; rintro e w1 ⟨rfl, rfl⟩))
  go_ret
  exact ⟨rfl, Below.refl _ _⟩
set_option maxRecDepth 100000 in
theorem paths_none (w : World) (v : Value) (h : NoneV w v) : Calls Tryd.prog 14 #[v] w fun e w' => e = .returned (.func (.func 35) #[] #[.pointer (some ⟨w.heap.size, 0, none⟩)]) ∧ w' = w.alloc (.cells #[.slice none 0 0] 30) := by
  have CU := Lib.hid (usable_none _ v (h.alloc (.cells #[.slice none 0 0] 30)))
  clear h
  go_enter Tryd.func14, Tryd.ntmps14
  go_wp2_with (go_at_call 32; refine (CU.out).mono ?_; rintro e w1 ⟨rfl, rfl⟩)
  go_ret
  exact ⟨rfl, rfl⟩

end Go.Proofs.YthpkfgjjaieikaaDoor
