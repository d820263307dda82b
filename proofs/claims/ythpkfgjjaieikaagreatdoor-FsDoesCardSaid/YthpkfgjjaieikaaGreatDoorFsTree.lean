/-
  What below, isAbove and obstructed of package simfs return, for every file system.
-/
import Derived.Test.YthpkfgjjaieikaaGreatDoorFsGood
import Derived.Test.YthpkfgjjaieikaaGreatDoorFsRep
namespace Go.Proofs.YthpkfgjjaieikaaGreatDoor
open Go.RowKit Go.Shelf Go.Lib Go.Maps

theorem ret_bool {a b : Bool} (h : a = b) : Ending.returned (.bool a) = .returned (.bool b) := by rw [h]
theorem ret_int {k : IntKind} {a b : Int} (h : a = b) : Ending.returned (.int k a) = .returned (.int k b) := by rw [h]
theorem str_inj {a b : List UInt8} (h : str a = str b) : a = b := by
  injection h with h
  injection h with h
  simpa using congrArg Array.toList h
theorem cut_any (l p : List UInt8) (w : World) :
    Calls Tryz.prog 161 #[str l, str p] w fun e w' => e = .returned (.tuple #[str (Lib.trimPrefix l p), .bool (hasPrefix l p)]) ∧ w = w' :=
  (Any.strings_CutPrefix Tryz.layCutPrefix ⟨l.toArray⟩ ⟨p.toArray⟩ w).mono fun _ _ ⟨h1, h2⟩ => ⟨h1, h2.symm⟩
theorem hasPrefix_any (l p : List UInt8) (w : World) :
    Calls Tryz.prog 197 #[str l, str p] w fun e w' => e = .returned (.bool (hasPrefix l p)) ∧ w = w' :=
  (Any.strings_HasPrefix Tryz.layHasPrefix ⟨l.toArray⟩ ⟨p.toArray⟩ w).mono fun _ _ ⟨h1, h2⟩ => ⟨h1, h2.symm⟩

theorem below_any (d p : List UInt8) (w : World) :
    Calls Tryz.prog 162 #[str d, str p] w fun e w' => e = .returned (.bool (belowP d p)) ∧ w = w' := by
  by_cases hp : hasPrefix p d = true
  · have ht : Lib.trimPrefix p d = p.drop d.length := by simp [Lib.trimPrefix, hp]
    have CC := Lib.hid (fun W => cut_any p d W)
    rw [hp, ht] at CC
    by_cases hd : d = [47]
    · have hB : belowP d p = true := by rw [belowP, hp, hd]; rfl
      have HB := Lib.hid hB
      have hd' : (d == [47]) = true := by simp [hd]
      clear hp ht hB hd
      go_enter Tryz.func162, Tryz.ntmps162
      go_wp2_with (go_at_call 161; refine (CC.out _).mono ?_; rintro e w' ⟨rfl, rfl⟩)
      go_ret
      exact ⟨ret_bool HB.out.symm, rfl⟩
    · have hB : belowP d p = hasPrefix (p.drop d.length) [47] := by simp [belowP, hp, hd]
      have HB := Lib.hid hB
      have hd' : (d == [47]) = false := by simp [hd]
      clear hp ht hB hd
      go_enter Tryz.func162, Tryz.ntmps162
      go_wp2_with (first
        | (go_at_call 161; refine (CC.out _).mono ?_; rintro e w' ⟨rfl, rfl⟩)
        | (go_at_call 197; refine (hasPrefix_any _ _ _).mono ?_; rintro e w' ⟨rfl, rfl⟩))
      go_ret
      exact ⟨ret_bool HB.out.symm, rfl⟩
  · have hp' : hasPrefix p d = false := by simpa using hp
    have ht : Lib.trimPrefix p d = p := by simp [Lib.trimPrefix, hp']
    have hB : belowP d p = false := by simp [belowP, hp']
    have CC := Lib.hid (fun W => cut_any p d W)
    rw [hp', ht] at CC
    have HB := Lib.hid hB
    clear hp hp' ht hB
    go_enter Tryz.func162, Tryz.ntmps162
    go_wp2_with (go_at_call 161; refine (CC.out _).mono ?_; rintro e w' ⟨rfl, rfl⟩)
    go_ret
    exact ⟨ret_bool HB.out.symm, rfl⟩

theorem FsAt.cell0 {w : World} {FP : Nat → Prop} {b bm : Nat} {es : List Ent} {s : St} (h : FsAt w FP b bm es s) : w.cell? ⟨b, 0, none⟩ = some (.map (some bm)) := cell_of_row w b 0 _ _ _ h.cells
theorem FsAt.cell1 {w : World} {FP : Nat → Prop} {b bm : Nat} {es : List Ent} {s : St} (h : FsAt w FP b bm es s) : w.cell? ⟨b, 1, none⟩ = some (.int .i64 s.left) := cell_of_row w b 1 _ _ _ h.cells
theorem FsAt.cell2 {w : World} {FP : Nat → Prop} {b bm : Nat} {es : List Ent} {s : St} (h : FsAt w FP b bm es s) : w.cell? ⟨b, 2, none⟩ = some (.int .i64 s.kind) := cell_of_row w b 2 _ _ _ h.cells
theorem FsAt.cell3 {w : World} {FP : Nat → Prop} {b bm : Nat} {es : List Ent} {s : St} (h : FsAt w FP b bm es s) : w.cell? ⟨b, 3, none⟩ = some (.int .i64 s.keep) := cell_of_row w b 3 _ _ _ h.cells
theorem FsAt.cell4 {w : World} {FP : Nat → Prop} {b bm : Nat} {es : List Ent} {s : St} (h : FsAt w FP b bm es s) : w.cell? ⟨b, 4, none⟩ = some (.int .i64 s.calls) := cell_of_row w b 4 _ _ _ h.cells
theorem FsAt.cell5 {w : World} {FP : Nat → Prop} {b bm : Nat} {es : List Ent} {s : St} (h : FsAt w FP b bm es s) : w.cell? ⟨b, 5, none⟩ = some (.bool s.down) := cell_of_row w b 5 _ _ _ h.cells
theorem FsAt.frozen {w : World} {FP : Nat → Prop} {b bm : Nat} {es : List Ent} {s : St} (h : FsAt w FP b bm es s) (i : Nat) : w.frozen? ⟨b, i, none⟩ = false := frozen_of_row w b i _ _ h.cells

/-- of the files that have come, none has the property -/
def RangeRel (es : List Ent) (pr : List UInt8 → Bool) (w : World) (bm r : Nat) (wr : World) : Prop :=
  ∃ left cnt, wr.ranges Tryz.prog 9 heldR bm r es.length (toD es) left cnt ∧ Below w.heap.size w wr ∧ (∀ x ∈ es, left (.string x.path) = false → pr x.path = false)

theorem heldInv : ∀ (v : Value) (y : DataW Value × List MemPlace), heldR v = some y → ∃ c : Value, v = id c := fun v _ _ => ⟨v, rfl⟩
theorem strInv : ∀ (key : Value) (kl : Lit), keyOf Tryz.prog 9 key = some kl → ∃ x : List UInt8, key = str x := fun key kl hk => by
  obtain ⟨x, hx, _⟩ := Maps.keyOf_str Tryz.underlying9 hk
  exact ⟨x, hx⟩

theorem findE_mem {es : List Ent} {p : List UInt8} {x : Ent} (h : findE es p = some x) : x ∈ es ∧ x.path = p := by
  have h1 := List.mem_of_find?_eq_some h
  have h2 := List.find?_some h
  exact ⟨h1, by simpa using h2⟩

theorem mem_of_at {es : List Ent} {p : List UInt8} {y : DataW Value} (h : ∀ zd, (toD es).atKey (.string p) zd = y) : ∃ x ∈ es, x.path = p := by
  have := has_true_of_atKey h
  rw [toD_has] at this
  obtain ⟨x, hx⟩ := Option.isSome_iff_exists.1 this
  exact ⟨x, findE_mem hx⟩
theorem range_step {es : List Ent} {left : Lit → Bool} {pr : List UInt8 → Bool} {q : List UInt8} (h : ∀ x ∈ es, left (.string x.path) = false → pr x.path = false) (hq : pr q = false) :
    ∀ x ∈ es, (left (.string x.path) && !(Lit.string x.path).sameKey (.string q)) = false → pr x.path = false := by
  intro x hx hl
  rw [Bool.and_eq_false_iff] at hl
  rcases hl with hl | hl
  · exact h x hx hl
  · have : x.path = q := by simpa [Lit.sameKey] using hl
    rw [this]; exact hq

set_option maxHeartbeats 1000000 in
theorem isAbove_any (w : World) (FP : Nat → Prop) (b bm : Nat) (es : List Ent) (s : St) (p : List UInt8) (h : FsAt w FP b bm es s) :
    Calls Tryz.prog 109 #[.pointer (some ⟨b, 0, none⟩), str p] w fun e w' => e = .returned (.bool (es.any fun x => belowP p x.path)) ∧ Below w.heap.size w w' := by
  have c0 := h.cell0
  have hmap := h.files.map
  have HM := Lib.hid hmap
  clear h hmap
  go_enter Tryz.func109, Tryz.ntmps109
  go_wp2_with (at_range; refine wpList_range_own _ rfl _ 68 rfl 9 30 law Tryz.underlying68 _ bm es.length (toD es) rfl HM.out ?_; intro w0 hrg0 hg0 hs0)
  go_frame
  have hrel0 : RangeRel es (fun q => belowP p q) w bm w.heap.size w0 := ⟨_, _, hrg0, (Below.refl _ _).grown hg0 (Nat.le_refl _) (fun k e => by cases e), fun x hx hl => by
    rw [toD_has] at hl
    exfalso
    have : (findE es x.path).isSome = true := by
      rw [findE, List.isSome_find?, List.any_eq_true]
      exact ⟨x, hx, by simp⟩
    rw [this] at hl
    cases hl⟩
  have HR := Lib.hid hrel0
  clear hrg0 hg0 hs0 hrel0
  go_loopw [5] (fun _ wr => RangeRel es (fun q => belowP p q) w bm w.heap.size wr) (fun _ wr => wr.rangeLeft bm w.heap.size)
  case atStart => exact HR.out
  case round =>
    obtain ⟨left, cnt, hrg, hB, hall⟩ := hrel
    have HA := Lib.hid hall
    have HB := Lib.hid hB
    have HG := Lib.hid hrg
    clear hall hB hrg
    go_wp2_with (at_next; refine wpList_next_ranges _ rfl _ rfl 9 law heldR str id strInv heldInv bm w.heap.size es.length _ _ _ rfl HG.out ?_ ?_)
    · intro hc0 hl0
      have HL := Lib.hid hl0
      clear hc0 hl0
      go_wp2
      go_ret
      refine ⟨?_, HB.out⟩
      have : (es.any fun x => belowP p x.path) = false := List.any_eq_false.2 fun x hx => by simp [HA.out x hx (HL.out _)]
      exact ret_bool this.symm
    · intro q c kl yd yp w2 cnt2 hkey hlk hv hat hrg2 hlt hg2 hs2 hen
      obtain ⟨q', eq, rfl, _⟩ := Maps.keyOf_str Tryz.underlying9 hkey
      obtain rfl : q = q' := str_inj eq
      obtain ⟨x, hx, hxp⟩ := mem_of_at hat
      subst hxp
      have hB2 : Below w.heap.size w w2 := HB.out.grown hg2 HB.out.size (fun k e => by cases e; exact Nat.le_refl _)
      have HB2 := Lib.hid hB2
      have HRG := Lib.hid hrg2
      have HX := Lib.hid hx
      have HLT := Lib.hid hlt
      clear hkey hlk hv hat hrg2 hlt hg2 hs2 eq hB2 hx
      cases hb : belowP p x.path with
      | true =>
        have CC := Lib.hid (below_any p x.path w2)
        rw [hb] at CC
        have HBX := Lib.hid hb
        clear hb
        go_wp2_with (go_at_call 162; refine (CC.out).mono ?_; rintro e w' ⟨rfl, rfl⟩)
        go_ret
        exact ⟨ret_bool (List.any_eq_true.2 ⟨x, HX.out, HBX.out⟩).symm, HB2.out⟩
      | false =>
        have CC := Lib.hid (below_any p x.path w2)
        rw [hb] at CC
        have HBX := Lib.hid hb
        clear hb
        go_wp2_with (go_at_call 162; refine (CC.out).mono ?_; rintro e w' ⟨rfl, rfl⟩)
        go_roundw
        case rel => exact ⟨_, _, HRG.out, HB2.out, range_step HA.out HBX.out⟩
        case measure => rw [HRG.out.left_eq, HG.out.left_eq]; exact HLT.out

/-- a file stands in the way of a file at p -/
def blocks (p ex q : List UInt8) : Bool := !(q == ex) && (belowP p q || belowP q p)

set_option maxHeartbeats 1000000 in
theorem obstructed_any (w : World) (FP : Nat → Prop) (b bm : Nat) (es : List Ent) (s : St) (p ex : List UInt8) (h : FsAt w FP b bm es s) :
    Calls Tryz.prog 102 #[.pointer (some ⟨b, 0, none⟩), str p, str ex] w fun e w' => e = .returned (.bool (es.any fun x => blocks p ex x.path)) ∧ Below w.heap.size w w' := by
  have c0 := h.cell0
  have hmap := h.files.map
  have HM := Lib.hid hmap
  clear h hmap
  go_enter Tryz.func102, Tryz.ntmps102
  go_wp2_with (at_range; refine wpList_range_own _ rfl _ 68 rfl 9 30 law Tryz.underlying68 _ bm es.length (toD es) rfl HM.out ?_; intro w0 hrg0 hg0 hs0)
  go_frame
  have hrel0 : RangeRel es (fun q => blocks p ex q) w bm w.heap.size w0 := ⟨_, _, hrg0, (Below.refl _ _).grown hg0 (Nat.le_refl _) (fun k e => by cases e), fun x hx hl => by
    rw [toD_has] at hl
    exfalso
    have : (findE es x.path).isSome = true := by
      rw [findE, List.isSome_find?, List.any_eq_true]
      exact ⟨x, hx, by simp⟩
    rw [this] at hl
    cases hl⟩
  have HR := Lib.hid hrel0
  clear hrg0 hg0 hs0 hrel0
  go_loopw [7] (fun _ wr => RangeRel es (fun q => blocks p ex q) w bm w.heap.size wr) (fun _ wr => wr.rangeLeft bm w.heap.size)
  case atStart => exact HR.out
  case round =>
    obtain ⟨left, cnt, hrg, hB, hall⟩ := hrel
    have HA := Lib.hid hall
    have HB := Lib.hid hB
    have HG := Lib.hid hrg
    clear hall hB hrg
    go_wp2_with (at_next; refine wpList_next_ranges _ rfl _ rfl 9 law heldR str id strInv heldInv bm w.heap.size es.length _ _ _ rfl HG.out ?_ ?_)
    · intro hc0 hl0
      have HL := Lib.hid hl0
      clear hc0 hl0
      go_wp2
      go_ret
      refine ⟨?_, HB.out⟩
      have : (es.any fun x => blocks p ex x.path) = false := List.any_eq_false.2 fun x hx => by simp [HA.out x hx (HL.out _)]
      exact ret_bool this.symm
    · intro q c kl yd yp w2 cnt2 hkey hlk hv hat hrg2 hlt hg2 hs2 hen
      obtain ⟨q', eq, rfl, _⟩ := Maps.keyOf_str Tryz.underlying9 hkey
      obtain rfl : q = q' := str_inj eq
      obtain ⟨x, hx, hxp⟩ := mem_of_at hat
      subst hxp
      have hB2 : Below w.heap.size w w2 := HB.out.grown hg2 HB.out.size (fun k e => by cases e; exact Nat.le_refl _)
      have HB2 := Lib.hid hB2
      have HRG := Lib.hid hrg2
      have HX := Lib.hid hx
      have HLT := Lib.hid hlt
      clear hkey hlk hv hat hrg2 hlt hg2 hs2 eq hB2 hx
      cases he : x.path == ex with
      | true =>
        have hpr : blocks p ex x.path = false := by simp [blocks, he]
        have HP := Lib.hid hpr
        clear hpr
        go_wp2_with fail
        go_roundw
        case rel => exact ⟨_, _, HRG.out, HB2.out, range_step HA.out HP.out⟩
        case measure => rw [HRG.out.left_eq, HG.out.left_eq]; exact HLT.out
      | false =>
        cases hb : belowP p x.path with
        | true =>
          have hpr : blocks p ex x.path = true := by simp [blocks, he, hb]
          have HP := Lib.hid hpr
          clear hpr
          go_wp2_with (go_at_call 162; refine (below_any _ _ _).mono ?_; rintro e w' ⟨rfl, rfl⟩)
          go_ret
          exact ⟨ret_bool (List.any_eq_true.2 ⟨x, HX.out, HP.out⟩).symm, HB2.out⟩
        | false =>
          cases hb2 : belowP x.path p with
          | true =>
            have hpr : blocks p ex x.path = true := by simp [blocks, he, hb, hb2]
            have HP := Lib.hid hpr
            clear hpr
            go_wp2_with (go_at_call 162; refine (below_any _ _ _).mono ?_; rintro e w' ⟨rfl, rfl⟩)
            go_ret
            exact ⟨ret_bool (List.any_eq_true.2 ⟨x, HX.out, HP.out⟩).symm, HB2.out⟩
          | false =>
            have hpr : blocks p ex x.path = false := by simp [blocks, he, hb, hb2]
            have HP := Lib.hid hpr
            clear hpr
            go_wp2_with (go_at_call 162; refine (below_any _ _ _).mono ?_; rintro e w' ⟨rfl, rfl⟩)
            go_roundw
            case rel => exact ⟨_, _, HRG.out, HB2.out, range_step HA.out HP.out⟩
            case measure => rw [HRG.out.left_eq, HG.out.left_eq]; exact HLT.out

end Go.Proofs.YthpkfgjjaieikaaGreatDoor
