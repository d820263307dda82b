/-
  What New, Is, lookup and Read of package simfs return and change, for every file system.
-/
import Derived.Test.YthpkfgjjaieikaaGreatDoorFsCount
import Derived.Maps.OwnOps
namespace Go.Proofs.YthpkfgjjaieikaaGreatDoor
open Go.RowKit Go.Shelf Go.Lib Go.Maps

/-- whether a path is a file's, and whether it is a directory's -/
def isP (es : List Ent) (p : List UInt8) : Bool × Bool :=
  if p = [47] then (false, true) else if goodP p = false then (false, false) else ((findE es p).isSome, !(findE es p).isSome && es.any fun x => belowP p x.path)
/-- the error of a path that is to be a file's -/
def lookP (es : List Ent) (p : List UInt8) : Int := if (isP es p).1 then 0 else if (isP es p).2 then 24 else 4

theorem good_short' {p : List UInt8} (h : goodP p = true) : p.length ≤ maxLen := Nat.le_trans (goodP_len h) (by unfold maxLen; omega)

/-- 'm[k]' where the file is there -/
theorem wpList_lookup_held (w : World) {ops : Array Oper} {rest : List Oper} {o : Oper} {a : Act} {Q : Exit → Act → World → Prop} (hg : o.guard = none) (m x : Operand) (hop : o.op = Op.lookup 68 m x false)
    (bm : Nat) (es : List Ent) (p : List UInt8) (y : Ent) (hm : a.eval m = .map (some bm)) (hown : w.ownsMap Tryz.prog 9 heldR bm es.length (toD es)) (hx : a.eval x = str p) (hk : keyOf Tryz.prog 9 (str p) = some (.string p)) (hy : findE es p = some y)
    (hK : wpList Tryz.prog ops Q rest (a.put o.dst y.val) w) : wpList Tryz.prog ops Q (o :: rest) a w := by
  refine wpList_plain hg fun K' hK' => ?_
  obtain ⟨v, ps, hrun, hv⟩ := hown.lookup law Tryz.underlying68 (zeroE _) (zd := .held (.slice none 0 0)) (zp := []) rfl hk
  rw [toD_at, hy] at hv
  injection hv with hv
  injection hv with hv _
  injection hv with hv
  subst hv
  unfold Oper.wp
  simp [execOp, hop, hm, hx, hrun, Result.andThen]
  exact hK' _ _ hK
/-- 'm[k]' where there is none -/
theorem wpList_lookup_none (w : World) {ops : Array Oper} {rest : List Oper} {o : Oper} {a : Act} {Q : Exit → Act → World → Prop} (hg : o.guard = none) (m x : Operand) (hop : o.op = Op.lookup 68 m x false)
    (bm : Nat) (es : List Ent) (p : List UInt8) (hm : a.eval m = .map (some bm)) (hown : w.ownsMap Tryz.prog 9 heldR bm es.length (toD es)) (hx : a.eval x = str p) (hk : keyOf Tryz.prog 9 (str p) = some (.string p)) (hy : findE es p = none)
    (hK : wpList Tryz.prog ops Q rest (a.put o.dst (.slice none 0 0)) w) : wpList Tryz.prog ops Q (o :: rest) a w := by
  refine wpList_plain hg fun K' hK' => ?_
  obtain ⟨v, ps, hrun, hv⟩ := hown.lookup law Tryz.underlying68 (zeroE _) (zd := .held (.slice none 0 0)) (zp := []) rfl hk
  rw [toD_at, hy] at hv
  injection hv with hv
  injection hv with hv _
  injection hv with hv
  subst hv
  unfold Oper.wp
  simp [execOp, hop, hm, hx, hrun, Result.andThen]
  exact hK' _ _ hK

set_option maxRecDepth 100000 in
set_option maxHeartbeats 1000000 in
theorem is_any (w : World) (FP : Nat → Prop) (b bm : Nat) (es : List Ent) (s : St) (p : List UInt8) (h : FsAt w FP b bm es s) :
    Calls Tryz.prog 47 #[.pointer (some ⟨b, 0, none⟩), str p] w fun e w' => e = .returned (.tuple #[.bool (isP es p).1, .bool (isP es p).2]) ∧ Below w.heap.size w w' := by
  have CU := Lib.hid (usable_some w b bm h.cell0)
  have CG := Lib.hid (good_any p w)
  have c0 := h.cell0
  have hlt := h.lt
  have HF := Lib.hid h
  clear h
  by_cases h1 : p = [47]
  · have hp : isP es p = (false, true) := by rw [isP, if_pos h1]
    rw [hp]
    subst h1
    clear hp CG
    go_enter Tryz.func47, Tryz.ntmps47
    go_wp2_with (go_at_call 50; refine (CU.out).mono ?_; rintro e w' ⟨rfl, rfl⟩)
    go_ret2
    exact ⟨rfl, Below.refl _ _⟩
  · have hq : (p == [47]) = false := by simpa using h1
    cases hg : goodP p with
    | false =>
      have hp : isP es p = (false, false) := by rw [isP, if_neg h1, if_pos hg]
      rw [hp]
      rw [hg] at CG
      clear hp h1 hg
      go_enter Tryz.func47, Tryz.ntmps47
      go_wp2_with (first
        | (go_at_call 50; refine (CU.out).mono ?_; rintro e w' ⟨rfl, rfl⟩)
        | (go_at_call 91; refine (CG.out).mono ?_; rintro e w1 ⟨rfl, hb1⟩))
      go_ret2
      exact ⟨rfl, hb1⟩
    | true =>
      have hp : isP es p = ((findE es p).isSome, !(findE es p).isSome && es.any fun x => belowP p x.path) := by rw [isP, if_neg h1, if_neg (by simp [hg])]
      have HP := Lib.hid hp
      have HK := Lib.hid (keyStr p (good_short' hg))
      rw [hg] at CG
      clear hp h1 hg
      have CA := Lib.hid (fun (W : World) (hW : Below w.heap.size w W) => isAbove_any W FP b bm es s p (HF.out.below hW))
      cases hf : (findE es p).isSome with
      | true =>
        have HH := Lib.hid ((toD_has es p).trans hf)
        rw [hf] at HP
        clear hf
        go_enter Tryz.func47, Tryz.ntmps47
        go_wp2_with (first
          | (go_at_call 50; refine (CU.out).mono ?_; rintro e w' ⟨rfl, rfl⟩)
          | (go_at_call 91; refine (CG.out).mono ?_; rintro e w1 ⟨rfl, hb1⟩; have c1 := (hb1.cell (p := ⟨b, 0, none⟩) hlt).trans c0)
          | (at_lookup; refine wpList_lookup_own_ok _ rfl _ _ 68 rfl 9 30 law Tryz.underlying68 heldR (zeroE _) (.held (.slice none 0 0)) [] rfl bm es.length (toD es) rfl (HF.out.below hb1).files.map _ _ rfl HK.out ?_; rw [HH.out]; intro v ps hv; clear hv))
        go_ret2
        rw [HP.out]
        exact ⟨rfl, hb1⟩
      | false =>
        have HH := Lib.hid ((toD_has es p).trans hf)
        rw [hf] at HP
        clear hf
        go_enter Tryz.func47, Tryz.ntmps47
        go_wp2_with (first
          | (go_at_call 50; refine (CU.out).mono ?_; rintro e w' ⟨rfl, rfl⟩)
          | (go_at_call 91; refine (CG.out).mono ?_; rintro e w1 ⟨rfl, hb1⟩; have c1 := (hb1.cell (p := ⟨b, 0, none⟩) hlt).trans c0)
          | (go_at_call 109; refine (CA.out _ hb1).mono ?_; rintro e w2 ⟨rfl, hb2⟩)
          | (at_lookup; refine wpList_lookup_own_ok _ rfl _ _ 68 rfl 9 30 law Tryz.underlying68 heldR (zeroE _) (.held (.slice none 0 0)) [] rfl bm es.length (toD es) rfl (HF.out.below hb1).files.map _ _ rfl HK.out ?_; rw [HH.out]; intro v ps hv; clear hv))
        go_ret2
        rw [HP.out]
        exact ⟨rfl, hb1.trans (hb2.mono hb1.size)⟩

theorem lookup_any (w : World) (FP : Nat → Prop) (b bm : Nat) (es : List Ent) (s : St) (p : List UInt8) (h : FsAt w FP b bm es s) :
    Calls Tryz.prog 92 #[.pointer (some ⟨b, 0, none⟩), str p] w fun e w' => e = .returned (.int .i64 (lookP es p)) ∧ Below w.heap.size w w' := by
  have CI := Lib.hid (is_any w FP b bm es s p h)
  have hL : lookP es p = if (isP es p).1 then 0 else if (isP es p).2 then 24 else 4 := rfl
  have HL := Lib.hid hL
  clear h hL
  generalize isP es p = r at CI HL
  obtain ⟨f, d⟩ := r
  cases f with
  | true =>
    go_enter Tryz.func92, Tryz.ntmps92
    go_wp2_with (go_at_call 47; refine (CI.out).mono ?_; rintro e w1 ⟨rfl, hb1⟩)
    go_ret
    rw [HL.out]
    exact ⟨rfl, hb1⟩
  | false =>
    cases d with
    | true =>
      go_enter Tryz.func92, Tryz.ntmps92
      go_wp2_with (go_at_call 47; refine (CI.out).mono ?_; rintro e w1 ⟨rfl, hb1⟩)
      go_ret
      rw [HL.out]
      exact ⟨rfl, hb1⟩
    | false =>
      go_enter Tryz.func92, Tryz.ntmps92
      go_wp2_with (go_at_call 47; refine (CI.out).mono ?_; rintro e w1 ⟨rfl, hb1⟩)
      go_ret
      rw [HL.out]
      exact ⟨rfl, hb1⟩

theorem lookP_found {es : List Ent} {p : List UInt8} (h : lookP es p = 0) : goodP p = true ∧ ∃ x, findE es p = some x := by
  by_cases h1 : p = [47]
  · have hi : isP es p = (false, true) := by rw [isP, if_pos h1]
    rw [lookP, hi] at h
    simp at h
  · cases hg : goodP p with
    | false =>
      have hi : isP es p = (false, false) := by rw [isP, if_neg h1, if_pos hg]
      rw [lookP, hi] at h
      simp at h
    | true =>
      have hi : isP es p = ((findE es p).isSome, !(findE es p).isSome && es.any fun x => belowP p x.path) := by rw [isP, if_neg h1, hg]; rfl
      cases hf : findE es p with
      | some x => exact ⟨rfl, x, rfl⟩
      | none =>
        rw [lookP, hi, hf] at h
        simp only [Option.isSome_none, Bool.false_eq_true, if_false] at h
        split at h <;> simp at h

theorem clone_any (w : World) (v : Value) (c : List UInt8) (h : Row w v c) (hc : c.length ≤ 1048576) :
    Calls Tryz.prog 93 #[v] w fun e w' => ∃ v', e = .returned v' ∧ w'.ownsRow w.heap.size 5 1 v' c.length (byteVals c) ∧ Below w.heap.size w w' := by
  have hv : (c.map fun x => (x.toNat : Int)).map (Value.int .u8) = byteVals c := by simp [byteVals]
  rcases h.2 with ⟨rfl, h0⟩ | ⟨g, cap, cur, rfl, _⟩
  · refine (Any.bytes_Clone_nil Tryz.layClone 0 0 w).mono ?_
    rintro e w' ⟨rfl, rfl⟩
    obtain rfl : c = [] := List.eq_nil_of_length_eq_zero h0
    exact ⟨_, rfl, World.ownsRow_nil _ _ _ _, Below.refl _ _⟩
  · refine (Any.bytes_Clone_at Tryz.layClone ⟨g, 0, none⟩ c.length cap (c.map fun x => (x.toNat : Int)) w (by simp) (by omega) (fun i hi => ?_)).mono ?_
    · rw [h.cells rfl i (.int .u8 (c[i].toNat : Int)) (by simp [byteVals, hi])]
      simp [hi]
    · rintro e w' ⟨v', rfl, h1, _, h3⟩
      rw [hv] at h1
      exact ⟨v', rfl, h1, h3⟩

/-- what Read tells -/
def readP (es : List Ent) (s : St) (p : List UInt8) : List UInt8 × Int × St :=
  if (startP s (goodP p)).1 ≠ 0 then ([], (startP s (goodP p)).1, (startP s (goodP p)).2)
  else if lookP es p ≠ 0 then ([], lookP es p, (startP s (goodP p)).2)
  else (match findE es p with | some x => x.data | none => [], 0, (startP s (goodP p)).2)
def ReadPost (w : World) (FP : Nat → Prop) (b bm : Nat) (es : List Ent) (r : List UInt8 × Int × St) (e : Ending) (w' : World) : Prop :=
  ∃ v, e = .returned (.tuple #[v, .int .i64 r.2.1]) ∧ w'.ownsRow w.heap.size 5 1 v r.1.length (byteVals r.1) ∧ FsAt w' FP b bm es r.2.2 ∧ Touch (fun k => k = b) w w'

theorem own_base {w : World} {base base' : Nat} {e : TypeId} {size n : Nat} {v : Value} {xs : List Value} (h : w.ownsRow base' e size v n xs) (hb : base ≤ base') : w.ownsRow base e size v n xs := by
  refine ⟨h.1, ?_⟩
  rcases h.2 with h0 | ⟨g, cap, cur, hv, hg, hr⟩
  · exact .inl h0
  · exact .inr ⟨g, cap, cur, hv, Nat.le_trans hb hg, hr⟩

set_option maxRecDepth 100000 in
set_option maxHeartbeats 1000000 in
theorem read_any (w : World) (FP : Nat → Prop) (b bm : Nat) (es : List Ent) (s : St) (p : List UInt8) (h : FsAt w FP b bm es s) (ho : StOk s) (hc : s.calls ≤ 4000000000000000000) :
    Calls Tryz.prog 31 #[.pointer (some ⟨b, 0, none⟩), str p] w (ReadPost w FP b bm es (readP es s p)) := by
  have CG := Lib.hid (good_any p w)
  have CS := Lib.hid (fun (W : World) (hW : Below w.heap.size w W) => start_any W FP b bm es s (goodP p) (h.below hW) ho hc)
  clear h ho hc
  have hR : readP es s p = if (startP s (goodP p)).1 ≠ 0 then ([], (startP s (goodP p)).1, (startP s (goodP p)).2) else if lookP es p ≠ 0 then ([], lookP es p, (startP s (goodP p)).2) else (match findE es p with | some x => x.data | none => [], 0, (startP s (goodP p)).2) := rfl
  generalize startP s (goodP p) = r at CS hR
  obtain ⟨e1, s1⟩ := r
  have CK := Lib.hid (fun (W : World) (hW : FsAt W FP b bm es s1) => lookup_any W FP b bm es s1 p hW)
  by_cases h1 : e1 = 0
  · subst h1
    by_cases h2 : lookP es p = 0
    · obtain ⟨hg, x, hx⟩ := lookP_found h2
      rw [if_neg (fun h => h rfl), if_neg (fun h => h h2), hx] at hR
      rw [h2] at CK
      have HR := Lib.hid hR
      have HK := Lib.hid (keyStr p (good_short' hg))
      have HX := Lib.hid hx
      clear hR h2 hx hg
      go_enter Tryz.func31, Tryz.ntmps31
      go_wp2_with (first
        | (go_at_call 91; refine (CG.out).mono ?_; rintro e w1 ⟨rfl, hb1⟩)
        | (go_at_call 90; refine (CS.out _ hb1).mono ?_; rintro e w2 ⟨rfl, hF2, hT2⟩; have HF2 := Lib.hid hF2; have HT2 := Lib.hid hT2; clear hF2 hT2)
        | (go_at_call 92; refine (CK.out _ HF2.out).mono ?_; rintro e w3 ⟨rfl, hb3⟩; have hF3 := HF2.out.below hb3; have c3 := hF3.cell0; have HF3 := Lib.hid hF3; clear hF3)
        | (at_lookup; refine wpList_lookup_held _ rfl _ _ rfl bm es p x rfl HF3.out.files.map rfl HK.out HX.out ?_)
        | (go_at_call 93; refine (clone_any _ x.val x.data (HF3.out.files.rows x (findE_mem HX.out).1).1 (HF3.out.files.small x (findE_mem HX.out).1).2).mono ?_; rintro e w4 ⟨v4, rfl, ho4, hb4⟩; have HO4 := Lib.hid ho4; clear ho4))
      go_ret2
      rw [HR.out]
      have hsz : w.heap.size ≤ w3.heap.size := Nat.le_trans hb1.size (Nat.le_trans HT2.out.size hb3.size)
      exact ⟨_, rfl, own_base HO4.out hsz, HF3.out.below hb4, (((Touch.of_below hb1).trans HT2.out).trans (Touch.of_below hb3)).trans (Touch.of_below hb4)⟩
    · rw [if_neg (fun h => h rfl), if_pos h2] at hR
      have HR := Lib.hid hR
      generalize lookP es p = k at *
      have hk : (k != 0) = true := by simpa using h2
      clear hR h2
      go_enter Tryz.func31, Tryz.ntmps31
      go_wp2_with (first
        | (go_at_call 91; refine (CG.out).mono ?_; rintro e w1 ⟨rfl, hb1⟩)
        | (go_at_call 90; refine (CS.out _ hb1).mono ?_; rintro e w2 ⟨rfl, hF2, hT2⟩; have HF2 := Lib.hid hF2; have HT2 := Lib.hid hT2; clear hF2 hT2)
        | (go_at_call 92; refine (CK.out _ HF2.out).mono ?_; rintro e w3 ⟨rfl, hb3⟩))
      go_ret2
      rw [HR.out]
      exact ⟨_, rfl, World.ownsRow_nil _ _ _ _, HF2.out.below hb3, ((Touch.of_below hb1).trans HT2.out).trans (Touch.of_below hb3)⟩
  · rw [if_pos h1] at hR
    have HR := Lib.hid hR
    have hk : (e1 != 0) = true := by simpa using h1
    clear hR h1
    go_enter Tryz.func31, Tryz.ntmps31
    go_wp2_with (first
      | (go_at_call 91; refine (CG.out).mono ?_; rintro e w1 ⟨rfl, hb1⟩)
      | (go_at_call 90; refine (CS.out _ hb1).mono ?_; rintro e w2 ⟨rfl, hF2, hT2⟩; have HF2 := Lib.hid hF2; have HT2 := Lib.hid hT2; clear hF2 hT2))
    go_ret2
    rw [HR.out]
    exact ⟨_, rfl, World.ownsRow_nil _ _ _ _, HF2.out, (Touch.of_below hb1).trans HT2.out⟩

end Go.Proofs.YthpkfgjjaieikaaGreatDoor
