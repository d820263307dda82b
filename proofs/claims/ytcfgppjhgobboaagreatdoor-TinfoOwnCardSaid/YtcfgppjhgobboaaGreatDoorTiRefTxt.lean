/-
  set of the document: many texts are set.
-/
import Derived.Test.YtcfgppjhgobboaaGreatDoorTiRefOn
import Derived.RegionTactic
import Derived.Deep.RegionWith
import Derived.IntWalk
namespace Go.Proofs.YtcfgppjhgobboaaGreatDoor
open Go.RowKit Go.Shelf Go.Lib
attribute [local go_sem] Oper.semAt_some

theorem placeN_any (nm : List UInt8) : ∃ (k : Int) (b : Bool), placeRes nm = .tuple #[.int .i64 k, .int .i64 (placeN nm : Nat), .bool b] ∧ placeN nm ≤ 164 := by
  cases hp : placeP nm with
  | some q => obtain ⟨k, h1, h2⟩ := placeN_of (nm := nm) (by rw [hp]; rfl); exact ⟨k, true, h1, h2⟩
  | none => exact ⟨0, false, by unfold placeRes placeN; rw [hp]; rfl, by unfold placeN; rw [hp]; exact Nat.zero_le _⟩
theorem indexByte_is {l : List UInt8} {c : UInt8} : (∃ i : Nat, indexByte l c = i ∧ i < l.length) ∨ indexByte l c = -1 := by
  by_cases h : 0 ≤ indexByte l c
  · obtain ⟨i, hi⟩ : ∃ i : Nat, indexByte l c = i := ⟨(indexByte l c).toNat, by omega⟩
    exact .inl ⟨i, hi, (List.getElem?_eq_some_iff.1 (indexByte_some hi).1).1⟩
  · have := indexByte_ge l c
    exact .inr (by omega)
/-- one text -/
def setOne (l : List CapD) (one : List UInt8) : List CapD := if indexByte one 61 < 0 then l else placedP l (placeN (one.take (indexByte one 61).toNat)) ⟨1, 0, one.drop ((indexByte one 61).toNat + 1)⟩
def setR : Nat → List CapD → List UInt8 → List CapD
  | 0, l, _ => l
  | f + 1, l, all => if all = [] then l else if indexByte all 32 < 0 then setR f (setOne l all) [] else setR f (setOne l (all.take (indexByte all 32).toNat)) (all.drop ((indexByte all 32).toNat + 1))
theorem setR_nil (f : Nat) (l : List CapD) : setR f l [] = l := by cases f <;> simp [setR]
theorem take_str' (l : List UInt8) (i : Nat) : (⟨l.toArray⟩ : ByteArray).extract 0 i = ⟨(l.take i).toArray⟩ := take_str l i
def lenS : Value → Nat
  | .string s => s.size
  | _ => 0
def SetR (T : Nat → Prop) (w : World) (nm : List UInt8) (wd : Bool) (p q s : Value) (FIN : List CapD) (v : Value) (W : World) : Prop :=
  ∃ (f : Nat) (all : List UInt8) (L : List CapD) (u : Value), v = str all ∧ all.length ≤ f ∧ all.length ≤ 100000 ∧ setR f L all = FIN ∧ Grow T w W nm wd p q u s u L
theorem index32_any (s : List UInt8) (w : World) : Calls Tryz.prog 78 #[str s, .int .u8 32] w fun e w' => e = .returned (.int .i64 (indexByte s 32)) ∧ w = w' :=
  (Any.strings_IndexByte Tryz.layIndexByte ⟨s.toArray⟩ 32 w).mono fun _ _ ⟨h1, h2⟩ => ⟨h1, h2.symm⟩
theorem index61_any (s : List UInt8) (w : World) : Calls Tryz.prog 78 #[str s, .int .u8 61] w fun e w' => e = .returned (.int .i64 (indexByte s 61)) ∧ w = w' :=
  (Any.strings_IndexByte Tryz.layIndexByte ⟨s.toArray⟩ 61 w).mono fun _ _ ⟨h1, h2⟩ => ⟨h1, h2.symm⟩

set_option maxRecDepth 100000 in
set_option maxHeartbeats 8000000 in
theorem refTxt_any (w : World) (T : Nat → Prop) (hTT : ∀ k, T k → k < w.heap.size) (t : TermD) (v : Nat → Value) (ve : Value) (h : RobT T w v ve t) (hT : Tabs w) (s : List UInt8) (hs : s.length ≤ 100000) :
    Calls Tryz.prog 60 #[termVal t v ve, str s] w (RobPost T w { t with strs := setR s.length t.strs s }) := by
  obtain ⟨A0, n0, A1, n1, A2, n2, A3, n3, hv, ⟨s0, s1, s2⟩, r0, r1, r2, r3⟩ := h.slices
  rw [hv]
  have HB0 := Lib.hid (TwoB.made hT t.names t.wide (.slice A0 t.bools.length n0) (.slice A1 t.nums.length n1) (.slice A2 t.strs.length n2) (.slice A3 t.exts.length n3))
  have hbc := build_text
  have HT := Lib.hid hT
  have HTT := Lib.hid hTT
  have R0 := Lib.hid r0
  have R1 := Lib.hid r1
  have R2 := Lib.hid r2
  have R3 := Lib.hid r3
  have S2 := Lib.hid s2
  clear h hv hT hTT r0 r1 r2 r3 s0 s1 s2
  obtain ⟨nm, wd, l0, l1, l2, l3⟩ := t
  simp only at *
  generalize hF : setR s.length l2 s = FIN at *
  have HI := Lib.hid (show SetR T w nm wd (.slice A0 l0.length n0) (.slice A1 l1.length n1) (.slice A3 l3.length n3) FIN (str s) ((w.alloc (termObj nm wd (.slice A0 l0.length n0) (.slice A1 l1.length n1) (.slice A2 l2.length n2) (.slice A3 l3.length n3))).alloc termZero) from
    ⟨s.length, s, l2, .slice A2 l2.length n2, rfl, Nat.le_refl _, hs, hF, HB0.out, R2.out.two (Touch.of_below HB0.out.below), S2.out, A2, n2, rfl⟩)
  clear hF
  go_enter Tryz.func60, Tryz.ntmps60
  go_wp2_with fail
  go_loopw [1] (fun v wr => SetR T w nm wd (.slice A0 l0.length n0) (.slice A1 l1.length n1) (.slice A3 l3.length n3) FIN v wr) (fun v _ => lenS v)
  case atStart => exact HI.out
  case round =>
    obtain ⟨f, all, L, u, rfl, hf, hal, hfin, hg⟩ := hrel
    obtain ⟨A, cp, rfl⟩ := hg.form
    have HG := Lib.hid hg
    by_cases hall : all = []
    · subst hall
      rw [setR_nil] at hfin
      subst hfin
      obtain ⟨c0, c1, c2, c3, c4, c5, _⟩ := HG.out.two.cells
      obtain ⟨d0, d1, d2, d3, d4, d5, f0, f1, f2, f3', f4, f5⟩ := termZero_facts HG.out.two.res
      clear hg hf hal
      go_wp2_with fail
      obtain ⟨e1, e2⟩ := HG.out.two.done ⟨nm, wd, l0, l1, L, l3⟩ (tri (.slice A0 l0.length n0) (.slice A1 l1.length n1) (.slice A L.length cp)) (.slice A3 l3.length n3) T
      have hres := fun j => cell_of_row (storeTerm wr (w.heap.size + 1) ⟨nm, wd, l0, l1, L, l3⟩ (tri (.slice A0 l0.length n0) (.slice A1 l1.length n1) (.slice A L.length cp)) (.slice A3 l3.length n3)) (w.heap.size + 1) j _ _ _ (storeTerm_box HG.out.two.res)
      change bodyPost _ _ _ _ _ (storeTerm wr (w.heap.size + 1) ⟨nm, wd, l0, l1, L, l3⟩ (tri (.slice A0 l0.length n0) (.slice A1 l1.length n1) (.slice A L.length cp)) (.slice A3 l3.length n3))
      generalize storeTerm wr (w.heap.size + 1) ⟨nm, wd, l0, l1, L, l3⟩ (tri (.slice A0 l0.length n0) (.slice A1 l1.length n1) (.slice A L.length cp)) (.slice A3 l3.length n3) = W' at *
      simp only [List.getElem?_toArray] at hres
      refine bodyPost_ret (v := termVal ⟨nm, wd, l0, l1, L, l3⟩ (tri (.slice A0 l0.length n0) (.slice A1 l1.length n1) (.slice A L.length cp)) (.slice A3 l3.length n3)) (by simp [results, Tryz.results60, go_sem, hres]) rfl ?_
      have hTw : Touch T w W' := Touch.of_below e2
      exact ⟨_, _, rfl, RobT.mk4 ((R0.out.two hTw).less) ((R1.out.two hTw).less) ((HG.out.rob.next e1).less) (fun W'' h2 => exts_two R3.out hTw W'' (h2.mono fun _ _ hk => .inl hk)), e2⟩
    · obtain ⟨f, rfl⟩ : ∃ f', f = f' + 1 := ⟨f - 1, by have := List.length_pos_iff.2 hall; omega⟩
      have hne : (!all.isEmpty) = true := by simpa using hall
      have CA := Lib.hid (index32_any all wr)
      rw [setR, if_neg hall] at hfin
      rcases indexByte_is (l := all) (c := 32) with ⟨i, hi, hil⟩ | hi
      · have CA' : Hid (Calls Tryz.prog 78 #[str all, .int .u8 32] wr fun e w' => e = .returned (.int .i64 i) ∧ wr = w') := Lib.hid (by rw [← hi]; exact CA.out)
        have i0 : (0 : Int) ≤ (i : Int) := by omega
        have i1 : i < all.length := hil
        have i2 : all.length ≤ 100000 := hal
        have i3 : all.length ≤ f + 1 := hf
        have HFIN : Hid (setR f (setOne L (all.take i)) (all.drop (i + 1)) = FIN) := Lib.hid (by rw [← hfin, hi, if_neg (by omega)]; simp)
        have HGX := Lib.hid (HG.out.next ((Below.refl _ _).drew))
        clear hg hf hfin hi hil CA
        go_wp2_with (go_at_call 78; (with_reducible refine (CA'.out).mono ?_); rintro e w' ⟨rfl, rfl⟩)
        go_region
        rw [take_str, drop_str]
        generalize wr.drew = w3 at *
        obtain ⟨one, hone⟩ : ∃ one, one = all.take i := ⟨_, rfl⟩
        obtain ⟨rest, hrest⟩ : ∃ rest, rest = all.drop (i + 1) := ⟨_, rfl⟩
        have HREST : Hid (rest.length ≤ f ∧ rest.length ≤ 100000 ∧ rest.length < all.length) := Lib.hid (by rw [hrest]; rw [List.length_drop]; omega)
        have HONE : Hid (one.length ≤ 100000) := Lib.hid (by rw [hone]; first | (rw [List.length_take]; omega) | exact i2)
        rw [← hone, ← hrest] at HFIN
        rw [← hone, ← hrest]
        clear hone hrest i2
        have CB := Lib.hid (index61_any one w3)
        rcases indexByte_is (l := one) (c := 61) with ⟨j, hj, hjl⟩ | hj
        · have CB' : Hid (Calls Tryz.prog 78 #[str one, .int .u8 61] w3 fun e w' => e = .returned (.int .i64 j) ∧ w3 = w') := Lib.hid (by rw [← hj]; exact CB.out)
          have hset : setOne L one = placedP L (placeN (one.take j)) ⟨1, 0, one.drop (j + 1)⟩ := by unfold setOne; rw [hj, if_neg (by omega)]; simp
          have HSET := Lib.hid hset
          obtain ⟨kd, bk, hres, hn⟩ := placeN_any (one.take j)
          have CP := Lib.hid (refPlace_any (one.take j) w3 HGX.out.two.tabs)
          unfold PlacePost at CP
          rw [hres] at CP
          have hsm : (placedP L (placeN (one.take j)) ⟨1, 0, one.drop (j + 1)⟩).length * 32 ≤ 140737488355328 := by
            rw [placedP_length]
            have := HGX.out.small
            omega
          have HN := Lib.hid (And.intro hn hsm)
          have j0 : (0 : Int) ≤ (j : Int) := by omega
          have j1 : j < one.length := hjl
          have j2 : one.length ≤ 100000 := HONE.out
          generalize placeN (one.take j) = n at *
          generalize hLn : placedP L n ⟨1, 0, one.drop (j + 1)⟩ = Ln at *
          have HLN := Lib.hid hLn
          clear hset hres hn hsm hjl hj CB hLn
          have htk := take_str one j
          go_wp2_with (first
            | (go_at_call 78; (with_reducible refine (CB'.out).mono ?_); rintro e w' ⟨rfl, rfl⟩)
            | (go_at_call 54; (with_reducible refine (CP.out).mono ?_); rintro e W1 ⟨rfl, hb1⟩; have HG1 := Lib.hid (HGX.out.next hb1); obtain ⟨c0, c1, c2, c3, c4, c5, _⟩ := HG1.out.two.cells; clear hb1))
          have CWH : Hid (∀ W2, Below W1.heap.size W1 W2 → Calls Tryz.prog 55 #[.slice A L.length cp, .int .i64 n, .agg #[.int .i64 1, .int .i64 0, str (one.drop (j + 1))]] W2 (WithPost W2 L n ⟨1, 0, one.drop (j + 1)⟩)) := Lib.hid (fun W2 hb => with_any W2 _ L n ⟨1, 0, one.drop (j + 1)⟩ (HG1.out.next hb).rob.val HN.out.1)
          have hdr := drop_str one (j + 1)
          have hbd := build_text (one.drop (j + 1))
          have q3 : ¬ ((one.length : Int) < (j : Int) + 1) := by omega
          have q4 : (j : Int) + 1 ≤ (one.length : Int) := by omega
          have q1 : (0 : Int) ≤ (j : Int) + 1 := by omega
          have q0 : IntKind.i64.wrap ((j : Int) + 1) = (j : Int) + 1 := IntWalk.i64_in _ (by omega)
          have q2 : ((j : Int) + 1).toNat = j + 1 := by omega
          have HG1D := Lib.hid (HG1.out.next ((Below.refl _ _).drew))
          go_region_with (go_at_call 55; (with_reducible refine (CWH.out _ ((Below.refl _ _).drew)).mono ?_); rintro e W2 ⟨u2, rfl, hr, hb2, ho⟩; rw [HLN.out] at hr; obtain ⟨A', cp', rfl⟩ := hr.form; have hG2 := HG1D.out.next hb2; have hfr := hG2.two.cells.2.2.2.2.2.2 4; have HG3 := Lib.hid (Grow.mk (T := T) (hG2.two.put (p' := .slice A0 l0.length n0) (q' := .slice A1 l1.length n1) (r' := .slice A' Ln.length cp') (s' := .slice A3 l3.length n3) HT.out 4 (.slice A' Ln.length cp') rfl) ((Rob.new HTT.out HG1D.out.two.size hr ho HN.out.2).next (Touch.setCell (T := Two T w) W2 ⟨w.heap.size, 4, none⟩ _ (.inr (.inl rfl)))) HN.out.2 ⟨A', cp', rfl⟩); clear c0 c1 c2 c3 c4 c5 hr hb2 ho; obtain ⟨c0, c1, c2, c3, c4, c5, _⟩ := hG2.two.cells; clear hG2)
          all_goals
            clear htk hdr hbd q0 q1 q2 q3 q4
            go_wp2_with fail
            go_roundw
            case rel => exact ⟨f, rest, Ln, _, rfl, HREST.out.1, HREST.out.2.1, by rw [← HFIN.out, HSET.out], HG3.out⟩
            case measure => have := HREST.out.2.2; simp [lenS, ByteArray.size]; omega
        · have CB' : Hid (Calls Tryz.prog 78 #[str one, .int .u8 61] w3 fun e w' => e = .returned (.int .i64 (-1)) ∧ w3 = w') := Lib.hid (by rw [← hj]; exact CB.out)
          have hset : setOne L one = L := by unfold setOne; rw [hj]; rfl
          have HSET := Lib.hid hset
          clear hset hj CB
          go_wp2_with (go_at_call 78; (with_reducible refine (CB'.out).mono ?_); rintro e w' ⟨rfl, rfl⟩)
          go_roundw
          case rel => exact ⟨f, rest, L, _, rfl, HREST.out.1, HREST.out.2.1, by rw [← HFIN.out, HSET.out], HGX.out⟩
          case measure => have := HREST.out.2.2; simp [lenS, ByteArray.size]; omega
      · have CA' : Hid (Calls Tryz.prog 78 #[str all, .int .u8 32] wr fun e w' => e = .returned (.int .i64 (-1)) ∧ wr = w') := Lib.hid (by rw [← hi]; exact CA.out)
        have i2 : all.length ≤ 100000 := hal
        have i3 : 0 < all.length := List.length_pos_iff.2 hall
        have HFIN : Hid (setR f (setOne L all) [] = FIN) := Lib.hid (by rw [← hfin, hi, if_pos (by omega)])
        have HGX := Lib.hid HG.out
        clear hg hf hfin hi CA
        go_wp2_with (go_at_call 78; (with_reducible refine (CA'.out).mono ?_); rintro e w' ⟨rfl, rfl⟩)
        have HREST : Hid (([] : List UInt8).length ≤ f ∧ ([] : List UInt8).length ≤ 100000 ∧ ([] : List UInt8).length < all.length) := Lib.hid (by simp; omega)
        have HONE : Hid (all.length ≤ 100000) := Lib.hid (i2)
        clear i2
        have CB := Lib.hid (index61_any all wr)
        rcases indexByte_is (l := all) (c := 61) with ⟨j, hj, hjl⟩ | hj
        · have CB' : Hid (Calls Tryz.prog 78 #[str all, .int .u8 61] wr fun e w' => e = .returned (.int .i64 j) ∧ wr = w') := Lib.hid (by rw [← hj]; exact CB.out)
          have hset : setOne L all = placedP L (placeN (all.take j)) ⟨1, 0, all.drop (j + 1)⟩ := by unfold setOne; rw [hj, if_neg (by omega)]; simp
          have HSET := Lib.hid hset
          obtain ⟨kd, bk, hres, hn⟩ := placeN_any (all.take j)
          have CP := Lib.hid (refPlace_any (all.take j) wr HGX.out.two.tabs)
          unfold PlacePost at CP
          rw [hres] at CP
          have hsm : (placedP L (placeN (all.take j)) ⟨1, 0, all.drop (j + 1)⟩).length * 32 ≤ 140737488355328 := by
            rw [placedP_length]
            have := HGX.out.small
            omega
          have HN := Lib.hid (And.intro hn hsm)
          have j0 : (0 : Int) ≤ (j : Int) := by omega
          have j1 : j < all.length := hjl
          have j2 : all.length ≤ 100000 := HONE.out
          generalize placeN (all.take j) = n at *
          generalize hLn : placedP L n ⟨1, 0, all.drop (j + 1)⟩ = Ln at *
          have HLN := Lib.hid hLn
          clear hset hres hn hsm hjl hj CB hLn
          have htk := take_str all j
          go_wp2_with (first
            | (go_at_call 78; (with_reducible refine (CB'.out).mono ?_); rintro e w' ⟨rfl, rfl⟩)
            | (go_at_call 54; (with_reducible refine (CP.out).mono ?_); rintro e W1 ⟨rfl, hb1⟩; have HG1 := Lib.hid (HGX.out.next hb1); obtain ⟨c0, c1, c2, c3, c4, c5, _⟩ := HG1.out.two.cells; clear hb1))
          have CWH : Hid (∀ W2, Below W1.heap.size W1 W2 → Calls Tryz.prog 55 #[.slice A L.length cp, .int .i64 n, .agg #[.int .i64 1, .int .i64 0, str (all.drop (j + 1))]] W2 (WithPost W2 L n ⟨1, 0, all.drop (j + 1)⟩)) := Lib.hid (fun W2 hb => with_any W2 _ L n ⟨1, 0, all.drop (j + 1)⟩ (HG1.out.next hb).rob.val HN.out.1)
          have hdr := drop_str all (j + 1)
          have hbd := build_text (all.drop (j + 1))
          have q3 : ¬ ((all.length : Int) < (j : Int) + 1) := by omega
          have q4 : (j : Int) + 1 ≤ (all.length : Int) := by omega
          have q1 : (0 : Int) ≤ (j : Int) + 1 := by omega
          have q0 : IntKind.i64.wrap ((j : Int) + 1) = (j : Int) + 1 := IntWalk.i64_in _ (by omega)
          have q2 : ((j : Int) + 1).toNat = j + 1 := by omega
          have HG1D := Lib.hid (HG1.out.next ((Below.refl _ _).drew))
          go_region_with (go_at_call 55; (with_reducible refine (CWH.out _ ((Below.refl _ _).drew)).mono ?_); rintro e W2 ⟨u2, rfl, hr, hb2, ho⟩; rw [HLN.out] at hr; obtain ⟨A', cp', rfl⟩ := hr.form; have hG2 := HG1D.out.next hb2; have hfr := hG2.two.cells.2.2.2.2.2.2 4; have HG3 := Lib.hid (Grow.mk (T := T) (hG2.two.put (p' := .slice A0 l0.length n0) (q' := .slice A1 l1.length n1) (r' := .slice A' Ln.length cp') (s' := .slice A3 l3.length n3) HT.out 4 (.slice A' Ln.length cp') rfl) ((Rob.new HTT.out HG1D.out.two.size hr ho HN.out.2).next (Touch.setCell (T := Two T w) W2 ⟨w.heap.size, 4, none⟩ _ (.inr (.inl rfl)))) HN.out.2 ⟨A', cp', rfl⟩); clear c0 c1 c2 c3 c4 c5 hr hb2 ho; obtain ⟨c0, c1, c2, c3, c4, c5, _⟩ := hG2.two.cells; clear hG2)
          all_goals
            clear htk hdr hbd q0 q1 q2 q3 q4
            go_wp2_with fail
            go_roundw
            case rel => exact ⟨f, ([] : List UInt8), Ln, _, rfl, HREST.out.1, HREST.out.2.1, by rw [← HFIN.out, HSET.out], HG3.out⟩
            case measure => have := HREST.out.2.2; simp [lenS, ByteArray.size]; omega
        · have CB' : Hid (Calls Tryz.prog 78 #[str all, .int .u8 61] wr fun e w' => e = .returned (.int .i64 (-1)) ∧ wr = w') := Lib.hid (by rw [← hj]; exact CB.out)
          have hset : setOne L all = L := by unfold setOne; rw [hj]; rfl
          have HSET := Lib.hid hset
          clear hset hj CB
          go_wp2_with (go_at_call 78; (with_reducible refine (CB'.out).mono ?_); rintro e w' ⟨rfl, rfl⟩)
          go_roundw
          case rel => exact ⟨f, ([] : List UInt8), L, _, rfl, HREST.out.1, HREST.out.2.1, by rw [← HFIN.out, HSET.out], HGX.out⟩
          case measure => have := HREST.out.2.2; simp [lenS, ByteArray.size]; omega
end Go.Proofs.YtcfgppjhgobboaaGreatDoor

