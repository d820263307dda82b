/-
  Proved here: the law UcellPieces returns true for every slice of slices of bytes and every slice of bools, where what it reads is of bulk at most 1048576, and leaves them as they were (a decoder tells, piece by piece, what the document says, and holds no more than it must).
  Conditions: those of the given card alone (that bound; the three tables lie as the program's text lays them).
-/
import Derived.Test.YtalfodcjpnjmaaaDoorStreamLaw
import Derived.Test.YtalfodcjpnjmaaaDoorRefPut
import Derived.Deep.Grids
import Derived.Deep.RegionWith
namespace Go.Proofs.YtalfodcjpnjmaaaDoor.lawPieces
open Go.ChangeShapes Go.WideShapes Go.ChangeAt Go.RowKit Go.Proofs.YtalfodcjpnjmaaaDoor.lawStream

/-- bools as values -/
def boolVals (l : List Bool) : List Value := l.map Value.bool

/-- an argument that is a slice of bools -/
theorem bools_of_slice {H : Type} {enc : TypeId × Value → H} {W : World} {a : Option Addr} {len cap : Nat} {d : DataW H} {p : List MemPlace}
    (h : DataW.Trod enc Tryd.prog W 0 (fun _ => true) true 42 (.slice a len cap) d p) :
    ∃ fs : List Bool, fs.length = len ∧ len ≤ 9223372036854775807 ∧ Holds1 W (.slice a len cap) (boolVals fs) := by
  obtain ⟨fuel, hf⟩ := h
  rcases Go.Deep.open_bools Tryd.underlying42 Tryd.underlying4 (by kernel_rfl) hf with ⟨hcs, hx⟩ | ⟨x, l, c, B, hcs, _, hl, hm, hx, hcell⟩
  · simp [Value.cells] at hcs
    obtain ⟨rfl, rfl, rfl⟩ := hcs
    exact ⟨[], rfl, by omega, ⟨none, 0, rfl, ⟨by simp [boolVals], fun _ => rfl⟩, fun h => by simp [boolVals] at h⟩⟩
  · simp [Value.cells] at hcs
    obtain ⟨rfl, rfl, rfl⟩ := hcs
    have hlen : (boolVals ((List.range len).map B)).length = len := by simp [boolVals]
    refine ⟨(List.range len).map B, by simp, by unfold maxLen at hm; omega, ⟨some x, cap, by rw [hlen], ⟨by rw [hlen]; exact hl, fun h => by cases h⟩, fun hp => ?_⟩⟩
    rw [hlen] at hp
    have hc0 := hcell 0 (by omega)
    obtain ⟨b, off, spot⟩ := x
    have hspot : spot = none := by simpa [Addr.add] using World.cell?_spot hc0
    subst hspot
    have hadd : ∀ k, (⟨b, off, none⟩ : Addr).add k = ⟨b, off + k, none⟩ := fun k => by
      unfold Addr.add
      split
      · next e => subst e; rfl
      · rfl
    refine ⟨b, off, rfl, block_lt_of_cell (by rw [hadd] at hc0; exact hc0), fun j u hu => ?_⟩
    have hj : j < len := by
      have := (List.getElem?_eq_some_iff.1 hu).1
      rwa [hlen] at this
    rw [← hadd, hcell j (by omega), ← hu]
    simp [boolVals, hj]

/-- a row of runes is left as it was -/
theorem own_two {w w' : World} {base q : Nat} {row : Option Nat} {v : Value} {n : Nat} {xs : List Value} (h : w.ownsRow base 21 1 v n xs) (ho : Only2 w w' q row) (hq : q < base)
    (hrow : ∀ k, row = some k → ∃ cur, w.heap[k]? = some (.cells cur 5 (0, 0))) : w'.ownsRow base 21 1 v n xs := by
  refine ⟨h.1, ?_⟩
  rcases h.2 with h0 | ⟨g, cap, cur, hv, hb, hg, hr⟩
  · exact .inl h0
  · refine .inr ⟨g, cap, cur, hv, hb, (ho.block g (heap_lt hg) (by omega) fun e => ?_).trans hg, hr⟩
    obtain ⟨cur', h'⟩ := hrow g e.symm
    rw [hg] at h'
    injection h' with h'
    injection h' with _ ht
    revert ht
    decide
theorem dec_two {w w' : World} {g q : Nat} {row : Option Nat} {h0 h1 h2 : UInt8} {n : Nat} (h : DecAt w g h0 h1 h2 n) (ho : Only2 w w' q row) (hq : g ≠ q) (hrow : some g ≠ row) : DecAt w' g h0 h1 h2 n :=
  (ho.block g h.lt hq hrow).trans h

theorem below_two {N : Nat} {a w w' : World} {q : Nat} {row : Option Nat} (h : Below N a w) (ho : Only2 w w' q row) (hN : N ≤ w.heap.size) (hq : N ≤ q) (hrow : ∀ k, row = some k → N ≤ k) : Below N a w' :=
  h.trans ⟨ho.os, ho.tape, ho.output, ho.size, fun k hk => ho.block k (by omega) (by omega) (fun e => by have := hrow k e.symm; omega)⟩
theorem below_drewN {w w' : World} (h : ∃ n, w' = w.drewN n) : Below w.heap.size w w' := by
  obtain ⟨n, rfl⟩ := h
  exact ⟨rfl, rfl, rfl, Nat.le_refl _, fun _ _ => rfl⟩

/-- behind a call of the decoder's -/
theorem after_one {w W w1 : World} {g base : Nat} {B v : Value} {held p : List UInt8} (hbel : Below w.heap.size w W) (hg : w.heap.size ≤ g) (hgb : g + 1 < base) (hbase : base ≤ W.heap.size) (href : RefAt W (g + 1) B) (hown : OwnsAt W base B held)
    (hhold : Holds1 w v (byteVals p)) (hg1 : W.grownBy w1 (some g)) : RefAt w1 (g + 1) B ∧ OwnsAt w1 base B held ∧ Holds1 w1 v (byteVals p) ∧ Below w.heap.size w w1 ∧ base ≤ w1.heap.size := by
  have hb1 : Below w.heap.size w w1 := hbel.grown hg1 hbel.size (fun j hj => by injection hj with hj; omega)
  refine ⟨(hg1.block (g + 1) href.lt (fun e => by injection e with e; omega)).trans href, hown.kept fun j hj => hg1.block j (hown.block j hj).2.1 (fun e => ?_), hhold.below hb1, hb1, Nat.le_trans hbase hg1.size⟩
  have := (hown.block j hj).1
  injection e with e
  omega
/-- behind a call of the document's decoder's -/
theorem after_two {w w1 w2 : World} {g base b1 : Nat} {B r : Value} {held : List UInt8} {y0 y1 y2 : UInt8} {n m : Nat} {xs : List Value} (hbel : Below w.heap.size w w1) (hg : w.heap.size ≤ g) (hgb : g + 1 < base) (hown : OwnsAt w1 base B held) (hb1 : base ≤ b1)
    (ho1 : w1.ownsRow b1 21 1 r n xs) (hd1 : DecAt w1 g y0 y1 y2 m) (hf2 : Only2 w1 w2 (g + 1) B.ownBlock) : w2.ownsRow b1 21 1 r n xs ∧ DecAt w2 g y0 y1 y2 m ∧ Below w.heap.size w w2 :=
  ⟨own_two ho1 hf2 (by omega) (fun k hk => (hown.block k hk).2.2), dec_two hd1 hf2 (by omega) (fun e => by have := (hown.block g e.symm).1; omega),
    below_two hbel hf2 hbel.size (by omega) (fun k hk => by have := (hown.block k hk).1; omega)⟩

/-- the loop -/
def PiecesRel (ps : List (List UInt8)) (w : World) (g q base : Nat) (i : Value) (wr : World) : Prop :=
  ∃ (k : Nat) (held : List UInt8) (x0 x1 x2 : UInt8) (B : Value), k ≤ ps.length ∧ i = .int .i64 k ∧ held = heldOf x0 x1 x2 held.length ∧ held.length ≤ 3 ∧ DecAt wr g x0 x1 x2 held.length ∧ RefAt wr q B ∧ OwnsAt wr base B held ∧ base ≤ wr.heap.size ∧ Below w.heap.size w wr

set_option maxRecDepth 100000 in
set_option maxHeartbeats 4000000 in
theorem walk (ps : List (List UInt8)) (fs : List Bool) (v u : Value) (w : World) (hT : Tabs w) (hv : HoldsRows w v ps) (hu : Holds1 w u (boolVals fs)) (hl : ps.flatten.length ≤ 1048576) (hp : ps.length ≤ 1048576) (hfl : fs.length ≤ 9223372036854775807) :
    Calls Tryd.prog 6 #[v, u] w fun e w' => e = .returned (.bool true) ∧ Below w.heap.size w w' := by
  obtain ⟨A, c, rfl, h⟩ := hv
  have hub : (boolVals fs).length = fs.length := by simp [boolVals]
  obtain ⟨U, cu, hue⟩ := hu.len
  rw [hub] at hue
  subst hue
  have H := Lib.hid h
  have HT := Lib.hid hT
  have HU := Lib.hid hu
  clear h hT hu hub
  go_enter Tryd.func6, Tryd.ntmps6
  go_wp2_with (go_at_call 30; refine (new_any _).mono ?_; rintro e w0 ⟨rfl, hw0⟩; have hb0 : Below w.heap.size w w0 := (by rw [hw0]; exact (Below.refl _ _).alloc (Nat.le_refl _) _); have hd0 : DecAt w0 w.heap.size 0 0 0 0 := (by rw [hw0]; exact heap_alloc_new w _); have hs0 : w0.heap.size = w.heap.size + 1 := (by rw [hw0]; simp); clear hw0; have HB0 := Lib.hid hb0; have HD0 := Lib.hid hd0; clear hb0 hd0)
  have hb1 : Below w.heap.size w (w0.alloc (.cells #[.slice none 0 0] 47)) := HB0.out.alloc (by omega) _
  have hd1 : DecAt (w0.alloc (.cells #[.slice none 0 0] 47)) w.heap.size 0 0 0 0 := HD0.out.kept ((Below.refl _ _).alloc (Nat.le_refl _) _)
  have hr1 : RefAt (w0.alloc (.cells #[.slice none 0 0] 47)) w0.heap.size (.slice none 0 0) := heap_alloc_new w0 _
  have hs1 : (w0.alloc (.cells #[.slice none 0 0] 47)).heap.size = w0.heap.size + 1 := by simp
  refine (live_any (w0.alloc (.cells #[.slice none 0 0] 47)) (HT.out.below hb1)).mono ?_
  rintro e wA ⟨rfl, hbA⟩
  generalize w0.alloc (.cells #[.slice none 0 0] 47) = w1 at *
  rw [hs0] at hr1
  have HBA := Lib.hid (hb1.trans (hbA.mono hb1.size))
  have HDA := Lib.hid (hd1.kept hbA)
  have HRA := Lib.hid (hr1.below hbA)
  have hgA := HDA.out.lt
  have hqA := HRA.out.lt
  clear hbA HB0 HD0 hb1 hd1 hr1 hs1
  go_wp2
  go_loopw [20] (fun i wr => PiecesRel ps w w.heap.size (w.heap.size + 1) wA.heap.size i wr) (fun i _ => ps.length - (intOf i).toNat)
  case atStart => exact ⟨0, [], 0, 0, 0, _, by omega, rfl, rfl, by simp, HDA.out, HRA.out, .inl ⟨rfl, rfl⟩, Nat.le_refl _, HBA.out⟩
  case round =>
    obtain ⟨k, held, x0, x1, x2, B, hk, rfl, hheld, hn3, hdec, href, hown, hbase, hbel⟩ := hrel
    have HHELD := Lib.hid hheld
    have HDEC := Lib.hid hdec
    have HREF := Lib.hid href
    have HOWN := Lib.hid hown
    have HB := Lib.hid hbel
    clear hheld hdec href hown hbel
    by_cases hlt : k < ps.length
    · obtain ⟨b, off, rfl, hblk, hrows⟩ := H.out (by omega)
      obtain ⟨Ak, ck, hcell, hhold⟩ := hrows k hlt
      have h1 : wr.cell? ⟨b, off + k, none⟩ = _ := (HB.out.cell (p := ⟨b, off + k, none⟩) hblk).trans hcell
      have HHOLD := Lib.hid hhold
      have hpl : ps[k].length ≤ 1048576 := by
        have h2 := flat_take ps (k + 1)
        rw [List.take_succ_eq_append_getElem hlt, List.flatten_append, List.length_append] at h2
        have h3 : ([ps[k]] : List (List UInt8)).flatten = ps[k] := by simp
        rw [h3] at h2
        omega
      clear hcell hrows hhold H
      generalize ps[k] = p at *
      have hpr := putAll_rest (held ++ p)
      have hpr1 := hpr.1
      have hpr2 := hpr.2
      rw [List.length_append] at hpr2
      have cPut : ∀ W, Below wr.heap.size wr W → Calls Tryd.prog 31 #[.pointer (some ⟨w.heap.size, 0, none⟩), .slice Ak p.length ck] W fun e w' =>
          ∃ (r : Value) (y0 y1 y2 : UInt8), e = .returned r ∧ w'.ownsRow W.heap.size 21 1 r (putAll (held ++ p)).1.length (runeVals (putAll (held ++ p)).1) ∧
            (putAll (held ++ p)).2 = heldOf y0 y1 y2 (putAll (held ++ p)).2.length ∧ DecAt w' w.heap.size y0 y1 y2 (putAll (held ++ p)).2.length ∧ W.grownBy w' (some w.heap.size) := fun W hW => by
        have := put_any p (.slice Ak p.length ck) w.heap.size x0 x1 x2 held.length W ((HT.out.below HB.out).below hW) (HDEC.out.kept hW) hn3 ((HHOLD.out.below HB.out).below hW) (by omega)
        rw [← HHELD.out] at this
        exact this
      have cRef : ∀ W, RefAt W (w.heap.size + 1) B → wA.heap.size ≤ W.heap.size → OwnsAt W wA.heap.size B held → Holds1 W (.slice Ak p.length ck) (byteVals p) → Calls Tryd.prog 32 #[.pointer (some ⟨w.heap.size + 1, 0, none⟩), .slice Ak p.length ck] W fun e w' =>
          ∃ r B', e = .returned r ∧ w'.ownsRow W.heap.size 21 1 r (putAll (held ++ p)).1.length (runeVals (putAll (held ++ p)).1) ∧ RefAt w' (w.heap.size + 1) B' ∧ OwnsAt w' wA.heap.size B' (putAll (held ++ p)).2 ∧ Only2 W w' (w.heap.size + 1) B.ownBlock := fun W h1 h2 h3 h4 =>
        refPut_any p held _ B (w.heap.size + 1) wA.heap.size W h1 (by omega) h2 h3 h4 (by omega)
      have CPut := Lib.hid cPut
      have CRef := Lib.hid cRef
      clear cPut cRef hpr
      generalize (putAll (held ++ p)).1 = out at *
      generalize (putAll (held ++ p)).2 = t at *
      go_wp2
      go_region_with (first
        | (go_at_call 31; refine (CPut.out _ ?_).mono ?_; exact (Below.refl _ _).drew; rintro e w1 ⟨r1, y0, y1, y2, rfl, ho1, hh1, hd1, hg1⟩; obtain ⟨f1, f2, f3, f4, f5⟩ := after_one HB.out.drew (Nat.le_refl _) hqA hbase HREF.out HOWN.out HHOLD.out hg1; have HO1 := Lib.hid ho1; have HH1 := Lib.hid hh1; have HD1 := Lib.hid hd1; have F1 := Lib.hid f1; have F2 := Lib.hid f2; have F3 := Lib.hid f3; have F4 := Lib.hid f4; clear ho1 hh1 hd1 hg1 f1 f2 f3 f4)
        | (go_at_call 32; refine (CRef.out _ F1.out f5 F2.out F3.out).mono ?_; rintro e w2 ⟨r2, B2, rfl, ho2, hr2, hb2, hf2⟩; obtain ⟨g1, g2, g3⟩ := after_two F4.out (Nat.le_refl _) hqA F2.out hbase HO1.out HD1.out hf2; obtain ⟨A2, c2, rfl⟩ := hb2.shape; have HO2 := Lib.hid ho2; have HR2 := Lib.hid hr2; have HB2 := Lib.hid hb2; have G1 := Lib.hid g1; have G2 := Lib.hid g2; have G3 := Lib.hid g3; have hs2 := Nat.le_trans f5 hf2.size; clear ho2 hr2 hb2 hf2 g1 g2 g3 HO1 HD1 F1 F2 F3 F4)
        | (go_at_call 10; refine (equal_runes out _ _ _ (Holds1.of_own G1.out) (Holds1.of_own HO2.out) (by omega)).mono ?_; rintro e w3 ⟨rfl, hw3⟩; have hb3 := below_drewN hw3; have hc3 := (HR2.out.below hb3).cell; have hs3 := Nat.le_trans hs2 hb3.size; have HR3 := Lib.hid (HR2.out.below hb3); have HB3 := Lib.hid (HB2.out.below hb3); have HD3 := Lib.hid (G2.out.kept hb3); have HE3 := Lib.hid (G3.out.trans (hb3.mono G3.out.size)); clear hw3 hb3 HR2 HB2 G1 G2 G3 HO2)
        | (go_at_call 33; refine (pending_any w.heap.size y0 y1 y2 _ _ HD3.out).mono ?_; rintro e w4 ⟨rfl, rfl⟩))
      all_goals
        clear CPut CRef HDEC HREF HOWN HB HHELD h1
        by_cases hfk : k < fs.length
        · obtain ⟨bu, ou, hU, hub, hucell⟩ : ∃ bu ou, U = some ⟨bu, ou, none⟩ ∧ bu < w.heap.size ∧ w3.cell? ⟨bu, ou + k, none⟩ = some (.bool fs[k]) := by
            obtain ⟨U', c', e, _, hc⟩ := HU.out
            injection e with e1 e2 e3
            subst e1
            obtain ⟨bu, ou, hU, hlt', hcell⟩ := hc (by simp [boolVals]; omega)
            exact ⟨bu, ou, hU, hlt', (HE3.out.cell (p := ⟨bu, ou + k, none⟩) hlt').trans (hcell k _ (by simp [boolVals, hfk]))⟩
          subst hU
          cases hb : fs[k] with
          | false =>
            rw [hb] at hucell
            clear hb
            go_wp2
            go_roundw
            case rel => exact ⟨k + 1, t, y0, y1, y2, _, by omega, by go_num, HH1.out, hpr1, HD3.out, HR3.out, HB3.out, hs3, HE3.out⟩
            case measure => simp [intOf]; omega
          | true =>
            rw [hb] at hucell
            clear hb
            have hdl := decAll_le t
            have cF := flush_any w.heap.size y0 y1 y2 t.length w3 (HT.out.below HE3.out) HD3.out hpr1
            rw [← HH1.out] at cF
            have CF := Lib.hid cF
            have cR : ∀ W, RefAt W (w.heap.size + 1) (.slice A2 t.length c2) → OwnsAt W wA.heap.size (.slice A2 t.length c2) t → _ := fun W h1 h2 => refFlush_any t (.slice A2 t.length c2) (w.heap.size + 1) wA.heap.size W h1 h2 (by omega)
            have CR := Lib.hid cR
            clear cF cR
            go_wp2_with (first
              | (go_at_call 34; refine (CF.out).mono ?_; rintro e w4 ⟨r4, z0, z1, z2, rfl, ho4, hd4, hg4⟩; obtain ⟨f1, f2, f3, f4, f6⟩ := after_one HE3.out (Nat.le_refl _) hqA hs3 HR3.out HB3.out HHOLD.out hg4; have HO4 := Lib.hid ho4; have HD4 := Lib.hid hd4; have F1 := Lib.hid f1; have F2 := Lib.hid f2; have F4 := Lib.hid f4; clear ho4 hd4 hg4 f1 f2 f3 f4)
              | (go_at_call 35; refine (CR.out _ F1.out F2.out).mono ?_; rintro e w5 ⟨r5, rfl, ho5, hr5, hf5⟩; obtain ⟨g1, g2, g3⟩ := after_two F4.out (Nat.le_refl _) hqA F2.out hs3 HO4.out HD4.out (hf5.more _); have HO5 := Lib.hid ho5; have HR5 := Lib.hid hr5; have G1 := Lib.hid g1; have G2 := Lib.hid g2; have G3 := Lib.hid g3; have hs5 := Nat.le_trans f6 hf5.size; clear ho5 hr5 hf5 g1 g2 g3 HO4 HD4 F1 F2 F4)
              | (go_at_call 10; refine (equal_runes (decAll t) _ _ _ (Holds1.of_own G1.out) (Holds1.of_own HO5.out) (by omega)).mono ?_; rintro e w6 ⟨rfl, hw6⟩; have hb6 := below_drewN hw6; have hs6 := Nat.le_trans hs5 hb6.size; have HR6 := Lib.hid (HR5.out.below hb6); have HD6 := Lib.hid (G2.out.kept hb6); have HE6 := Lib.hid (G3.out.trans (hb6.mono G3.out.size)); clear hw6 hb6 HR5 G1 G2 G3 HO5)
              | (go_at_call 33; refine (pending_any w.heap.size z0 z1 z2 0 _ HD6.out).mono ?_; rintro e w7 ⟨rfl, rfl⟩))
            go_roundw
            case rel => exact ⟨k + 1, [], z0, z1, z2, _, by omega, by go_num, rfl, by simp, HD6.out, HR6.out, .inl ⟨rfl, rfl⟩, hs6, HE6.out⟩
            case measure => simp [intOf]; omega
        · have hfk' : decide ((k : Int) < (fs.length : Int)) = false := by simp; omega
          go_wp2
          go_roundw
          case rel => exact ⟨k + 1, t, y0, y1, y2, _, by omega, by go_num, HH1.out, hpr1, HD3.out, HR3.out, HB3.out, hs3, HE3.out⟩
          case measure => simp [intOf]; omega
    · go_wp2
      go_ret
      exact ⟨rfl, HB.out⟩

theorem contract (H : Type) (enc : TypeId × Value → H) (W : World) (base : Nat) (args : Array Value) (ds gs : List (DataW H)) (before : List MemPlace)
    (hval : ∀ (j : Nat) t v, Tryd.f6.params[j]? = some t → args[j]? = some v → Value.okWide Tryd.prog W .any base t v)
    (hW : DataW.Whole enc Tryd.prog Tryd.f6.params.toList Rows.ucellPiecesSpec.vars false W args.toList ds gs before)
    (hcond : Rows.uptoSmall H (ds ++ gs) = true) (hL : laidMetH Tryd.prog Rows.ucellPiecesUptoRow.laid W) :
    Calls Tryd.prog 6 args W fun e W' => ∃ v, e = .returned v ∧ Rows.ucellPiecesSpec.post enc Tryd.prog Tryd.f6 false true false false W args v W' := by
  have hW' := hW
  obtain ⟨p, q, hA0, hV, rfl, hfz, hnd⟩ := hW
  have hA : DataW.TrodAll enc Tryd.prog W 0 (fun _ => true) true Tryd.f6.params.toList args.toList ds p := hA0
  rw [Tryd.params6] at hA hval
  obtain ⟨v0, vs0, d0, ds0, p0, q0, hargs, rfl, rfl, h0, r0⟩ := trodAll_cons hA
  obtain ⟨v1, vs1, d1, ds1, p1, q1, rfl, rfl, rfl, h1, r1⟩ := trodAll_cons r0
  obtain ⟨rfl, rfl, rfl⟩ := trodAll_nil r1
  obtain rfl : args = #[v0, v1] := by cases args; simp_all
  obtain ⟨rfl, rfl⟩ := trodVars_none hV
  have k0 := h0
  have lt0 : ∀ x ∈ p0, x.block < W.heap.size := by obtain ⟨m, hm⟩ := k0; exact DataW.trod_lt m _ _ _ hm
  obtain ⟨a0, len0, cap0, rfl⟩ := okWide_slice Tryd.underlying41 (hval 0 41 v0 rfl rfl)
  obtain ⟨z0, e0, hh0, hd0⟩ := rows_of_slice h0
  have k1 := h1
  have lt1 : ∀ x ∈ p1, x.block < W.heap.size := by obtain ⟨m, hm⟩ := k1; exact DataW.trod_lt m _ _ _ hm
  obtain ⟨a1, len1, cap1, rfl⟩ := okWide_slice Tryd.underlying42 (hval 1 42 v1 rfl rfl)
  obtain ⟨z1, e1, m1, hh1⟩ := bools_of_slice h1
  have hbulk := bulk_of hcond
  simp only [List.append_nil, Rows.uptoBulkAll] at hbulk
  have b0 : z0.flatten.length + z0.length ≤ 1048576 := Nat.le_trans hd0 (by omega)
  clear hA0
  refine (walk z0 z1 _ _ W (tabs_of hL) hh0 hh1 (by omega) (by omega) (by omega)).mono fun e W' ⟨he, bel⟩ => ?_
  subst he
  exact ⟨_, rfl, _, _, _, [], _, [], hW', trodAll_mk1 (shut_bool Tryd.underlying4 _), (trodAll_cons_mk (Below.trod laidOut (by kernel_rfl) (of_decide_eq_true (by kernel_rfl)) k0 bel lt0) (trodAll_cons_mk (Below.trod laidOut (by kernel_rfl) (of_decide_eq_true (by kernel_rfl)) k1 bel lt1) trodAll_mk0)), rfl, bel.frame _, fun h => by cases h⟩

theorem laid_met (os : Os) : laidMet Tryd.prog Rows.ucellPiecesUptoRow.laid ((laidWorld os).forCall (fun _ _ => 0) ⟨#[], #[.slice none 0 0, .slice none 0 0], []⟩).memory :=
  laidMet_of_run' 8 (by kernel_rfl) (by kernel_rfl)
theorem reads (os : Os) {H : Type} (enc : TypeId × Value → H) : ∃ places, DataW.whole enc Tryd.prog ((laidWorld os).forCall (fun _ _ => 0) ⟨#[], #[.slice none 0 0, .slice none 0 0], []⟩).memory Tryd.f6.params.toList Rows.ucellPiecesSpec.vars false #[Value.slice none 0 0, Value.slice none 0 0].toList 8 = some ([.nil, .nil], [], places) :=
  ⟨[], by kernel_rfl⟩

set_option maxRecDepth 100000 in
theorem lifted (os : Os) (started : os.Started) (H : Type) (enc : TypeId × Value → H) (F : Stop.Interp) :
    ReturnsInHanded {} Tryd.checked os 6 .any ((Rows.OpenSpec.upto Rows.ucellPiecesSpec).preRow enc Tryd.prog Tryd.f6 Rows.ucellPiecesUptoRow.domain false Rows.ucellPiecesUptoRow.laid) (((Rows.OpenSpec.upto Rows.ucellPiecesSpec).at F).post enc Tryd.prog Tryd.f6 false true false false) := by
  obtain ⟨places, hx⟩ := reads os enc
  refine returnsInHanded_of_row (C := Tryd.checked) (s := Rows.OpenSpec.upto Rows.ucellPiecesSpec) own started (by kernel_rfl) Tryd.func6
    (witness_row_at (enc := enc) (C := Tryd.checked) false (laidWorld os) #[.slice none 0 0, .slice none 0 0] rfl (by kernel_rfl) (by kernel_rfl) (by kernel_rfl)
      (OpenSpec.preRow_of_cond 8 hx (by kernel_rfl) (fun k hk => by cases hk; kernel_rfl) (by kernel_rfl) (laid_met os))) ?_
  intro W base args ds gs before hval hW _ hcond _ hL _ _
  exact contract H enc W base args ds gs before hval hW (hcond _ rfl) hL

theorem said : Rows.UcellPiecesUptoSaid :=
  OpenClaim.holds_of_cond 6 Tryd.f6 rfl rfl rfl rfl rfl rfl rfl ⟨rfl, rfl, rfl, rfl, rfl⟩ rfl rfl rfl rfl rfl (by kernel_rfl) Tryd.func6 (by kernel_rfl)
    (of_decide_eq_true (by kernel_rfl)) (by unfold Func.isWrapper; first | (rw [if_pos (by decide +kernel)]; kernel_rfl) | (rw [if_neg (by decide +kernel)]; exact ⟨rfl, rfl⟩))
    (fun os started H enc _ F => by rw [OpenClaim.pre_eq_preRow]; exact lifted os started H enc F)

theorem plain (f : FuncId) (fn : Func) (hf : Tryd.pinned.checked.prog.funcNamed "lanyard/lanyardlaw01.UcellPieces" = some f) (hfn : Tryd.pinned.checked.prog.funcs[f]? = some fn) :
    false = Tryd.pinned.checked.prog.looks [] ∧ ∀ (j : Nat) t, fn.params[j]? = some t → Tryd.pinned.checked.prog.wantsStandIn t = false := by
  obtain rfl : f = 6 := Option.some.inj ((show Tryd.prog.funcNamed "lanyard/lanyardlaw01.UcellPieces" = some 6 by kernel_rfl).symm.trans hf) |>.symm
  obtain rfl : fn = Tryd.f6 := (Option.some.inj (Tryd.func6.symm.trans hfn)).symm
  refine ⟨by kernel_rfl, fun j t ht => ?_⟩
  rw [Tryd.params6] at ht
  have ht' := Array.mem_of_getElem? ht
  simp at ht'
  rcases ht' with rfl | rfl
  · exact (show Tryd.prog.wantsStandIn 41 = false by kernel_rfl)
  · exact (show Tryd.prog.wantsStandIn 42 = false by kernel_rfl)

theorem card : Rows.UcellPiecesUptoCardSaid :=
  Claim7.holds_tied_plain_at .later [] _ _ _ _ said (fun _ h => by cases h) (by kernel_rfl) (fun _ h => by cases h) ucellPiecesUpto_row_tie rfl ⟨rfl, rfl⟩ (by kernel_rfl) rfl plain (by kernel_rfl)

end Go.Proofs.YtalfodcjpnjmaaaDoor.lawPieces
