/-
  VtparseAsks' walk.
-/
import Derived.Test.YtmmlaaigcnkomaaDoorVpSameG
import Derived.Deep.RegionHeld3
namespace Go.Proofs.YtmmlaaigcnkomaaDoor
open Go.RowKit Go.Shelf Go.Lib
attribute [local go_sem] Oper.semAt_some

def AskI (m : Nat) (w : World) (i : Value) (wr : World) : Prop := ∃ k : Nat, k ≤ m ∧ i = .int .i64 k ∧ Below w.heap.size w wr
set_option maxRecDepth 1000000 in
set_option maxHeartbeats 2000000 in
theorem asks_walk (w : World) (hT : Tabs w) (al bl : List ActZ) (va vb : Value) (i o : Int) (ha : HoldsZ w va al) (hb : HoldsZ w vb bl) (hi : -9223372036854775808 ≤ i ∧ i ≤ 9223372036854775807)
    (SR : ∀ (W : World), HoldsZ W va al → HoldsZ W vb bl → Calls Tryd.prog 13 #[va, vb] W fun e w' => e = .returned (.bool (decide (al = bl))) ∧ Below W.heap.size W w') :
    Calls Tryd.prog 9 #[.agg #[va, vb, .int .i64 i, .int .i64 o]] w (LivePost w) := by
  have HT := Lib.hid hT
  have HA := Lib.hid ha
  have HBL := Lib.hid hb
  obtain ⟨A, c, e1, hl, _⟩ := ha
  obtain ⟨A', c', e2, hl', _⟩ := hb
  subst e1 e2
  have HL := Lib.hid hl
  have HI := Lib.hid hi
  have HSR := Lib.hid SR
  clear hT hl hl' hi SR
  go_enter Tryd.func9, Tryd.ntmps9
  go_wp2
  go_region
  have hbx := ((Below.refl w.heap.size w).alloc (Nat.le_refl _) (.cells #[.slice A al.length c, .slice A' bl.length c', .int .i64 i, .int .i64 o] 46)).drew
  have hP : ((w.alloc (.cells #[.slice A al.length c, .slice A' bl.length c', .int .i64 i, .int .i64 o] 46)).drew).heap[w.heap.size]? = some (.cells #[.slice A al.length c, .slice A' bl.length c', .int .i64 i, .int .i64 o] 46) := heap_alloc_new w _
  have HP := Lib.hid (Array.getElem?_eq_some_iff.1 hP).1
  have b2 := cell_of_row _ _ 2 _ _ _ hP
  have b3 := cell_of_row _ _ 3 _ _ _ hP
  have HBX := Lib.hid hbx
  clear hP hbx
  generalize (w.alloc (.cells #[.slice A al.length c, .slice A' bl.length c', .int .i64 i, .int .i64 o] 46)).drew = W1 at *
  obtain ⟨gb, hgb⟩ : ∃ g, g = w.heap.size := ⟨_, rfl⟩
  rw [← hgb] at b2 b3 HP ⊢
  clear hgb
  have B2 := Lib.hid b2
  have B3 := Lib.hid b3
  clear b2 b3
  go_wp2
  go_loopw [13] (fun i wr => AskI al.length W1 i wr) (fun i _ => al.length - (RowKit.intOf i).toNat)
  case atStart => exact ⟨0, Nat.zero_le _, rfl, Below.refl _ _⟩
  case round =>
    obtain ⟨k, hk, rfl, hb⟩ := hrel
    have b2 := (hb.cell (p := ⟨gb, 2, none⟩) HP.out).trans B2.out
    have b3 := (hb.cell (p := ⟨gb, 3, none⟩) HP.out).trans B3.out
    have hbw := HBX.out.trans (hb.mono HBX.out.size)
    by_cases hlt : k < al.length
    · obtain ⟨x, hx⟩ : ∃ x, al[k]? = some x := ⟨_, List.getElem?_eq_getElem hlt⟩
      obtain ⟨A5, c5, e5, _, hc5⟩ := HA.out.below hbw
      injection e5 with e1 e2 e3
      subst e1 e3
      clear e2
      obtain ⟨b5, o5, rfl, hltp, hc5⟩ := hc5 (by omega)
      obtain ⟨pv, hp, hpl, k0, k1, k2, k3, k4, k5, k6⟩ := hc5 k x hx
      have i1 : (0 : Int) ≤ (k : Int) := by omega
      have i2 : ((k : Int) < (al.length : Int)) = True := eq_true (by omega)
      have hwk : wrap64 ((k : Int) + 1) = (k : Int) + 1 := by have := HL.out; unfold wrap64; omega
      have hgl : gb < wr.heap.size := Nat.lt_of_lt_of_le HP.out hb.size
      have CP := Lib.hid fun W (hb1 : Below wr.heap.size wr W) => paramZ_any W x pv i o (hp.below hb1) HI.out
      have CR := Lib.hid fun W (hb1 : Below wr.heap.size wr W) => refParamZ_any W x pv i o (hp.below hb1) HI.out
      have HB := Lib.hid hb
      have HLT := Lib.hid hlt
      obtain ⟨Ap, cp, rfl, _⟩ := hp
      clear hc5 hb hbw hlt hk hx hpl
      go_wp2
      have hD : (wr.alloc (.cells #[.int .i64 x.kind, .int .i32 x.rune, .int .u8 x.fin.toNat, .int .u8 x.priv.toNat, .slice Ap (intVals x.ps).length cp, str x.inter, str x.text] 39)).heap[wr.heap.size]? = some (.cells #[.int .i64 x.kind, .int .i32 x.rune, .int .u8 x.fin.toNat, .int .u8 x.priv.toNat, .slice Ap (intVals x.ps).length cp, str x.inter, str x.text] 39) := heap_alloc_new wr _
      have HD := Lib.hid (Array.getElem?_eq_some_iff.1 hD).1
      have d0 : (wr.alloc (.cells #[.int .i64 x.kind, .int .i32 x.rune, .int .u8 x.fin.toNat, .int .u8 x.priv.toNat, .slice Ap (intVals x.ps).length cp, str x.inter, str x.text] 39)).cell? ⟨wr.heap.size, 0, none⟩ = some (.int .i64 x.kind) := cell_of_row _ _ 0 _ _ _ hD
      have d1 : (wr.alloc (.cells #[.int .i64 x.kind, .int .i32 x.rune, .int .u8 x.fin.toNat, .int .u8 x.priv.toNat, .slice Ap (intVals x.ps).length cp, str x.inter, str x.text] 39)).cell? ⟨wr.heap.size, 1, none⟩ = some (.int .i32 x.rune) := cell_of_row _ _ 1 _ _ _ hD
      have d2 : (wr.alloc (.cells #[.int .i64 x.kind, .int .i32 x.rune, .int .u8 x.fin.toNat, .int .u8 x.priv.toNat, .slice Ap (intVals x.ps).length cp, str x.inter, str x.text] 39)).cell? ⟨wr.heap.size, 2, none⟩ = some (.int .u8 x.fin.toNat) := cell_of_row _ _ 2 _ _ _ hD
      have d3 : (wr.alloc (.cells #[.int .i64 x.kind, .int .i32 x.rune, .int .u8 x.fin.toNat, .int .u8 x.priv.toNat, .slice Ap (intVals x.ps).length cp, str x.inter, str x.text] 39)).cell? ⟨wr.heap.size, 3, none⟩ = some (.int .u8 x.priv.toNat) := cell_of_row _ _ 3 _ _ _ hD
      have d4 : (wr.alloc (.cells #[.int .i64 x.kind, .int .i32 x.rune, .int .u8 x.fin.toNat, .int .u8 x.priv.toNat, .slice Ap (intVals x.ps).length cp, str x.inter, str x.text] 39)).cell? ⟨wr.heap.size, 4, none⟩ = some (.slice Ap (intVals x.ps).length cp) := cell_of_row _ _ 4 _ _ _ hD
      have d5 : (wr.alloc (.cells #[.int .i64 x.kind, .int .i32 x.rune, .int .u8 x.fin.toNat, .int .u8 x.priv.toNat, .slice Ap (intVals x.ps).length cp, str x.inter, str x.text] 39)).cell? ⟨wr.heap.size, 5, none⟩ = some (str x.inter) := cell_of_row _ _ 5 _ _ _ hD
      have d6 : (wr.alloc (.cells #[.int .i64 x.kind, .int .i32 x.rune, .int .u8 x.fin.toNat, .int .u8 x.priv.toNat, .slice Ap (intVals x.ps).length cp, str x.inter, str x.text] 39)).cell? ⟨wr.heap.size, 6, none⟩ = some (str x.text) := cell_of_row _ _ 6 _ _ _ hD
      have hb2 := (Below.refl wr.heap.size wr).alloc (Nat.le_refl _) (.cells #[.int .i64 x.kind, .int .i32 x.rune, .int .u8 x.fin.toNat, .int .u8 x.priv.toNat, .slice Ap (intVals x.ps).length cp, str x.inter, str x.text] 39)
      have c2 := (hb2.cell (p := ⟨gb, 2, none⟩) hgl).trans b2
      have c3 := (hb2.cell (p := ⟨gb, 3, none⟩) hgl).trans b3
      have HGL : Hid (gb < (wr.alloc (.cells #[.int .i64 x.kind, .int .i32 x.rune, .int .u8 x.fin.toNat, .int .u8 x.priv.toNat, .slice Ap (intVals x.ps).length cp, str x.inter, str x.text] 39)).heap.size) := Lib.hid (Nat.lt_of_lt_of_le hgl hb2.size)
      have HB2 := Lib.hid hb2
      clear hD hb2 b2 b3 hgl k0 k1 k2 k3 k4 k5 k6
      obtain ⟨gx, hgx⟩ : ∃ g, g = wr.heap.size := ⟨_, rfl⟩
      rw [← hgx] at d0 d1 d2 d3 d4 d5 d6 HD ⊢
      clear hgx
      generalize (wr.alloc (.cells #[.int .i64 x.kind, .int .i32 x.rune, .int .u8 x.fin.toNat, .int .u8 x.priv.toNat, .slice Ap (intVals x.ps).length cp, str x.inter, str x.text] 39)) = W2 at *
      generalize (intVals x.ps).length = nn at *
      replace c2 : W2.cell? ⟨gb, 2, none⟩ = some (.int .i64 i) := c2
      replace c3 : W2.cell? ⟨gb, 3, none⟩ = some (.int .i64 o) := c3
      replace d0 : W2.cell? ⟨gx, 0, none⟩ = some (.int .i64 x.kind) := d0
      replace d1 : W2.cell? ⟨gx, 1, none⟩ = some (.int .i32 x.rune) := d1
      replace d2 : W2.cell? ⟨gx, 2, none⟩ = some (.int .u8 x.fin.toNat) := d2
      replace d3 : W2.cell? ⟨gx, 3, none⟩ = some (.int .u8 x.priv.toNat) := d3
      replace d4 : W2.cell? ⟨gx, 4, none⟩ = some (.slice Ap nn cp) := d4
      replace d5 : W2.cell? ⟨gx, 5, none⟩ = some (str x.inter) := d5
      replace d6 : W2.cell? ⟨gx, 6, none⟩ = some (str x.text) := d6
      have e2 : W2.drew.cell? ⟨gb, 2, none⟩ = some (.int .i64 i) := c2
      have e3 : W2.drew.cell? ⟨gb, 3, none⟩ = some (.int .i64 o) := c3
      have f0 : W2.drew.cell? ⟨gx, 0, none⟩ = some (.int .i64 x.kind) := d0
      have f1 : W2.drew.cell? ⟨gx, 1, none⟩ = some (.int .i32 x.rune) := d1
      have f2 : W2.drew.cell? ⟨gx, 2, none⟩ = some (.int .u8 x.fin.toNat) := d2
      have f3 : W2.drew.cell? ⟨gx, 3, none⟩ = some (.int .u8 x.priv.toNat) := d3
      have f4 : W2.drew.cell? ⟨gx, 4, none⟩ = some (.slice Ap nn cp) := d4
      have f5 : W2.drew.cell? ⟨gx, 5, none⟩ = some (str x.inter) := d5
      have f6 : W2.drew.cell? ⟨gx, 6, none⟩ = some (str x.text) := d6
      go_region_held3 (fun w' => w'.cell? ⟨gb, 2, none⟩ = some (.int .i64 i) ∧ w'.cell? ⟨gb, 3, none⟩ = some (.int .i64 o) ∧ w'.cell? ⟨gx, 0, none⟩ = some (.int .i64 x.kind) ∧ w'.cell? ⟨gx, 1, none⟩ = some (.int .i32 x.rune) ∧ w'.cell? ⟨gx, 2, none⟩ = some (.int .u8 x.fin.toNat) ∧ w'.cell? ⟨gx, 3, none⟩ = some (.int .u8 x.priv.toNat) ∧ w'.cell? ⟨gx, 4, none⟩ = some (.slice Ap nn cp) ∧ w'.cell? ⟨gx, 5, none⟩ = some (str x.inter) ∧ w'.cell? ⟨gx, 6, none⟩ = some (str x.text)) (first | with_reducible exact ⟨e2, e3, f0, f1, f2, f3, f4, f5, f6⟩ | with_reducible exact ⟨x2, x3, y0, y1, y2, y3, y4, y5, y6⟩ | with_reducible exact ⟨z2, z3, t0, t1, t2, t3, t4, t5, t6⟩ | fail) (first
        | (go_at_call 26; refine (CP.out _ (HB2.out.trans ((Below.refl _ _).drew.mono HB2.out.size))).mono ?_; rintro e W3 ⟨rfl, hb3⟩; have HB3 := Lib.hid ((Below.refl W2.heap.size W2).drew.trans (hb3.mono (Nat.le_refl _))); have x2 := (HB3.out.cell (p := ⟨gb, 2, none⟩) HGL.out).trans c2; have x3 := (HB3.out.cell (p := ⟨gb, 3, none⟩) HGL.out).trans c3; have y0 := (HB3.out.cell (p := ⟨gx, 0, none⟩) HD.out).trans d0; have y1 := (HB3.out.cell (p := ⟨gx, 1, none⟩) HD.out).trans d1; have y2 := (HB3.out.cell (p := ⟨gx, 2, none⟩) HD.out).trans d2; have y3 := (HB3.out.cell (p := ⟨gx, 3, none⟩) HD.out).trans d3; have y4 := (HB3.out.cell (p := ⟨gx, 4, none⟩) HD.out).trans d4; have y5 := (HB3.out.cell (p := ⟨gx, 5, none⟩) HD.out).trans d5; have y6 := (HB3.out.cell (p := ⟨gx, 6, none⟩) HD.out).trans d6; clear hb3)
        | (go_at_call 27; refine (CR.out _ (HB2.out.trans (HB3.out.mono HB2.out.size))).mono ?_; rintro e W4 ⟨rfl, hb4⟩; have HB4 := Lib.hid (HB3.out.trans (hb4.mono HB3.out.size)); have z2 := (HB4.out.cell (p := ⟨gb, 2, none⟩) HGL.out).trans c2; have z3 := (HB4.out.cell (p := ⟨gb, 3, none⟩) HGL.out).trans c3; have t0 := (HB4.out.cell (p := ⟨gx, 0, none⟩) HD.out).trans d0; have t1 := (HB4.out.cell (p := ⟨gx, 1, none⟩) HD.out).trans d1; have t2 := (HB4.out.cell (p := ⟨gx, 2, none⟩) HD.out).trans d2; have t3 := (HB4.out.cell (p := ⟨gx, 3, none⟩) HD.out).trans d3; have t4 := (HB4.out.cell (p := ⟨gx, 4, none⟩) HD.out).trans d4; have t5 := (HB4.out.cell (p := ⟨gx, 5, none⟩) HD.out).trans d5; have t6 := (HB4.out.cell (p := ⟨gx, 6, none⟩) HD.out).trans d6; clear hb4))
      go_wp2
      go_roundw
      case rel => exact ⟨k + 1, HLT.out, next_val hwk, HB.out.trans ((HB2.out.trans (HB4.out.mono HB2.out.size)).mono HB.out.size)⟩
      case measure => exact measure_lt HLT.out hwk
    · obtain rfl : k = al.length := by omega
      have i2 : ((al.length : Int) < (al.length : Int)) = False := by simp
      have HB := Lib.hid hbw
      have CL := Lib.hid (live_any wr (HT.out.below hbw))
      have HA1 := Lib.hid (HA.out.below hbw)
      have HBL1 := Lib.hid (HBL.out.below hbw)
      clear hlt hk hb b2 b3 hbw
      go_wp2_with (first
        | (go_at_call 12; refine (CL.out).mono ?_; rintro e W2 ⟨rfl, hb2⟩; have HB2 := Lib.hid (HB.out.trans (hb2.mono HB.out.size)); have CS := Lib.hid (same_any al bl _ _ W2 (HA1.out.below hb2) (HBL1.out.below hb2)); clear hb2)
        | (go_at_call 28; refine (CS.out).mono ?_; rintro e W3 ⟨rfl, hb3⟩; have HB3 := Lib.hid (HB2.out.trans (hb3.mono HB2.out.size)); clear hb3 CS)
        | (go_at_call 13; refine (HSR.out _ (HA.out.below HB3.out) (HBL.out.below HB3.out)).mono ?_; rintro e W4 ⟨rfl, hb4⟩; have HB4 := Lib.hid (HB3.out.trans (hb4.mono HB3.out.size)); have CS2 := Lib.hid (same_any al al _ _ W4 (HA.out.below HB4.out) (HA.out.below HB4.out)); clear hb4)
        | (go_at_call 28; refine (CS2.out).mono ?_; rintro e W5 ⟨rfl, hb5⟩; have HB5 := Lib.hid (HB4.out.trans (hb5.mono HB4.out.size)); clear hb5))
      go_ret
      exact ⟨rfl, HB5.out⟩
end Go.Proofs.YtmmlaaigcnkomaaDoor
