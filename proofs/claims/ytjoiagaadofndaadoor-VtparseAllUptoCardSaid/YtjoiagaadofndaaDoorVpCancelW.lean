/-
  The law on CAN and SUB holds.
-/
import Derived.Test.YtjoiagaadofndaaDoorVpSame
import Derived.Test.YtjoiagaadofndaaDoorVpCancelP
namespace Go.Proofs.YtjoiagaadofndaaDoor
open Go.RowKit Go.Shelf Go.Lib
attribute [local go_sem] Oper.semAt_some

/-- between two rounds -/
def CanI (w1 : World) (g : Nat) (i : Value) (wr : World) : Prop := ∃ k : Nat, k ≤ 2 ∧ i = .int .i64 k ∧ (∃ S, ParAt wr g S ∧ HOk S ∧ Rest S) ∧ Touch (Only g) w1 wr
/-- Put of a parser, bounded by what it holds -/
theorem put_new (w : World) (g : Nat) (S : PS) (x : UInt8) (hT : Tabs w) (h : ParAt w g S) (hg2 : 2 ≤ g) :
    Calls Tryd.prog 18 #[.pointer (some ⟨g, 0, none⟩), .slice (some ⟨w.heap.size, 0, none⟩) 1 1] (w.alloc (.cells #[.int .u8 x.toNat] 5)) fun e w' => ∃ v', e = .returned v' ∧ ActRow w' w.heap.size v' (putPS S [x]).2 ∧ ParAt w' g (putPS S [x]).1 ∧ Touch (Only g) w w' := by
  have hba := (Below.refl w.heap.size w).alloc (Nat.le_refl _) (.cells #[.int .u8 x.toNat] 5)
  refine (putP_any _ g S [x] (.slice (some ⟨w.heap.size, 0, none⟩) 1 1) (hT.below hba) (h.below hba) hg2 ⟨Holds1.built (w := w) (t := 5) (xs := byteVals [x]), fun _ b off n c e => ?_⟩ (by simp)).mono ?_
  · injection e with e1
    injection e1 with e1
    injection e1 with e1
    have := h.lt
    omega
  · rintro e w' ⟨v', rfl, hr, hp, ht⟩
    exact ⟨v', rfl, hr.less hba.size, hp, (Touch.of_below hba).trans ht⟩
theorem put_new24 (w : World) (g : Nat) (S : PS) (hT : Tabs w) (h : ParAt w g S) (hg2 : 2 ≤ g) :
    Calls Tryd.prog 18 #[.pointer (some ⟨g, 0, none⟩), .slice (some ⟨w.heap.size, 0, none⟩) 1 1] (w.alloc (.cells #[.int .u8 24] 5)) fun e w' => ∃ v', e = .returned v' ∧ ActRow w' w.heap.size v' (putPS S [24]).2 ∧ ParAt w' g (putPS S [24]).1 ∧ Touch (Only g) w w' :=
  put_new w g S 24 hT h hg2
theorem put_new26 (w : World) (g : Nat) (S : PS) (hT : Tabs w) (h : ParAt w g S) (hg2 : 2 ≤ g) :
    Calls Tryd.prog 18 #[.pointer (some ⟨g, 0, none⟩), .slice (some ⟨w.heap.size, 0, none⟩) 1 1] (w.alloc (.cells #[.int .u8 26] 5)) fun e w' => ∃ v', e = .returned v' ∧ ActRow w' w.heap.size v' (putPS S [26]).2 ∧ ParAt w' g (putPS S [26]).1 ∧ Touch (Only g) w w' :=
  put_new w g S 26 hT h hg2
theorem ActRow.short {W : World} {B : Nat} {v : Value} {al : List ActD} (h : ActRow W B v al) : al.length ≤ 9223372036854775807 := by
  obtain ⟨xs, _, h, _⟩ := h
  exact own_short h
theorem ActRow.last {W : World} {B : Nat} {v : Value} {l : List ActD} {a : ActD} (h : ActRow W B v (l ++ [a])) : ∃ g cap, v = .slice (some ⟨g, 0, none⟩) (l.length + 1) cap ∧ W.cell? ⟨g, l.length * 7, none⟩ = some (.int .i64 a.kind) ∧ W.cell? ⟨g, l.length * 7 + 2, none⟩ = some (.int .u8 a.fin.toNat) := by
  obtain ⟨g, cap, pv, hv, _, _, k0, _, k2, _⟩ := h.at (i := l.length) (a := a) (by simp)
  exact ⟨g, cap, by rw [hv]; simp, k0, k2⟩

set_option maxRecDepth 1000000 in
set_option maxHeartbeats 4000000 in
theorem cancels_walk (w : World) (bs cs : List UInt8) (bv cv : Value) (hT : Tabs w) (hbv : Holds1 w bv (byteVals bs)) (hcv : Holds1 w cv (byteVals cs)) (hbl : bs.length ≤ 200000000) (hcl : cs.length ≤ 200000000) :
    Calls Tryd.prog 7 #[bv, cv] w fun e w' => e = .returned (.bool true) ∧ Below w.heap.size w w' := by
  have CN := Lib.hid fun W => new_any W
  have CL := Lib.hid fun W (hW : Below w.heap.size w W) => live_any W (hT.below hW)
  have CPB : Hid (∀ W g S, ParAt W g S → w.heap.size ≤ g → Below w.heap.size w W → Calls Tryd.prog 18 #[.pointer (some ⟨g, 0, none⟩), bv] W (PutAPost W g S bs)) := Lib.hid fun W g S hp hg hb => putP_any W g S bs bv (hT.below hb) hp (Nat.le_trans hT.size hg) (HoldsOff.of hbv hb hg) hbl
  have CPC : Hid (∀ W g S, ParAt W g S → w.heap.size ≤ g → Below w.heap.size w W → Calls Tryd.prog 18 #[.pointer (some ⟨g, 0, none⟩), cv] W (PutAPost W g S cs)) := Lib.hid fun W g S hp hg hb => putP_any W g S cs cv (hT.below hb) hp (Nat.le_trans hT.size hg) (HoldsOff.of hcv hb hg) hcl
  have CX24 := Lib.hid fun W g S (hp : ParAt W g S) (hg : w.heap.size ≤ g) (hb : Below w.heap.size w W) => put_new24 W g S (hT.below hb) hp (Nat.le_trans hT.size hg)
  have CX26 := Lib.hid fun W g S (hp : ParAt W g S) (hg : w.heap.size ≤ g) (hb : Below w.heap.size w W) => put_new26 W g S (hT.below hb) hp (Nat.le_trans hT.size hg)
  have HCL := Lib.hid hcl
  clear hT hbv hcv hbl hcl
  unfold LivePost at CL
  unfold PutAPost at CPB CPC
  go_enter Tryd.func7, Tryd.ntmps7
  go_wp2_with (first
    | (go_at_call 16; refine (CN.out _).mono ?_; rintro e w1 ⟨g, rfl, hp1, hg1, hb1⟩; have HP1 := Lib.hid hp1; have HG := Lib.hid hg1; have HB1 := Lib.hid hb1; clear hp1 hg1 hb1)
    | (go_at_call 12; refine (CL.out _ HB1.out).mono ?_; rintro e w2 ⟨rfl, hb2⟩; have HP2 := Lib.hid (HP1.out.below hb2); have HB2 := Lib.hid (HB1.out.trans (hb2.mono HB1.out.size)); clear hb2))
  have hba := (Below.refl w2.heap.size w2).alloc (Nat.le_refl _) (.cells #[.int .u8 24, .int .u8 26] 5)
  have hX := heap_alloc_new w2 (.cells #[.int .u8 24, .int .u8 26] 5)
  have HP3 := Lib.hid (HP2.out.below hba)
  have HB3 := Lib.hid (HB2.out.trans (hba.mono HB2.out.size))
  have hgne : w2.heap.size ≠ g := by have := HP2.out.lt; omega
  have hxlt : w2.heap.size < (w2.alloc (.cells #[.int .u8 24, .int .u8 26] 5)).heap.size := by simp
  clear hba
  generalize w2.alloc (.cells #[.int .u8 24, .int .u8 26] 5) = W at *
  have x0 : W.cell? ⟨w2.heap.size, 0, none⟩ = some (.int .u8 24) := cell_of_row _ _ 0 _ _ _ hX
  have x1 : W.cell? ⟨w2.heap.size, 1, none⟩ = some (.int .u8 26) := cell_of_row _ _ 1 _ _ _ hX
  have HX0 := Lib.hid x0
  have HX1 := Lib.hid x1
  have HNE := Lib.hid (And.intro hgne hxlt)
  clear hX x0 x1 hgne hxlt
  generalize w2.heap.size = bx at *
  go_loopw [19] (fun i wr => CanI W g i wr) (fun i _ => 2 - (RowKit.intOf i).toNat)
  case atStart => exact ⟨0, by omega, rfl, ⟨ps0, HP3.out, hok0, rfl, rfl⟩, Touch.refl _ _⟩
  case round =>
    obtain ⟨k, hk, rfl, ⟨S, hp, hho, hre⟩, ht⟩ := hrel
    have hB := only_below HB3.out ht HG.out
    have hc : k = 0 ∨ k = 1 ∨ k = 2 := by omega
    clear hk
    have y0 := (ht.cell (p := ⟨bx, 0, none⟩) HNE.out.2 HNE.out.1).trans HX0.out
    have y1 := (ht.cell (p := ⟨bx, 1, none⟩) HNE.out.2 HNE.out.1).trans HX1.out
    have HP := Lib.hid hp
    have HHO := Lib.hid hho
    have HTT := Lib.hid ht
    have HB := Lib.hid hB
    clear hp hho ht hB
    rcases hc with rfl | rfl | rfl
    · go_wp2_with (first
        | (go_at_call 18; with_reducible refine (CPB.out _ _ _ HP.out HG.out HB.out).mono ?_; rintro e w3 ⟨v3, rfl, _, hp3, ht3⟩; have HPa := Lib.hid hp3; have HTa := Lib.hid (HTT.out.trans ht3); have HBa := Lib.hid (only_below HB.out ht3 HG.out); clear hp3 ht3)
        | (go_at_call 18; with_reducible refine (CX24.out _ _ _ HPa.out HG.out HBa.out).mono ?_; rintro e w4 ⟨v4, rfl, hr4, hp4, ht4⟩; obtain ⟨hre4, ho4, l, hl⟩ := cancel_put (hok_put bs HHO.out) (x := 24) (.inl rfl); rw [hl] at hr4; obtain ⟨g4, cap4, rfl, z0, z2⟩ := hr4.last; have HN4 := Lib.hid hr4.short; have HPb := Lib.hid hp4; have HTb := Lib.hid (HTa.out.trans ht4); have HRb := Lib.hid hre4; have HOb := Lib.hid ho4; have CG := Lib.hid (ground_of _ _ _ hp4); have HGd := Lib.hid (rest_ground hre4); rw [HGd.out] at CG; have hlq : l.length ≤ 9223372036854775806 := (by have := HN4.out; simp at this; omega); clear hr4 hp4 ht4 hre4 ho4 hl HN4; generalize l.length = q at *; have q1 : (((q + 1 : Nat) : Int) == 0) = false := beq_eq_false_iff_ne.2 (by omega); have q2 : wrap64 (((q + 1 : Nat) : Int) - 1) = (q : Int) := (by unfold wrap64; omega); have q3 : (0 : Int) ≤ (q : Int) := (by omega); have q4 : ((q : Int) < ((q + 1 : Nat) : Int)) = True := (by simp; omega); have q5 : wrap64 (q : Int) = (q : Int) := (by unfold wrap64; omega); clear hlq)
        | (go_at_call 20; refine (CG.out).mono ?_; rintro e w' ⟨rfl, rfl⟩))
      go_roundw
      case rel => exact ⟨1, by omega, rfl, ⟨_, HPb.out, HOb.out, HRb.out⟩, HTb.out⟩
      case measure => simp [RowKit.intOf]
    · go_wp2_with (first
        | (go_at_call 18; with_reducible refine (CPB.out _ _ _ HP.out HG.out HB.out).mono ?_; rintro e w3 ⟨v3, rfl, _, hp3, ht3⟩; have HPa := Lib.hid hp3; have HTa := Lib.hid (HTT.out.trans ht3); have HBa := Lib.hid (only_below HB.out ht3 HG.out); clear hp3 ht3)
        | (go_at_call 18; with_reducible refine (CX26.out _ _ _ HPa.out HG.out HBa.out).mono ?_; rintro e w4 ⟨v4, rfl, hr4, hp4, ht4⟩; obtain ⟨hre4, ho4, l, hl⟩ := cancel_put (hok_put bs HHO.out) (x := 26) (.inr rfl); rw [hl] at hr4; obtain ⟨g4, cap4, rfl, z0, z2⟩ := hr4.last; have HN4 := Lib.hid hr4.short; have HPb := Lib.hid hp4; have HTb := Lib.hid (HTa.out.trans ht4); have HRb := Lib.hid hre4; have HOb := Lib.hid ho4; have CG := Lib.hid (ground_of _ _ _ hp4); have HGd := Lib.hid (rest_ground hre4); rw [HGd.out] at CG; have hlq : l.length ≤ 9223372036854775806 := (by have := HN4.out; simp at this; omega); clear hr4 hp4 ht4 hre4 ho4 hl HN4; generalize l.length = q at *; have q1 : (((q + 1 : Nat) : Int) == 0) = false := beq_eq_false_iff_ne.2 (by omega); have q2 : wrap64 (((q + 1 : Nat) : Int) - 1) = (q : Int) := (by unfold wrap64; omega); have q3 : (0 : Int) ≤ (q : Int) := (by omega); have q4 : ((q : Int) < ((q + 1 : Nat) : Int)) = True := (by simp; omega); have q5 : wrap64 (q : Int) = (q : Int) := (by unfold wrap64; omega); clear hlq)
        | (go_at_call 20; refine (CG.out).mono ?_; rintro e w' ⟨rfl, rfl⟩))
      go_roundw
      case rel => exact ⟨2, by omega, rfl, ⟨_, HPb.out, HOb.out, HRb.out⟩, HTb.out⟩
      case measure => simp [RowKit.intOf]
    · have HSE := Lib.hid (sim_put cs (rest_sim hre))
      have HMY : Hid ((putPS S cs).2.length ≤ 1000000000) := Lib.hid (by have := put_many cs HHO.out.1 hre.2; have := HCL.out; omega)
      clear hre y0 y1
      go_wp2_with (first
        | (go_at_call 16; with_reducible refine (CN.out _).mono ?_; rintro e w5 ⟨gq, rfl, hp5, hg5, hb5⟩; have HGQ := Lib.hid (And.intro hg5 hp5.lt); have HPp := Lib.hid (HP.out.below hb5); have HPq := Lib.hid hp5; have HB5 := Lib.hid (HB.out.trans (hb5.mono HB.out.size)); have HGW := Lib.hid (Nat.le_trans HB.out.size hg5); have HGp := Lib.hid HP.out.lt; clear hp5 hg5 hb5)
        | (go_at_call 18; with_reducible refine (CPC.out _ _ _ HPp.out HG.out HB5.out).mono ?_; rintro e w6 ⟨v6, rfl, hr6, _, ht6⟩; have HR6 := Lib.hid hr6; have HB6 := Lib.hid (only_below HB5.out ht6 HG.out); have HPq6 := Lib.hid (HPq.out.same (ht6.block gq HGQ.out.2 (fun x => by simp only [Only] at x; have := HGp.out; have := HGQ.out.1; omega))); have HS6 := Lib.hid ht6.size; clear hr6 ht6 HPp)
        | (go_at_call 18; with_reducible refine (CPC.out _ _ _ HPq6.out HGW.out HB6.out).mono ?_; rintro e w7 ⟨v7, rfl, hr7, _, ht7⟩; have HR7 := Lib.hid hr7; have HR6b := Lib.hid (HR6.out.only ht7 HGQ.out.2); have HB7 := Lib.hid (only_below HB6.out ht7 HGW.out); rw [← HSE.out] at HR7; clear hr7 ht7 HPq6)
        | (go_at_call 13; with_reducible refine (refSame_eq _ _ _ _ _ _ HR6b.out HR7.out HMY.out).mono ?_; rintro e w8 ⟨rfl, hb8⟩; have HB8 := Lib.hid (HB7.out.trans (hb8.mono HB7.out.size)); clear hb8))
      go_ret
      exact ⟨rfl, HB8.out⟩
end Go.Proofs.YtjoiagaadofndaaDoor
