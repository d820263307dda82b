/-
  Plain lemmas: a CAN or a SUB ends all that was begun; what follows it is read as if nothing had been. No program is spoken of here, and nothing is assumed.
  The law on CAN and SUB holds.
  Rows of actions and of bytes side by side; a slice of slices of bytes.
  In whatever pieces: the law holds.
-/
import Derived.Test.YtjoiagaadofndaaDoorVpBound
import Derived.Test.YtjoiagaadofndaaDoorVpSame
namespace Go.Proofs.YtjoiagaadofndaaDoor
section
/-- bytes of a rune are held between sequences alone -/
def HOk (S : PS) : Prop := SOk S ∧ (S.st ≠ 0 → S.held = [])
theorem hok_take {S : PS} (h : HOk S) (b : UInt8) : HOk (takeP S b).1 := by
  refine ⟨(take_ok h.1 b).1, ?_⟩
  unfold takeP
  split
  · next hh => intro hne; exact absurd hh.1 hne
  · split
    · intro _
      exact (step_ok (S := { S with held := [] }) ⟨h.1.ps16, h.1.ints, h.1.inter2, h.1.text⟩ b).2.1
    · next hs => intro _; exact (step_ok h.1 b).2.1.trans (h.2 hs)
theorem hok_put (l : List UInt8) : ∀ {S : PS}, HOk S → HOk (putPS S l).1 := by
  induction l with
  | nil => intro S h; exact h
  | cons b l ih => intro S h; exact ih (hok_take h b)
theorem hok0 : HOk ps0 := ⟨ps0_ok, fun _ => rfl⟩
/-- a parser at rest -/
def Rest (S : PS) : Prop := S.st = 0 ∧ S.held = []
/-- what CAN and SUB do -/
theorem cancel_take {S : PS} (h : HOk S) {x : UInt8} (hx : x = 24 ∨ x = 26) : Rest (takeP S x).1 ∧ HOk (takeP S x).1 ∧ ∃ l, (takeP S x).2 = l ++ [exeA x] := by
  have hlt : ¬ 128 ≤ x := by rcases hx with rfl | rfl <;> decide
  have hst : ∀ Q : PS, stepP Q x = ({ Q with st := 0 }, exeA x) := fun Q => by unfold stepP; rw [if_pos hx]
  have h1 : oneA (exeA x) = [exeA x] := by unfold oneA; rw [if_neg (by show ¬ (2 : Nat) = 0; omega)]
  refine ⟨?_, hok_take h x, ?_⟩
  · unfold takeP
    rw [if_neg (fun q => hlt q.2)]
    split
    · rw [hst]; exact ⟨rfl, rfl⟩
    · next hs => rw [hst]; exact ⟨rfl, h.2 hs⟩
  · unfold takeP
    rw [if_neg (fun q => hlt q.2)]
    split
    · rw [hst]; exact ⟨printsP (decAll S.held), by show _ ++ oneA (exeA x) = _; rw [h1]⟩
    · rw [hst]; exact ⟨[], by show oneA (exeA x) = _; rw [h1]; rfl⟩
theorem cancel_put {S : PS} (h : HOk S) {x : UInt8} (hx : x = 24 ∨ x = 26) : Rest (putPS S [x]).1 ∧ HOk (putPS S [x]).1 ∧ ∃ l, (putPS S [x]).2 = l ++ [exeA x] := by
  obtain ⟨h1, h2, l, hl⟩ := cancel_take h hx
  exact ⟨h1, h2, l, by show (takeP S x).2 ++ [] = _; rw [List.append_nil, hl]⟩
/-- two parsers that answer alike -/
def Sim (S S' : PS) : Prop := S = S' ∨ (S.st = 0 ∧ S'.st = 0 ∧ S.held = S'.held)
theorem sim_take {S S' : PS} (h : Sim S S') (b : UInt8) : Sim (takeP S b).1 (takeP S' b).1 ∧ (takeP S b).2 = (takeP S' b).2 := by
  rcases h with rfl | ⟨h1, h2, h3⟩
  · exact ⟨.inl rfl, rfl⟩
  · unfold takeP
    by_cases hb : 128 ≤ b
    · rw [if_pos ⟨h1, hb⟩, if_pos ⟨h2, hb⟩, h3]
      exact ⟨.inr ⟨h1, h2, rfl⟩, rfl⟩
    · rw [if_neg (fun q => hb q.2), if_pos h1, if_neg (fun q => hb q.2), if_pos h2, h3]
      unfold stepP
      by_cases hx : b = 24 ∨ b = 26
      · rw [if_pos hx, if_pos hx]
        exact ⟨.inr ⟨rfl, rfl, rfl⟩, rfl⟩
      · rw [if_neg hx, if_neg hx]
        by_cases h27 : b = 27
        · rw [if_pos h27, if_pos h27]
          refine ⟨.inl rfl, ?_⟩
          have e : endTextA { S with held := [] } = endTextA { S' with held := [] } := by
            unfold endTextA
            simp [h1, h2]
          rw [e]
        · rw [if_neg h27, if_neg h27]
          have e1 : inStateP { S with held := [] } b = ({ S with held := [] }, groundA b) := by simp only [inStateP, h1]
          have e2 : inStateP { S' with held := [] } b = ({ S' with held := [] }, groundA b) := by simp only [inStateP, h2]
          rw [e1, e2]
          exact ⟨.inr ⟨h1, h2, rfl⟩, rfl⟩
theorem sim_put (l : List UInt8) : ∀ {S S' : PS}, Sim S S' → (putPS S l).2 = (putPS S' l).2 := by
  induction l with
  | nil => intro S S' _; rfl
  | cons b l ih =>
    intro S S' h
    have ht := sim_take h b
    show (takeP S b).2 ++ _ = (takeP S' b).2 ++ _
    rw [ht.2, ih ht.1]
theorem rest_sim {S : PS} (h : Rest S) : Sim S ps0 := .inr ⟨h.1, rfl, h.2⟩
theorem rest_ground {S : PS} (h : Rest S) : groundP S = true := by simp [groundP, h.1, h.2]
theorem put_many (l : List UInt8) {S : PS} (h : SOk S) (hh : S.held = []) : (putPS S l).2.length ≤ l.length := by
  have h3 := (put_ok l h).2.2
  rw [hh] at h3
  simp at h3
  omega
end

section
open Go.RowKit Go.Shelf Go.Lib
attribute [local go_sem] Oper.semAt_some

/-- between two rounds -/
def CanI (w1 : World) (g : Nat) (i : Value) (wr : World) : Prop := ∃ k : Nat, k ≤ 2 ∧ i = .int .i64 k ∧ (∃ S, ParAt wr g S ∧ HOk S ∧ Rest S) ∧ Touch (Only g) w1 wr
/-- Put of a parser, bounded by what it holds -/
theorem put_new (w : World) (g : Nat) (S : PS) (x : UInt8) (hT : Tabs w) (h : ParAt w g S) (hg2 : 2 ≤ g) :
    Calls Tryd.prog 18 #[.pointer (some ⟨g, 0, none⟩), .slice (some ⟨w.heap.size, 0, none⟩) 1 1] (w.alloc (.cells #[.int .u8 x.toNat] 5)) fun e w' => ∃ v', e = .returned v' ∧ ActRow w' w.heap.size v' (putPS S [x]).2 ∧ ParAt w' g (putPS S [x]).1 ∧ Touch (Only g) w w' := by
  have hba := (Below.refl w.heap.size w).alloc (Nat.le_refl _) (.cells #[.int .u8 x.toNat] 5)
  refine (putP_any _ g S [x] (.slice (some ⟨w.heap.size, 0, none⟩) 1 1) (hT.below hba) (h.below hba) hg2 ⟨Holds1.built (w := w) (t := 5) (xs := byteVals [x]), fun _ b off n c e => ?_⟩ (by simp)).mono ?_
  · injection e with e1
    injection e1 with e1
    injection e1 with e1
    have := h.lt
    omega
  · rintro e w' ⟨v', rfl, hr, hp, ht⟩
    exact ⟨v', rfl, hr.less hba.size, hp, (Touch.of_below hba).trans ht⟩
theorem put_new24 (w : World) (g : Nat) (S : PS) (hT : Tabs w) (h : ParAt w g S) (hg2 : 2 ≤ g) :
    Calls Tryd.prog 18 #[.pointer (some ⟨g, 0, none⟩), .slice (some ⟨w.heap.size, 0, none⟩) 1 1] (w.alloc (.cells #[.int .u8 24] 5)) fun e w' => ∃ v', e = .returned v' ∧ ActRow w' w.heap.size v' (putPS S [24]).2 ∧ ParAt w' g (putPS S [24]).1 ∧ Touch (Only g) w w' :=
  put_new w g S 24 hT h hg2
theorem put_new26 (w : World) (g : Nat) (S : PS) (hT : Tabs w) (h : ParAt w g S) (hg2 : 2 ≤ g) :
    Calls Tryd.prog 18 #[.pointer (some ⟨g, 0, none⟩), .slice (some ⟨w.heap.size, 0, none⟩) 1 1] (w.alloc (.cells #[.int .u8 26] 5)) fun e w' => ∃ v', e = .returned v' ∧ ActRow w' w.heap.size v' (putPS S [26]).2 ∧ ParAt w' g (putPS S [26]).1 ∧ Touch (Only g) w w' :=
  put_new w g S 26 hT h hg2
theorem ActRow.short {W : World} {B : Nat} {v : Value} {al : List ActD} (h : ActRow W B v al) : al.length ≤ 9223372036854775807 := by
  obtain ⟨xs, _, h, _⟩ := h
  exact own_short h
theorem ActRow.last {W : World} {B : Nat} {v : Value} {l : List ActD} {a : ActD} (h : ActRow W B v (l ++ [a])) : ∃ g cap, v = .slice (some ⟨g, 0, none⟩) (l.length + 1) cap ∧ W.cell? ⟨g, l.length * 7, none⟩ = some (.int .i64 a.kind) ∧ W.cell? ⟨g, l.length * 7 + 2, none⟩ = some (.int .u8 a.fin.toNat) := by
  obtain ⟨g, cap, pv, hv, _, _, k0, _, k2, _⟩ := h.at (i := l.length) (a := a) (by simp)
  exact ⟨g, cap, by rw [hv]; simp, k0, k2⟩

set_option maxRecDepth 1000000 in
set_option maxHeartbeats 4000000 in
theorem cancels_walk (w : World) (bs cs : List UInt8) (bv cv : Value) (hT : Tabs w) (hbv : Holds1 w bv (byteVals bs)) (hcv : Holds1 w cv (byteVals cs)) (hbl : bs.length ≤ 200000000) (hcl : cs.length ≤ 200000000) :
    Calls Tryd.prog 7 #[bv, cv] w fun e w' => e = .returned (.bool true) ∧ Below w.heap.size w w' := by
  have CN := Lib.hid fun W => new_any W
  have CL := Lib.hid fun W (hW : Below w.heap.size w W) => live_any W (hT.below hW)
  have CPB : Hid (∀ W g S, ParAt W g S → w.heap.size ≤ g → Below w.heap.size w W → Calls Tryd.prog 18 #[.pointer (some ⟨g, 0, none⟩), bv] W (PutAPost W g S bs)) := Lib.hid fun W g S hp hg hb => putP_any W g S bs bv (hT.below hb) hp (Nat.le_trans hT.size hg) (HoldsOff.of hbv hb hg) hbl
  have CPC : Hid (∀ W g S, ParAt W g S → w.heap.size ≤ g → Below w.heap.size w W → Calls Tryd.prog 18 #[.pointer (some ⟨g, 0, none⟩), cv] W (PutAPost W g S cs)) := Lib.hid fun W g S hp hg hb => putP_any W g S cs cv (hT.below hb) hp (Nat.le_trans hT.size hg) (HoldsOff.of hcv hb hg) hcl
  have CX24 := Lib.hid fun W g S (hp : ParAt W g S) (hg : w.heap.size ≤ g) (hb : Below w.heap.size w W) => put_new24 W g S (hT.below hb) hp (Nat.le_trans hT.size hg)
  have CX26 := Lib.hid fun W g S (hp : ParAt W g S) (hg : w.heap.size ≤ g) (hb : Below w.heap.size w W) => put_new26 W g S (hT.below hb) hp (Nat.le_trans hT.size hg)
  have HCL := Lib.hid hcl
  clear hT hbv hcv hbl hcl
  unfold LivePost at CL
  unfold PutAPost at CPB CPC
  go_enter Tryd.func7, Tryd.ntmps7
  go_wp2_with (first
    | (go_at_call 16; refine (CN.out _).mono ?_; rintro e w1 ⟨g, rfl, hp1, hg1, hb1⟩; have HP1 := Lib.hid hp1; have HG := Lib.hid hg1; have HB1 := Lib.hid hb1; clear hp1 hg1 hb1)
    | (go_at_call 12; refine (CL.out _ HB1.out).mono ?_; rintro e w2 ⟨rfl, hb2⟩; have HP2 := Lib.hid (HP1.out.below hb2); have HB2 := Lib.hid (HB1.out.trans (hb2.mono HB1.out.size)); clear hb2))
  have hba := (Below.refl w2.heap.size w2).alloc (Nat.le_refl _) (.cells #[.int .u8 24, .int .u8 26] 5)
  have hX := heap_alloc_new w2 (.cells #[.int .u8 24, .int .u8 26] 5)
  have HP3 := Lib.hid (HP2.out.below hba)
  have HB3 := Lib.hid (HB2.out.trans (hba.mono HB2.out.size))
  have hgne : w2.heap.size ≠ g := by have := HP2.out.lt; omega
  have hxlt : w2.heap.size < (w2.alloc (.cells #[.int .u8 24, .int .u8 26] 5)).heap.size := by simp
  clear hba
  generalize w2.alloc (.cells #[.int .u8 24, .int .u8 26] 5) = W at *
  have x0 : W.cell? ⟨w2.heap.size, 0, none⟩ = some (.int .u8 24) := cell_of_row _ _ 0 _ _ _ hX
  have x1 : W.cell? ⟨w2.heap.size, 1, none⟩ = some (.int .u8 26) := cell_of_row _ _ 1 _ _ _ hX
  have HX0 := Lib.hid x0
  have HX1 := Lib.hid x1
  have HNE := Lib.hid (And.intro hgne hxlt)
  clear hX x0 x1 hgne hxlt
  generalize w2.heap.size = bx at *
  go_loopw [19] (fun i wr => CanI W g i wr) (fun i _ => 2 - (RowKit.intOf i).toNat)
  case atStart => exact ⟨0, by omega, rfl, ⟨ps0, HP3.out, hok0, rfl, rfl⟩, Touch.refl _ _⟩
  case round =>
    obtain ⟨k, hk, rfl, ⟨S, hp, hho, hre⟩, ht⟩ := hrel
    have hB := only_below HB3.out ht HG.out
    have hc : k = 0 ∨ k = 1 ∨ k = 2 := by omega
    clear hk
    have y0 := (ht.cell (p := ⟨bx, 0, none⟩) HNE.out.2 HNE.out.1).trans HX0.out
    have y1 := (ht.cell (p := ⟨bx, 1, none⟩) HNE.out.2 HNE.out.1).trans HX1.out
    have HP := Lib.hid hp
    have HHO := Lib.hid hho
    have HTT := Lib.hid ht
    have HB := Lib.hid hB
    clear hp hho ht hB
    rcases hc with rfl | rfl | rfl
    · go_wp2_with (first
        | (go_at_call 18; with_reducible refine (CPB.out _ _ _ HP.out HG.out HB.out).mono ?_; rintro e w3 ⟨v3, rfl, _, hp3, ht3⟩; have HPa := Lib.hid hp3; have HTa := Lib.hid (HTT.out.trans ht3); have HBa := Lib.hid (only_below HB.out ht3 HG.out); clear hp3 ht3)
        | (go_at_call 18; with_reducible refine (CX24.out _ _ _ HPa.out HG.out HBa.out).mono ?_; rintro e w4 ⟨v4, rfl, hr4, hp4, ht4⟩; obtain ⟨hre4, ho4, l, hl⟩ := cancel_put (hok_put bs HHO.out) (x := 24) (.inl rfl); rw [hl] at hr4; obtain ⟨g4, cap4, rfl, z0, z2⟩ := hr4.last; have HN4 := Lib.hid hr4.short; have HPb := Lib.hid hp4; have HTb := Lib.hid (HTa.out.trans ht4); have HRb := Lib.hid hre4; have HOb := Lib.hid ho4; have CG := Lib.hid (ground_of _ _ _ hp4); have HGd := Lib.hid (rest_ground hre4); rw [HGd.out] at CG; have hlq : l.length ≤ 9223372036854775806 := (by have := HN4.out; simp at this; omega); clear hr4 hp4 ht4 hre4 ho4 hl HN4; generalize l.length = q at *; have q1 : (((q + 1 : Nat) : Int) == 0) = false := beq_eq_false_iff_ne.2 (by omega); have q2 : wrap64 (((q + 1 : Nat) : Int) - 1) = (q : Int) := (by unfold wrap64; omega); have q3 : (0 : Int) ≤ (q : Int) := (by omega); have q4 : ((q : Int) < ((q + 1 : Nat) : Int)) = True := (by simp; omega); have q5 : wrap64 (q : Int) = (q : Int) := (by unfold wrap64; omega); clear hlq)
        | (go_at_call 20; refine (CG.out).mono ?_; rintro e w' ⟨rfl, rfl⟩))
      go_roundw
      case rel => exact ⟨1, by omega, rfl, ⟨_, HPb.out, HOb.out, HRb.out⟩, HTb.out⟩
      case measure => simp [RowKit.intOf]
    · go_wp2_with (first
        | (go_at_call 18; with_reducible refine (CPB.out _ _ _ HP.out HG.out HB.out).mono ?_; rintro e w3 ⟨v3, rfl, _, hp3, ht3⟩; have HPa := Lib.hid hp3; have HTa := Lib.hid (HTT.out.trans ht3); have HBa := Lib.hid (only_below HB.out ht3 HG.out); clear hp3 ht3)
        | (go_at_call 18; with_reducible refine (CX26.out _ _ _ HPa.out HG.out HBa.out).mono ?_; rintro e w4 ⟨v4, rfl, hr4, hp4, ht4⟩; obtain ⟨hre4, ho4, l, hl⟩ := cancel_put (hok_put bs HHO.out) (x := 26) (.inr rfl); rw [hl] at hr4; obtain ⟨g4, cap4, rfl, z0, z2⟩ := hr4.last; have HN4 := Lib.hid hr4.short; have HPb := Lib.hid hp4; have HTb := Lib.hid (HTa.out.trans ht4); have HRb := Lib.hid hre4; have HOb := Lib.hid ho4; have CG := Lib.hid (ground_of _ _ _ hp4); have HGd := Lib.hid (rest_ground hre4); rw [HGd.out] at CG; have hlq : l.length ≤ 9223372036854775806 := (by have := HN4.out; simp at this; omega); clear hr4 hp4 ht4 hre4 ho4 hl HN4; generalize l.length = q at *; have q1 : (((q + 1 : Nat) : Int) == 0) = false := beq_eq_false_iff_ne.2 (by omega); have q2 : wrap64 (((q + 1 : Nat) : Int) - 1) = (q : Int) := (by unfold wrap64; omega); have q3 : (0 : Int) ≤ (q : Int) := (by omega); have q4 : ((q : Int) < ((q + 1 : Nat) : Int)) = True := (by simp; omega); have q5 : wrap64 (q : Int) = (q : Int) := (by unfold wrap64; omega); clear hlq)
        | (go_at_call 20; refine (CG.out).mono ?_; rintro e w' ⟨rfl, rfl⟩))
      go_roundw
      case rel => exact ⟨2, by omega, rfl, ⟨_, HPb.out, HOb.out, HRb.out⟩, HTb.out⟩
      case measure => simp [RowKit.intOf]
    · have HSE := Lib.hid (sim_put cs (rest_sim hre))
      have HMY : Hid ((putPS S cs).2.length ≤ 1000000000) := Lib.hid (by have := put_many cs HHO.out.1 hre.2; have := HCL.out; omega)
      clear hre y0 y1
      go_wp2_with (first
        | (go_at_call 16; with_reducible refine (CN.out _).mono ?_; rintro e w5 ⟨gq, rfl, hp5, hg5, hb5⟩; have HGQ := Lib.hid (And.intro hg5 hp5.lt); have HPp := Lib.hid (HP.out.below hb5); have HPq := Lib.hid hp5; have HB5 := Lib.hid (HB.out.trans (hb5.mono HB.out.size)); have HGW := Lib.hid (Nat.le_trans HB.out.size hg5); have HGp := Lib.hid HP.out.lt; clear hp5 hg5 hb5)
        | (go_at_call 18; with_reducible refine (CPC.out _ _ _ HPp.out HG.out HB5.out).mono ?_; rintro e w6 ⟨v6, rfl, hr6, _, ht6⟩; have HR6 := Lib.hid hr6; have HB6 := Lib.hid (only_below HB5.out ht6 HG.out); have HPq6 := Lib.hid (HPq.out.same (ht6.block gq HGQ.out.2 (fun x => by simp only [Only] at x; have := HGp.out; have := HGQ.out.1; omega))); have HS6 := Lib.hid ht6.size; clear hr6 ht6 HPp)
        | (go_at_call 18; with_reducible refine (CPC.out _ _ _ HPq6.out HGW.out HB6.out).mono ?_; rintro e w7 ⟨v7, rfl, hr7, _, ht7⟩; have HR7 := Lib.hid hr7; have HR6b := Lib.hid (HR6.out.only ht7 HGQ.out.2); have HB7 := Lib.hid (only_below HB6.out ht7 HGW.out); rw [← HSE.out] at HR7; clear hr7 ht7 HPq6)
        | (go_at_call 13; with_reducible refine (refSame_eq _ _ _ _ _ _ HR6b.out HR7.out HMY.out).mono ?_; rintro e w8 ⟨rfl, hb8⟩; have HB8 := Lib.hid (HB7.out.trans (hb8.mono HB7.out.size)); clear hb8))
      go_ret
      exact ⟨rfl, HB8.out⟩
end

section
open Go.RowKit Go.Shelf Go.Lib
attribute [local go_sem] Oper.semAt_some

theorem byte_ne : 5 ≠ 39 ∧ 5 ≠ 3 := by decide
/-- a row of bytes grows: actions stay -/
theorem ActRow.apart {w w' : World} {B B' size n : Nat} {e : TypeId} {v v' : Value} {al : List ActD} {xs : List Value} (h : ActRow w B v al) (h' : w.ownsRow B' e size v' n xs) (hne : e ≠ 39 ∧ e ≠ 3) (hg : w.grownBy w' v'.ownBlock) : ActRow w' B v al := by
  obtain ⟨ys, h1, h2, h3⟩ := h
  exact ⟨ys, h1, own_apart h2 h' (Ne.symm hne.1) hg, fun x hx => own_apart (h3 x hx) h' (Ne.symm hne.2) hg⟩
theorem Holds1.src {w : World} {A : Option Addr} {n c : Nat} {xs : List Value} (h : Holds1 w (.slice A n c) xs) : Src w 1 A c n xs := by
  obtain ⟨A', c', e, hc, hcell⟩ := h
  injection e with e1 e2 e3
  subst e1 e3 e2
  exact ⟨by simp, (fun hA => ⟨by have := hc.1; have := hc.2 hA; omega, hc.2 hA⟩), fun hm => by
    obtain ⟨b, off, rfl, hlt, hj⟩ := hcell hm
    exact ⟨b, off, rfl, hlt, hj⟩⟩
theorem wpList_append_bytes {ops : Array Oper} {rest : List Oper} {o : Oper} {a : Act} {w : World} {Q : Exit → Act → World → Prop} (hgd : o.guard = none) (s x : Operand)
    (ho : o.op = .call { callee := .builtin .append, args := #[s, x], argTypes := #[22, 22] }) (B : Nat) (v : Value) (l : List UInt8) (hs : a.eval s = v) (hrow : w.ownsRow B 5 1 v l.length (byteVals l)) (A : Option Addr) (n c : Nat) (y : List UInt8)
    (hx : a.eval x = .slice A n c) (hy : Holds1 w (.slice A n c) (byteVals y)) (hl : l.length + y.length ≤ 1000000000) (hB : B ≤ w.heap.size)
    (h : ∀ v' w', w'.ownsRow B 5 1 v' (l ++ y).length (byteVals (l ++ y)) → Below B w w' → w.grownBy w' v.ownBlock → wpList Tryd.prog ops Q rest (a.put o.dst v') w') : wpList Tryd.prog ops Q (o :: rest) a w := by
  refine wpList_plain hgd fun K hK => ?_
  obtain ⟨i, hi, hz, hs2, hby⟩ := info_parts info_byte
  obtain ⟨A', c', e, _⟩ := id hy
  injection e with e1 e2 e3
  rw [byteVals_length] at e2
  subst e2
  obtain ⟨v', w', hr, h4, h5, _⟩ := run_append_src (P := Tryd.prog) w B 22 o.type 5 i _ 1 1 Tryd.underlying22 hi hz hs2 hby rfl (by decide) v l.length (byteVals l) hrow hy.src (byteVals_one _) (by unfold maxLen; omega) (by omega) hB
  unfold Oper.wp
  simp [execOp, ho, resolve, invoke, builtin, hs, hx, hr, Result.andThen]
  refine hK _ _ (h v' w' ?_ (grown_below h5 hB fun k hk => (own_lt hrow k hk).1) h5)
  rw [List.length_append, byteVals_append]
  exact h4
theorem actVals_one {W : World} {B : Nat} {xs : List (ActD × Value)} (h : ∀ x ∈ xs, IntRow W B x.2 x.1.ps) : ∀ u ∈ actVals xs, u.oneCell' = true := by
  intro u hu
  simp only [actVals, List.mem_flatMap] at hu
  obtain ⟨x, hx, hu⟩ := hu
  exact actCells_one (a := x.1) (v := x.2) (slice_one (h x hx)) u hu
theorem wpList_append_acts {ops : Array Oper} {rest : List Oper} {o : Oper} {a : Act} {w : World} {Q : Exit → Act → World → Prop} (hgd : o.guard = none) (s x : Operand)
    (ho : o.op = .call { callee := .builtin .append, args := #[s, x], argTypes := #[25, 25] }) (B B2 : Nat) (v v2 : Value) (al al2 : List ActD) (hs : a.eval s = v) (hrow : ActRow w B v al) (hx : a.eval x = v2) (hrow2 : ActRow w B2 v2 al2) (hB2 : B ≤ B2) (hl : al.length + al2.length ≤ 1000000000) (hB : B ≤ w.heap.size)
    (h : ∀ v' w', ActRow w' B v' (al ++ al2) → Below B w w' → w.grownBy w' v.ownBlock → wpList Tryd.prog ops Q rest (a.put o.dst v') w') : wpList Tryd.prog ops Q (o :: rest) a w := by
  refine wpList_plain hgd fun K hK => ?_
  obtain ⟨i, hi, hz, hs2, hby⟩ := info_parts info_act
  obtain ⟨xs, e1, h1, h3⟩ := hrow
  obtain ⟨ys, f1, k1, k3⟩ := hrow2
  obtain ⟨A, c, hv2, _⟩ := own_form k1
  subst hv2
  have hsrc := own_head k1 (Nat.le_refl _)
  rw [List.take_of_length_le (by rw [actVals_length, ← f1, List.length_map]; omega)] at hsrc
  obtain ⟨v', w', hr, h4, h5, _⟩ := run_append_src (P := Tryd.prog) w B 25 o.type 39 i _ 7 72 Tryd.underlying25 hi hz hs2 hby rfl (by decide) v al.length (actVals xs) h1 hsrc (actVals_one k3) (by unfold maxLen; omega) (by omega) hB
  unfold Oper.wp
  simp [execOp, ho, resolve, invoke, builtin, hs, hx, hr, Result.andThen]
  refine hK _ _ (h v' w' ⟨xs ++ ys, by simp [e1, f1], ?_, fun z hz => ?_⟩ (grown_below h5 hB fun k hk => (own_lt h1 k hk).1) h5)
  · rw [List.length_append, actVals_append]
    exact h4
  · rcases List.mem_append.1 hz with hz | hz
    · exact own_apart (h3 z hz) h1 types_ne.1 h5
    · exact own_apart (own_less (k3 z hz) hB2) h1 types_ne.1 h5
/-- a slice of slices of bytes -/
def HoldsRows (w : World) (v : Value) (ps : List (List UInt8)) : Prop :=
  ∃ A c, v = .slice A ps.length c ∧ (0 < ps.length → ∃ b off, A = some ⟨b, off, none⟩ ∧ b < w.heap.size ∧ ∀ k (hk : k < ps.length), ∃ A' c', w.cell? ⟨b, off + k, none⟩ = some (.slice A' ps[k].length c') ∧ Holds1 w (.slice A' ps[k].length c') (byteVals ps[k]))
end

section
open Go.RowKit Go.Shelf Go.Lib
attribute [local go_sem] Oper.semAt_some

/-- between two pieces -/
structure StrI (w w1 : World) (g gq : Nat) (ps : List (List UInt8)) (all got i : Value) (wr : World) (k : Nat) : Prop where
  le : k ≤ ps.length
  i : i = .int .i64 k
  all : wr.ownsRow w1.heap.size 5 1 all (ps.take k).flatten.length (byteVals (ps.take k).flatten)
  got : ActRow wr w1.heap.size got (putPS ps0 (ps.take k).flatten).2
  p : ParAt wr g (putPS ps0 (ps.take k).flatten).1
  q : ParAt wr gq ps0
  below : Below w.heap.size w wr
  size : w1.heap.size ≤ wr.heap.size
theorem flat_le (ps : List (List UInt8)) (k : Nat) : (ps.take k).flatten.length ≤ ps.flatten.length := by
  induction ps generalizing k with
  | nil => simp
  | cons x xs ih =>
    cases k with
    | zero => simp
    | succ k => simp only [List.take_succ_cons, List.flatten_cons, List.length_append]; have := ih k; omega
theorem flat_snoc (ps : List (List UInt8)) {k : Nat} {x : List UInt8} (h : ps[k]? = some x) : (ps.take (k + 1)).flatten = (ps.take k).flatten ++ x := by
  rw [List.take_add_one, h]
  simp
theorem piece_le (ps : List (List UInt8)) {k : Nat} {x : List UInt8} (h : ps[k]? = some x) : (ps.take k).flatten.length + x.length ≤ ps.flatten.length := by
  have := flat_le ps (k + 1)
  rw [flat_snoc ps h, List.length_append] at this
  exact this

theorem HoldsOff.own {w : World} {B g : Nat} {v : Value} {l : List UInt8} (h : w.ownsRow B 5 1 v l.length (byteVals l)) (hg : g < B) : HoldsOff w g v l := by
  refine ⟨Holds1.of_own h, fun hl b off n c e hne => ?_⟩
  rcases h.2 with ⟨_, h0⟩ | ⟨k, cap, cur, hv, hb, _⟩
  · omega
  · rw [hv] at e
    injection e with e1
    injection e1 with e1
    injection e1 with e1
    omega

set_option maxRecDepth 1000000 in
set_option maxHeartbeats 4000000 in
theorem stream_walk (w : World) (ps : List (List UInt8)) (A0 : Option Addr) (n c0 : Nat) (hT : Tabs w) (hv : HoldsRows w (.slice A0 n c0) ps) (hlen : ps.flatten.length + ps.length ≤ 1048576) :
    Calls Tryd.prog 5 #[.slice A0 n c0] w fun e w' => e = .returned (.bool true) ∧ Below w.heap.size w w' := by
  obtain ⟨A', c', e0, hrows⟩ := hv
  injection e0 with e1 e2 e3
  subst e1 e3
  have HR := Lib.hid hrows
  have HN := Lib.hid e2
  have HLEN := Lib.hid hlen
  have CN := Lib.hid fun W => new_any W
  have CL := Lib.hid fun W (hW : Below w.heap.size w W) => live_any W (hT.below hW)
  have CP : Hid (∀ W g S bs bv, ParAt W g S → w.heap.size ≤ g → Below w.heap.size w W → HoldsOff W g bv bs → bs.length ≤ 200000000 → Calls Tryd.prog 18 #[.pointer (some ⟨g, 0, none⟩), bv] W (PutAPost W g S bs)) := Lib.hid fun W g S bs bv hp hg hb hh hl => putP_any W g S bs bv (hT.below hb) hp (Nat.le_trans hT.size hg) hh hl
  clear hrows e2 hlen hT
  unfold LivePost at CL
  unfold PutAPost at CP
  have tok1 : True := trivial
  go_enter Tryd.func5, Tryd.ntmps5
  go_wp2_with (first
    | (go_at_call 16; have tk := tok1; clear tk; refine (CN.out _).mono ?_; rintro e w1 ⟨g, rfl, hp1, hg1, hb1⟩; have HP1 := Lib.hid hp1; have HG := Lib.hid hg1; have HB1 := Lib.hid hb1; clear hp1 hg1 hb1 tok1)
    | (go_at_call 16; refine (CN.out _).mono ?_; rintro e w2 ⟨gq, rfl, hp2, hg2, hb2⟩; have HP2 := Lib.hid (HP1.out.below hb2); have HQ2 := Lib.hid hp2; have HGQ := Lib.hid (And.intro hg2 HP1.out.lt); have HB2 := Lib.hid (HB1.out.trans (hb2.mono HB1.out.size)); clear hp2 hg2 hb2)
    | (go_at_call 12; refine (CL.out _ HB2.out).mono ?_; rintro e w3 ⟨rfl, hb3⟩; have HP3 := Lib.hid (HP2.out.below hb3); have HQ3 := Lib.hid (HQ2.out.below hb3); have HB3 := Lib.hid (HB2.out.trans (hb3.mono HB2.out.size)); clear hb3))
  have HGL := Lib.hid (And.intro HP3.out.lt HQ3.out.lt)
  go_loopw [5, 6, 23] (fun all got i wr => ∃ k, StrI w w3 g gq ps all got i wr k) (fun _ _ i _ => n - (RowKit.intOf i).toNat)
  case atStart => exact ⟨0, Nat.zero_le _, rfl, World.ownsRow_nil _ _ _ _, ActRow.nil _ _, HP3.out, HQ3.out, HB3.out, Nat.le_refl _⟩
  case round =>
    obtain ⟨k, hI⟩ := hrel
    obtain rfl := hI.i
    by_cases hlt : k < n
    · obtain ⟨x, hx⟩ : ∃ x, ps[k]? = some x := ⟨_, List.getElem?_eq_getElem (by rw [← HN.out]; exact hlt)⟩
      have hkl : k < ps.length := by rw [← HN.out]; exact hlt
      have hxe : ps[k] = x := by
        have := List.getElem?_eq_getElem hkl
        rw [hx] at this
        exact (Option.some.inj this).symm
      obtain ⟨b, off, rfl, hbl, hrow⟩ := HR.out (by omega)
      obtain ⟨Ak, ck, hck, hhk⟩ := hrow k hkl
      rw [hxe] at hck hhk
      have hcell := (hI.below.cell (p := ⟨b, off + k, none⟩) hbl).trans hck
      have hpl := piece_le ps hx
      have hfs := flat_snoc ps hx
      have hmany := put_many (ps.take k).flatten ps0_ok rfl
      have hmany2 := (put_ok x (put_ok (ps.take k).flatten ps0_ok).1).2.2
      have hheld := hI.p.shortHeld
      have HPS := Lib.hid (show putPS ps0 (ps.take (k + 1)).flatten = _ from hfs ▸ putPS_append (ps.take k).flatten x ps0)
      have HX := Lib.hid hhk
      have HXW := Lib.hid (hhk.below hI.below)
      have HKL := Lib.hid hkl
      have HFS := Lib.hid hfs
      have HLL : Hid ((putPS (putPS ps0 (ps.take k).flatten).1 x).2.length ≤ 2000000 ∧ (putPS ps0 (ps.take k).flatten).2.length ≤ 2000000 ∧ (ps.take k).flatten.length ≤ 2000000 ∧ x.length ≤ 2000000) := Lib.hid (by have := HLEN.out; omega)
      have HI := Lib.hid hI
      have i1 : (0 : Int) ≤ (k : Int) := by omega
      have i2 : ((k : Int) < (n : Int)) = True := by simp; exact hlt
      have hwk : wrap64 ((k : Int) + 1) = (k : Int) + 1 := by have := HLEN.out; unfold wrap64; omega
      have HLT := Lib.hid hlt
      have HKL := Lib.hid hkl
      clear hI hrow hck hhk hpl hfs hmany hmany2 hheld hlt hxe hbl hx hkl
      go_wp2_with (first
        | (at_builtin; refine wpList_append_bytes (by rfl) _ _ (by rfl) w3.heap.size _ _ (by rfl) HI.out.all Ak x.length ck x (by rfl) HXW.out (by have := HLL.out; omega) HI.out.size ?_; intro a4 w4 ho4 hb4 hg4; have HALL4 := Lib.hid ho4; have HGOT4 := Lib.hid (HI.out.got.apart HI.out.all byte_ne hg4); have HP4 := Lib.hid (HI.out.p.same (hb4.block g HGL.out.1)); have HQ4 := Lib.hid (HI.out.q.same (hb4.block gq HGL.out.2)); have HB4 := Lib.hid (HI.out.below.trans (hb4.mono HB3.out.size)); have HXO4 := Lib.hid (HoldsOff.of HX.out HB4.out HG.out); have HS4 := Lib.hid (Nat.le_trans HI.out.size hb4.size); obtain ⟨A4, c4, e4, _⟩ := own_form ho4; generalize hqq : ((ps.take k).flatten ++ x).length = qq at e4; subst e4; clear hqq ho4 hb4 hg4)
        | (go_at_call 18; with_reducible refine (CP.out _ _ _ x _ HP4.out HG.out HB4.out HXO4.out (by have := HLL.out; omega)).mono ?_; rintro e w5 ⟨v5, rfl, hr5, hp5, ht5⟩; have HV5 := Lib.hid hr5; have HP5 := Lib.hid hp5; have HGOT5 := Lib.hid (HGOT4.out.only ht5 HGL.out.1); have HALL5 := Lib.hid (own_touch HALL4.out ht5 (fun k hk => by simp only [Only] at hk; have := HGL.out.1; omega)); have HQ5 := Lib.hid (HQ4.out.same (ht5.block gq HQ4.out.lt (fun y => by simp only [Only] at y; have := HGQ.out; omega))); have HB5 := Lib.hid (only_below HB4.out ht5 HG.out); have HS5 := Lib.hid (Nat.le_trans HS4.out ht5.size); clear hr5 hp5 ht5)
        | (at_builtin; refine wpList_append_acts (by rfl) _ _ (by rfl) w3.heap.size _ _ _ _ _ (by rfl) HGOT5.out (by rfl) HV5.out HS4.out (by have := HLL.out; omega) HS5.out ?_; intro g6 w6 hr6 hb6 hg6; have HGOT6 := Lib.hid hr6; have HALL6 := Lib.hid (own_apart HALL5.out HGOT5.out.choose_spec.2.1 byte_ne.1 hg6); have HP6 := Lib.hid (HP5.out.same (hb6.block g HGL.out.1)); have HQ6 := Lib.hid (HQ5.out.same (hb6.block gq HGL.out.2)); have HB6 := Lib.hid (HB5.out.trans (hb6.mono HB3.out.size)); have HS6 := Lib.hid (Nat.le_trans HS5.out hb6.size); clear hr6 hb6 hg6))
      go_roundw
      case rel => exact ⟨k + 1, HKL.out, next_val hwk, by rw [HFS.out]; exact HALL6.out, by rw [HPS.out]; exact HGOT6.out, by rw [HPS.out]; exact HP6.out, HQ6.out, HB6.out, HS6.out⟩
      case measure => exact measure_lt HLT.out hwk
    · have hkn : k = ps.length := by have := hI.le; have := HN.out; omega
      have hkn2 : k = n := by rw [HN.out]; exact hkn
      subst hkn2
      have hfl : (ps.take k).flatten = ps.flatten := by rw [List.take_of_length_le (by omega)]
      have hall := hI.all
      have hgot := hI.got
      have hp := hI.p
      rw [hfl] at hall hgot hp
      have HALL := Lib.hid (HoldsOff.own hall HGL.out.2)
      have HGOT := Lib.hid hgot
      have HP := Lib.hid hp
      have HQ := Lib.hid hI.q
      have HB := Lib.hid hI.below
      have HS := Lib.hid hI.size
      have HMY : Hid ((putPS ps0 ps.flatten).2.length ≤ 1000000000 ∧ ps.flatten.length ≤ 200000000) := Lib.hid (by have := many_le ps.flatten; have := HLEN.out; omega)
      have HGW := Lib.hid (Nat.le_trans HB1.out.size HGQ.out.1)
      have i2 : ((k : Int) < (k : Int)) = False := by simp
      obtain ⟨A4, c4, e4, _⟩ := own_form hall
      generalize hqq : ps.flatten.length = qq at e4
      subst e4
      clear hI hkn hfl hall hgot hp hlt hqq
      generalize ps.flatten = F at *
      have tok2 : True := trivial
      go_wp2_with (first
        | (go_at_call 18; with_reducible refine (CP.out _ _ _ F _ HQ.out HGW.out HB.out HALL.out HMY.out.2).mono ?_; rintro e w7 ⟨v7, rfl, hr7, hp7, ht7⟩; have HR7 := Lib.hid hr7; have HQ7 := Lib.hid hp7; have HGOT7 := Lib.hid (HGOT.out.only ht7 HGL.out.2); have HP7 := Lib.hid (HP.out.same (ht7.block g HP.out.lt (fun y => by simp only [Only] at y; have := HGQ.out; omega))); have HB7 := Lib.hid (only_below HB.out ht7 HGW.out); clear hr7 hp7 ht7)
        | (go_at_call 13; with_reducible refine (refSame_eq _ _ _ _ _ _ HGOT7.out HR7.out HMY.out.1).mono ?_; rintro e w8 ⟨rfl, hb8⟩; have CG1 := Lib.hid (ground_of _ _ _ (HP7.out.below hb8)); have CG2 := Lib.hid (ground_of _ _ _ (HQ7.out.below hb8)); have HB8 := Lib.hid (HB7.out.trans (hb8.mono HB7.out.size)); clear hb8; generalize groundP (putPS ps0 F).1 = gb at *)
        | (go_at_call 20; with_reducible refine (CG1.out).mono ?_; rintro e w' ⟨rfl, rfl⟩)
        | (go_at_call 20; with_reducible refine (CG2.out).mono ?_; rintro e w' ⟨rfl, rfl⟩))
      clear tok2
      go_ret
      exact ⟨by simp, HB8.out⟩
end
end Go.Proofs.YtjoiagaadofndaaDoor
