/-
  What a parser tells of one byte.
-/
import Derived.Test.YtjoiagaadofndaaDoorVpTake
namespace Go.Proofs.YtjoiagaadofndaaDoor
open Go.RowKit Go.Shelf Go.Lib
attribute [local go_sem] Oper.semAt_some

/-- what a parser's Put turns: its block, and what is new -/
abbrev Turn (g B : Nat) : Nat → Prop := fun k => k = g ∨ B ≤ k
theorem Tabs.touch {w w' : World} {g B : Nat} (h : Tabs w) (hg : 2 ≤ g) (hB : 2 ≤ B) (ht : Touch (Turn g B) w w') : Tabs w' := by
  have hs := h.size
  have n0 : ¬ Turn g B 0 := fun x => by rcases x with x | x <;> (have : 0 < 2 := by decide) <;> omega
  have n1 : ¬ Turn g B 1 := fun x => by rcases x with x | x <;> (have : 1 < 2 := by decide) <;> omega
  have l0 : 0 < w.heap.size := Nat.lt_of_lt_of_le (by decide : 0 < 2) hs
  have l1 : 1 < w.heap.size := Nat.lt_of_lt_of_le (by decide : 1 < 2) hs
  refine ⟨⟨fun c hc => ?_, fun i hi => ⟨?_, ?_⟩⟩⟩
  · rw [ht.cell (p := ⟨0, c, none⟩) l0 n0]; exact h.u.1 c hc
  · rw [ht.cell (p := ⟨1, _, none⟩) l1 n1]; exact (h.u.2 i hi).1
  · rw [ht.cell (p := ⟨1, _, none⟩) l1 n1]; exact (h.u.2 i hi).2
theorem turn_only {w w' : World} {g B : Nat} (h : Touch (Only g) w w') : Touch (Turn g B) w w' := h.mono fun _ _ t => .inl t
theorem turn_below {w w' : World} {g B : Nat} (h : Below B w w') : Touch (Turn g B) w w' := ⟨h.os, h.tape, h.output, h.size, fun k hk ht => h.block k (by simp only [Turn, not_or] at ht; omega)⟩
theorem turn_grown {w w' : World} {g : Nat} (h : w.grownBy w' (some g)) : Touch (Only g) w w' := Touch.of_grown h fun k hk => by injection hk with hk; exact hk.symm
theorem ActRow.only {W W' : World} {B g : Nat} {v : Value} {al : List ActD} (h : ActRow W B v al) (ht : Touch (Only g) W W') (hg : g < B) : ActRow W' B v al := h.touch ht fun k hk => by simp only [Only] at hk; omega
def TakePost (w : World) (g B : Nat) (S : PS) (al : List ActD) (e : Ending) (w' : World) : Prop := ∃ v', e = .returned v' ∧ ActRow w' B v' al ∧ ParAt w' g S ∧ Touch (Turn g B) w w'
theorem ParAt.shortHeld {w : World} {g : Nat} {S : PS} (h : ParAt w g S) : S.held.length ≤ 3 := by
  obtain ⟨R, ok, _, rfl⟩ := h
  show (heldOf R.h0 R.h1 R.h2 R.n).length ≤ 3
  simp [heldOf]
  omega
theorem ParAt.putDec {w : World} {g : Nat} {S : PS} (h : ParAt w g S) (b : UInt8) (hT : Tabs w) (v : Value) (hv : Holds1 w v (byteVals [b])) :
    Calls Tryd.prog 48 #[.pointer (some ⟨g, 2, none⟩), v] w fun e w' => ∃ r, e = .returned r ∧ w'.ownsRow w.heap.size 21 1 r (putAll (S.held ++ [b])).1.length (runeVals (putAll (S.held ++ [b])).1) ∧ ParAt w' g { S with held := (putAll (S.held ++ [b])).2 } ∧ Touch (Only g) w w' := by
  obtain ⟨R, ok, hR, rfl⟩ := h
  refine (put_any [b] v g R w hT hR ok hv (by simp)).mono ?_
  rintro e w' ⟨r, x0, x1, x2, rfl, h1, h2, h3, h4⟩
  have hs := (putAll_rest ((PS.of R).held ++ [b])).1
  refine ⟨r, rfl, h1, ⟨_, hold_ok ok x0 x1 x2 hs, h3, ?_⟩, turn_grown h4⟩
  have h2' : (putAll ((PS.of R).held ++ [b])).2 = heldOf x0 x1 x2 (putAll ((PS.of R).held ++ [b])).2.length := h2
  exact congrArg (fun x => (⟨R.st, x, R.pr, R.fi, R.L.take R.c, R.be, [R.i0, R.i1].take R.ni, R.T.take R.nt⟩ : PS)) h2'.symm
theorem ParAt.flushDec {w : World} {g : Nat} {S : PS} (h : ParAt w g S) (hT : Tabs w) :
    Calls Tryd.prog 30 #[.pointer (some ⟨g, 2, none⟩)] w fun e w' => ∃ r, e = .returned r ∧ w'.ownsRow w.heap.size 21 1 r (decAll S.held).length (runeVals (decAll S.held)) ∧ ParAt w' g { S with held := [] } ∧ Touch (Only g) w w' := by
  obtain ⟨R, ok, hR, rfl⟩ := h
  refine (flush_any g R w hT hR ok).mono ?_
  rintro e w' ⟨r, rfl, h1, h3, h4⟩
  exact ⟨r, rfl, h1, ⟨_, hold_ok ok R.h0 R.h1 R.h2 (Nat.zero_le _), h3, rfl⟩, turn_grown h4⟩
set_option maxRecDepth 1000000 in
set_option maxHeartbeats 2000000 in
/-- a byte of a rune -/
theorem take_high (w : World) (g : Nat) (S : PS) (b : UInt8) (B : Nat) (v : Value) (al : List ActD) (hT : Tabs w) (h : ParAt w g S) (hrow : ActRow w B v al) (hg : g < B) (hB : B ≤ w.heap.size) (hlen : al.length ≤ 900000000) (hs : S.st = 0) (hb : 128 ≤ b.toNat) :
    Calls Tryd.prog 35 #[.pointer (some ⟨g, 0, none⟩), v, .int .u8 b.toNat] w (TakePost w g B { S with held := (putAll (S.held ++ [b])).2 } (al ++ printsP (putAll (S.held ++ [b])).1)) := by
  have c1 := h.st
  rw [hs] at c1
  have hh := h.shortHeld
  have hpl := (putAll_rest (S.held ++ [b])).2
  have hba := (Below.refl w.heap.size w).alloc (Nat.le_refl _) (.cells #[.int .u8 b.toNat] 5)
  have CP := Lib.hid ((h.below hba).putDec b (hT.below hba) (.slice (some ⟨w.heap.size, 0, none⟩) 1 1) (Holds1.built (w := w) (t := 5) (xs := byteVals [b])))
  have HPL : Hid ((putAll (S.held ++ [b])).1.length ≤ 4) := Lib.hid (by rw [List.length_append] at hpl; simp at hpl; omega)
  have HR := Lib.hid (hrow.touch (Touch.of_below (T := fun _ => False) hba) (fun k hk => hk.elim))
  have HBA := Lib.hid hba
  have HB := Lib.hid (And.intro hg hB)
  have HL := Lib.hid hlen
  have ib : ((128 : Int) ≤ (b.toNat : Int)) = True := by simp; omega
  have hsz : (w.alloc (.cells #[.int .u8 b.toNat] 5)).heap.size = w.heap.size + 1 := by simp
  have HSZ := Lib.hid hsz
  clear h hT hrow hba hg hB hlen hs hb hh hpl hsz
  generalize putAll (S.held ++ [b]) = pr at *
  obtain ⟨rs, hd⟩ := pr
  simp only at CP HPL
  go_enter Tryd.func35, Tryd.ntmps35
  go_wp2_with (first
    | (go_at_call 48; refine (CP.out).mono ?_; rintro e w1 ⟨r, rfl, hr1, hp1, ht1⟩; have HR1 := Lib.hid (HR.out.only ht1 HB.out.1); have HT1 := Lib.hid ht1; have HP1 := Lib.hid hp1; have HQ1 := Lib.hid hr1; have HS1 : Hid (B ≤ w1.heap.size) := Lib.hid (by have := ht1.size; rw [HSZ.out] at this; have := HB.out.2; omega); clear hr1 hp1 ht1)
    | (go_at_call 29; refine (addPrints_any w1 B _ v r al rs HR1.out HQ1.out HS1.out (by have := HPL.out; have := HL.out; omega)).mono ?_; rintro e w2 ⟨v2, rfl, hr2, hb2⟩; have HR2 := Lib.hid hr2; have HB2 := Lib.hid hb2; clear hr2 hb2))
  go_ret
  exact ⟨_, rfl, HR2.out, HP1.out.same (HB2.out.block g HB.out.1), ((turn_below ((HBA.out).mono HB.out.2)).trans (turn_only HT1.out)).trans (turn_below HB2.out)⟩
theorem alloc_two (w : World) (o o' : Obj) : ((w.alloc o).alloc o').heap[w.heap.size + 1]? = some o' := by
  have := heap_alloc_new (w.alloc o) o'
  rw [show (w.alloc o).heap.size = w.heap.size + 1 by simp] at this
  exact this
abbrev actObj (a : ActD) (v : Value) : Obj := .cells #[.int .i64 a.kind, .int .i32 a.rune, .int .u8 a.fin.toNat, .int .u8 a.priv.toNat, v, str a.inter, str a.text] 39

set_option maxRecDepth 1000000 in
set_option maxHeartbeats 2000000 in
theorem take_in (w : World) (g : Nat) (S : PS) (b : UInt8) (B : Nat) (v : Value) (al : List ActD) (h : ParAt w g S) (hrow : ActRow w B v al) (hg : g < B) (hB : B ≤ w.heap.size) (hlen : al.length ≤ 900000000) (hs : S.st ≠ 0) :
    Calls Tryd.prog 35 #[.pointer (some ⟨g, 0, none⟩), v, .int .u8 b.toNat] w (TakePost w g B (stepP S b).1 (al ++ oneA (stepP S b).2)) := by
  have c1 := h.st
  have ist : ((S.st : Int) == 0) = false := beq_eq_false_iff_ne.2 (by omega)
  have CS := Lib.hid fun W (hW : ParAt W g S) => step_any W g S b hW
  have HP := Lib.hid h
  have HR := Lib.hid hrow
  have HB := Lib.hid (And.intro hg hB)
  have HL : Hid (al.length ≤ 1000000000) := Lib.hid (by omega)
  clear h hrow hg hB hlen hs
  generalize stepP S b = r at *
  obtain ⟨S1, ac⟩ := r
  simp only at CS
  by_cases hk : ac.kind = 0
  · have HK : Hid (oneA ac = []) := Lib.hid (by unfold oneA; rw [if_pos hk])
    have ik : ((ac.kind : Int) == 0) = true := by rw [hk]; rfl
    clear hk
    go_enter Tryd.func35, Tryd.ntmps35
    go_wp2_with (first
      | (go_at_call 49; refine (CS.out _ HP.out).mono ?_; rintro e w1 ⟨pv, rfl, hi1, hp1, ht1⟩; obtain ⟨A, cp, rfl, _⟩ := own_form hi1; have HB1 := Lib.hid (show B ≤ w1.heap.size from Nat.le_trans HB.out.2 ht1.size); have HI1 := Lib.hid (own_less hi1 (B' := B) HB.out.2); have HR1 := Lib.hid (HR.out.only ht1 HB.out.1); have HP1 := Lib.hid hp1; have HT1 := Lib.hid ht1; clear hi1 hp1 ht1))
    go_ret
    have hb2 := (Below.refl w1.heap.size w1).alloc (Nat.le_refl _) (actObj ac (.slice A ac.ps.length cp))
    refine ⟨_, rfl, ?_, HP1.out.below hb2, ((turn_only HT1.out)).trans (turn_below (hb2.mono HB1.out))⟩
    show ActRow _ B _ (_ ++ oneA ac)
    rw [HK.out, List.append_nil]
    exact HR1.out.touch (Touch.of_below (T := fun _ => False) hb2) (fun k hk => hk.elim)
  · have HK : Hid (oneA ac = [ac]) := Lib.hid (by unfold oneA; rw [if_neg hk])
    have ik : ((ac.kind : Int) == 0) = false := beq_eq_false_iff_ne.2 (by omega)
    clear hk
    go_enter Tryd.func35, Tryd.ntmps35
    go_wp2_with (first
      | (go_at_call 49; refine (CS.out _ HP.out).mono ?_; rintro e w1 ⟨pv, rfl, hi1, hp1, ht1⟩; obtain ⟨A, cp, rfl, _⟩ := own_form hi1; have HB1 := Lib.hid (show B ≤ w1.heap.size from Nat.le_trans HB.out.2 ht1.size); have HI1 := Lib.hid (own_less hi1 (B' := B) HB.out.2); have HR1 := Lib.hid (HR.out.only ht1 HB.out.1); have HP1 := Lib.hid hp1; have HT1 := Lib.hid ht1; clear hi1 hp1 ht1; have hb2 := (Below.refl w1.heap.size w1).alloc (Nat.le_refl _) (actObj ac (.slice A ac.ps.length cp)); have hb3 := hb2.alloc (by simp) (actObj ac (.slice A ac.ps.length cp)); have HR3 := Lib.hid (HR1.out.touch (Touch.of_below (T := fun _ => False) hb3) (fun k hk => hk.elim)); have HI3 := Lib.hid (own_below HI1.out hb3); have HX3 := Lib.hid (alloc_two w1 (actObj ac (.slice A ac.ps.length cp)) (actObj ac (.slice A ac.ps.length cp))); have HZ3 := Lib.hid (show B ≤ ((w1.alloc (actObj ac (.slice A ac.ps.length cp))).alloc (actObj ac (.slice A ac.ps.length cp))).heap.size by have := HB1.out; simp; omega); have HB3 := Lib.hid (hb3.mono HB1.out); clear hb2 hb3)
      | (at_builtin; refine wpList_append_act (by rfl) _ _ (by rfl) B _ _ (by rfl) HR3.out ac _ HI3.out (by rfl) HX3.out (by rfl) HL.out HZ3.out ?_; intro v' w' hr' hb' hg'; have HR4 := Lib.hid hr'; have HB4 := Lib.hid hb'; clear hr' hb' hg'))
    go_ret
    refine ⟨_, rfl, ?_, (HP1.out.same ?_), (((turn_only HT1.out)).trans (turn_below HB3.out)).trans (turn_below HB4.out)⟩
    · show ActRow _ B _ (_ ++ oneA ac)
      rw [HK.out]
      exact HR4.out
    · exact (HB4.out.block g HB.out.1).trans (HB3.out.block g HB.out.1)

set_option maxRecDepth 1000000 in
set_option maxHeartbeats 2000000 in
theorem take_low (w : World) (g : Nat) (S : PS) (b : UInt8) (B : Nat) (v : Value) (al : List ActD) (hT : Tabs w) (h : ParAt w g S) (hrow : ActRow w B v al) (hg : g < B) (hB : B ≤ w.heap.size) (hlen : al.length ≤ 900000000) (hs : S.st = 0) (hb : ¬ 128 ≤ b.toNat) :
    Calls Tryd.prog 35 #[.pointer (some ⟨g, 0, none⟩), v, .int .u8 b.toNat] w (TakePost w g B (stepP { S with held := [] } b).1 ((al ++ printsP (decAll S.held)) ++ oneA (stepP { S with held := [] } b).2)) := by
  have c1 := h.st
  rw [hs] at c1
  have CF := Lib.hid (h.flushDec hT)
  have hh := h.shortHeld
  have hdl := decAll_le S.held
  have CS := Lib.hid fun W (hW : ParAt W g { S with held := [] }) => step_any W g { S with held := [] } b hW
  have HR0 := Lib.hid hrow
  have HB := Lib.hid (And.intro hg hB)
  have HD : Hid ((decAll S.held).length ≤ 3) := Lib.hid (by omega)
  have HL0 := Lib.hid hlen
  have HL : Hid ((al ++ printsP (decAll S.held)).length ≤ 1000000000) := Lib.hid (by have := prints_len (decAll S.held); rw [List.length_append]; omega)
  have ib : ((128 : Int) ≤ (b.toNat : Int)) = False := by simp; omega
  clear h hrow hg hB hlen hs hT hb hh hdl
  generalize decAll S.held = rs at *
  generalize stepP { S with held := [] } b = r at *
  obtain ⟨S1, ac⟩ := r
  simp only at CS
  by_cases hk : ac.kind = 0
  · have HK : Hid (oneA ac = []) := Lib.hid (by unfold oneA; rw [if_pos hk])
    have ik : ((ac.kind : Int) == 0) = true := by rw [hk]; rfl
    clear hk
    go_enter Tryd.func35, Tryd.ntmps35
    go_wp2_with (first
      | (go_at_call 30; refine (CF.out).mono ?_; rintro e w0 ⟨r0, rfl, hr0, hp0, ht0⟩; have HRa := Lib.hid (HR0.out.only ht0 HB.out.1); have HTa := Lib.hid ht0; have HPa := Lib.hid hp0; have HQa := Lib.hid hr0; have HSa : Hid (B ≤ w0.heap.size) := Lib.hid (Nat.le_trans HB.out.2 ht0.size); clear hr0 hp0 ht0)
      | (go_at_call 29; refine (addPrints_any w0 B _ v r0 al rs HRa.out HQa.out HSa.out (by have := HD.out; have := HL0.out; omega)).mono ?_; rintro e wb ⟨v2, rfl, hr2, hb2⟩; have HR := Lib.hid hr2; have HBb := Lib.hid hb2; have HP := Lib.hid (HPa.out.same (hb2.block g HB.out.1)); have HSb : Hid (B ≤ wb.heap.size) := Lib.hid (Nat.le_trans HSa.out hb2.size); clear hr2 hb2)
      | (go_at_call 49; refine (CS.out _ HP.out).mono ?_; rintro e w1 ⟨pv, rfl, hi1, hp1, ht1⟩; obtain ⟨A, cp, rfl, _⟩ := own_form hi1; have HB1 := Lib.hid (show B ≤ w1.heap.size from Nat.le_trans HSb.out ht1.size); have HI1 := Lib.hid (own_less hi1 (B' := B) HSb.out); have HR1 := Lib.hid (HR.out.only ht1 HB.out.1); have HP1 := Lib.hid hp1; have HT1 := Lib.hid ht1; clear hi1 hp1 ht1))
    go_ret
    have hb2 := (Below.refl w1.heap.size w1).alloc (Nat.le_refl _) (actObj ac (.slice A ac.ps.length cp))
    refine ⟨_, rfl, ?_, HP1.out.below hb2, (((turn_only HTa.out).trans (turn_below HBb.out)).trans (turn_only HT1.out)).trans (turn_below (hb2.mono HB1.out))⟩
    show ActRow _ B _ (_ ++ oneA ac)
    rw [HK.out, List.append_nil]
    exact HR1.out.touch (Touch.of_below (T := fun _ => False) hb2) (fun k hk => hk.elim)
  · have HK : Hid (oneA ac = [ac]) := Lib.hid (by unfold oneA; rw [if_neg hk])
    have ik : ((ac.kind : Int) == 0) = false := beq_eq_false_iff_ne.2 (by omega)
    clear hk
    go_enter Tryd.func35, Tryd.ntmps35
    go_wp2_with (first
      | (go_at_call 30; refine (CF.out).mono ?_; rintro e w0 ⟨r0, rfl, hr0, hp0, ht0⟩; have HRa := Lib.hid (HR0.out.only ht0 HB.out.1); have HTa := Lib.hid ht0; have HPa := Lib.hid hp0; have HQa := Lib.hid hr0; have HSa : Hid (B ≤ w0.heap.size) := Lib.hid (Nat.le_trans HB.out.2 ht0.size); clear hr0 hp0 ht0)
      | (go_at_call 29; refine (addPrints_any w0 B _ v r0 al rs HRa.out HQa.out HSa.out (by have := HD.out; have := HL0.out; omega)).mono ?_; rintro e wb ⟨v2, rfl, hr2, hb2⟩; have HR := Lib.hid hr2; have HBb := Lib.hid hb2; have HP := Lib.hid (HPa.out.same (hb2.block g HB.out.1)); have HSb : Hid (B ≤ wb.heap.size) := Lib.hid (Nat.le_trans HSa.out hb2.size); clear hr2 hb2)
      | (go_at_call 49; refine (CS.out _ HP.out).mono ?_; rintro e w1 ⟨pv, rfl, hi1, hp1, ht1⟩; obtain ⟨A, cp, rfl, _⟩ := own_form hi1; have HB1 := Lib.hid (show B ≤ w1.heap.size from Nat.le_trans HSb.out ht1.size); have HI1 := Lib.hid (own_less hi1 (B' := B) HSb.out); have HR1 := Lib.hid (HR.out.only ht1 HB.out.1); have HP1 := Lib.hid hp1; have HT1 := Lib.hid ht1; clear hi1 hp1 ht1; have hb2 := (Below.refl w1.heap.size w1).alloc (Nat.le_refl _) (actObj ac (.slice A ac.ps.length cp)); have hb3 := hb2.alloc (by simp) (actObj ac (.slice A ac.ps.length cp)); have HR3 := Lib.hid (HR1.out.touch (Touch.of_below (T := fun _ => False) hb3) (fun k hk => hk.elim)); have HI3 := Lib.hid (own_below HI1.out hb3); have HX3 := Lib.hid (alloc_two w1 (actObj ac (.slice A ac.ps.length cp)) (actObj ac (.slice A ac.ps.length cp))); have HZ3 := Lib.hid (show B ≤ ((w1.alloc (actObj ac (.slice A ac.ps.length cp))).alloc (actObj ac (.slice A ac.ps.length cp))).heap.size by have := HB1.out; simp; omega); have HB3 := Lib.hid (hb3.mono HB1.out); clear hb2 hb3)
      | (at_builtin; refine wpList_append_act (by rfl) _ _ (by rfl) B _ _ (by rfl) HR3.out ac _ HI3.out (by rfl) HX3.out (by rfl) HL.out HZ3.out ?_; intro v' w' hr' hb' hg'; have HR4 := Lib.hid hr'; have HB4 := Lib.hid hb'; clear hr' hb' hg'))
    go_ret
    refine ⟨_, rfl, ?_, (HP1.out.same ?_), ((((turn_only HTa.out).trans (turn_below HBb.out)).trans (turn_only HT1.out)).trans (turn_below HB3.out)).trans (turn_below HB4.out)⟩
    · show ActRow _ B _ (_ ++ oneA ac)
      rw [HK.out]
      exact HR4.out
    · exact (HB4.out.block g HB.out.1).trans (HB3.out.block g HB.out.1)
end Go.Proofs.YtjoiagaadofndaaDoor
