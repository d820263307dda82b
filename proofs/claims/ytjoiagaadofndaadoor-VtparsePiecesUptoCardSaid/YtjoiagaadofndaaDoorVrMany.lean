/-
  The document's parser: what a byte does.
  The document's parser: many bytes; all bytes; whether something is begun.
  The document's parser: a new one; all actions of all bytes; whether something is begun.
  The law on all actions of all bytes holds.
-/
import Derived.Test.YtjoiagaadofndaaDoorVrSq
import Derived.Test.YtjoiagaadofndaaDoorVrDec
import Derived.Test.YtjoiagaadofndaaDoorVpStr
import Derived.Test.YtjoiagaadofndaaDoorVpLive
import Derived.Test.YtjoiagaadofndaaDoorVpSame
namespace Go.Proofs.YtjoiagaadofndaaDoor
section
section
open Go.RowKit Go.Shelf Go.Lib
attribute [local go_sem] Oper.semAt_some

theorem slot_ok (S : PS) (pv ov : Value) : SlotOk (fun B => (rpCells S B pv ov).toArray) 69 := ⟨fun _ => rfl, fun _ _ => rfl, by decide⟩
/-- the decoder turned -/
theorem RpIn.dec {w w' : World} {q Bo : Nat} {O : Nat → Prop} {S : PS} {hv pv ov B' : Value} {xs : List (ActD × Value)} {l : List UInt8} (h : RpIn w q Bo O S hv pv ov xs) (hg : RefG (fun B => (rpCells S B pv ov).toArray) 69 w' q B') (ho : OwnsAt w' 0 B' l) (h2 : Only2 w w' q hv.ownBlock) (hb : ∀ k, B'.ownBlock = some k → hv.ownBlock = some k ∨ w.heap.size ≤ k) :
    RpIn w' q Bo O { S with held := l } B' pv ov xs ∧ Touch (Mine q O) w w' := by
  have hne : ∀ k, O k → k ≠ q := fun k hk e => h.nq (e ▸ hk)
  have hint : ∀ {v : Value} {n sz : Nat} {zs : List Value} {B : Nat} {e : TypeId}, w.ownsRow B e sz v n zs → 5 ≠ e → (∀ k, v.ownBlock = some k → O k) → w'.ownsRow B e sz v n zs := fun h1 hn h3 =>
    own_same h1 fun k hk => h2.block k (own_lt h1 k hk).2 (hne k (h3 k hk)) fun e => by
      obtain ⟨c1, k1⟩ := own_kind h1 hk
      obtain ⟨c2, k2⟩ := (h.held.block k e.symm).2.2
      exact kind_ne k2 k1 hn
  refine ⟨⟨hg, ho, hint h.ps kinds_ne.1 h.ownP, hint h.out kinds_ne.2.1 h.ownO, fun x hx => ⟨hint (h.acts x hx).1 kinds_ne.1 fun k hk => ((h.acts x hx).2 k hk).1, (h.acts x hx).2⟩, fun k hk => ?_, h.ownP, h.ownO, h.nq, Nat.le_trans h.base h2.size, fun k hk => h.news k (Nat.le_trans h2.size hk), ⟨⟨h.ok.ok.ps16, h.ok.ok.ints, h.ok.ok.inter2, h.ok.ok.text⟩, h.ok.bey⟩⟩, ⟨h2.os, h2.tape, h2.output, h2.size, fun k hk ht => h2.block k hk (fun e => ht (.inl e)) fun e => ht (.inr (h.ownH k e.symm))⟩⟩
  rcases hb k hk with e | e
  · exact h.ownH k e
  · exact h.news k e
theorem RpAt.putDec {w : World} {q Bo : Nat} {O : Nat → Prop} {S : PS} {al : List ActD} (h : RpAt w q Bo O S al) (b : UInt8) (v : Value) (hv : Holds1 w v (byteVals [b])) (hh : S.held.length ≤ 3) :
    Calls Tryd.prog 50 #[.pointer (some ⟨q, 1, none⟩), v] w fun e w' => ∃ r, e = .returned r ∧ w'.ownsRow w.heap.size 21 1 r (putAll (S.held ++ [b])).1.length (runeVals (putAll (S.held ++ [b])).1) ∧ RpAt w' q Bo O { S with held := (putAll (S.held ++ [b])).2 } al ∧ Touch (Mine q O) w w' := by
  obtain ⟨hv0, pv, ov, xs, e1, h⟩ := h
  refine (refGPut_any (slot_ok S pv ov) [b] S.held v hv0 q 0 w h.row (Nat.zero_le _) h.held hv (by simp; omega)).mono ?_
  rintro e w' ⟨r, B', rfl, h1, h2, h3, h4, h5⟩
  obtain ⟨g1, g2⟩ := h.dec h2 h3 h4 h5
  exact ⟨r, rfl, h1, ⟨B', pv, ov, xs, e1, g1⟩, g2⟩
/-- the parser behind a flush -/
def flushed (S : PS) : PS := { S with held := [] }
theorem RpAt.flushDec {w : World} {q Bo : Nat} {O : Nat → Prop} {S : PS} {al : List ActD} (h : RpAt w q Bo O S al) (hh : S.held.length ≤ 3) :
    Calls Tryd.prog 32 #[.pointer (some ⟨q, 1, none⟩)] w fun e w' => ∃ r, e = .returned r ∧ w'.ownsRow w.heap.size 21 1 r (decAll S.held).length (runeVals (decAll S.held)) ∧ RpAt w' q Bo O (flushed S) al ∧ Touch (Mine q O) w w' := by
  obtain ⟨hv0, pv, ov, xs, e1, h⟩ := h
  refine (refGFlush_any (slot_ok S pv ov) S.held hv0 q 0 w h.row h.held (by omega)).mono ?_
  rintro e w' ⟨r, rfl, h1, h2, h3⟩
  obtain ⟨g1, g2⟩ := h.dec (l := []) h2 (.inl ⟨rfl, rfl⟩) (h3.more _) (fun k hk => by cases hk)
  exact ⟨r, rfl, h1, ⟨_, pv, ov, xs, e1, g1⟩, g2⟩

theorem putAll_len1 (l : List UInt8) (b : UInt8) (h : l.length ≤ 3) : (putAll (l ++ [b])).1.length ≤ 4 := by
  have := (putAll_rest (l ++ [b])).2
  rw [List.length_append] at this
  simp at this
  omega
set_option maxRecDepth 1000000 in
set_option maxHeartbeats 4000000 in
/-- a byte of a rune -/
theorem rtake_high (w : World) (q Bo : Nat) (O : Nat → Prop) (S : PS) (al : List ActD) (b : UInt8) (h : RpAt w q Bo O S al) (hl : al.length ≤ 800000000) (hh : S.held.length ≤ 3) (h0 : S.st = 0) (hb : 128 ≤ b.toNat) :
    Calls Tryd.prog 36 #[.pointer (some ⟨q, 0, none⟩), .int .u8 b.toNat] w (RpPost w q Bo O { S with held := (putAll (S.held ++ [b])).2 } (al ++ rPrintsP (putAll (S.held ++ [b])).1)) := by
  have c0 := h.c0
  rw [h0] at c0
  have hba := (Below.refl w.heap.size w).alloc (Nat.le_refl _) (.cells #[.int .u8 b.toNat] 5)
  have h1 : RpAt (w.alloc (.cells #[.int .u8 b.toNat] 5)) q Bo O S al := by
    obtain ⟨hv, pv, ov, xs, e1, h⟩ := h
    exact ⟨hv, pv, ov, xs, e1, h.below hba⟩
  have CP := Lib.hid (h1.putDec b (.slice (some ⟨w.heap.size, 0, none⟩) 1 1) (Holds1.built (w := w) (t := 5) (xs := byteVals [b])) hh)
  have HPL := Lib.hid (putAll_len1 S.held b hh)
  have HB := Lib.hid hba
  have HL := Lib.hid hl
  have g1 : ((128 : Int) ≤ (b.toNat : Int)) = True := by simp; omega
  clear h h1 hba hl hh h0 hb
  generalize putAll (S.held ++ [b]) = pr at *
  obtain ⟨rs, hd⟩ := pr
  simp only at CP HPL
  go_enter Tryd.func36, Tryd.ntmps36
  go_wp2_with (first
    | (go_at_call 50; refine (CP.out).mono ?_; rintro e w1 ⟨r1, rfl, hr1, hp1, ht1⟩; have HR := Lib.hid hr1; have HP := Lib.hid hp1; have HT := Lib.hid ht1; clear hr1 hp1 ht1)
    | (go_at_call 31; refine (rprints_any w1 q Bo _ O _ al rs r1 HP.out HR.out (by have := HPL.out; have := HL.out; omega)).mono ?_; rintro e w2 ⟨rfl, hp2, ht2⟩; have HP2 := Lib.hid hp2; have HT2 := Lib.hid ht2; clear hp2 ht2))
  go_end0
  exact ⟨rfl, HP2.out, ((mine_below q O HB.out).trans HT.out).trans HT2.out⟩
set_option maxRecDepth 1000000 in
set_option maxHeartbeats 8000000 in
/-- a byte outside of runes, where nothing is begun -/
theorem rtake_low (w : World) (q Bo : Nat) (O : Nat → Prop) (S : PS) (al : List ActD) (b : UInt8) (h : RpAt w q Bo O S al) (hl : al.length ≤ 800000000) (hh : S.held.length ≤ 3) (h0 : S.st = 0) (hb : b.toNat < 128) :
    Calls Tryd.prog 36 #[.pointer (some ⟨q, 0, none⟩), .int .u8 b.toNat] w (RpPost w q Bo O (rStepP (flushed S) b).1 ((al ++ rPrintsP (decAll S.held)) ++ (rStepP (flushed S) b).2)) := by
  have c0 := h.c0
  rw [h0] at c0
  have CF := Lib.hid (h.flushDec hh)
  have hd := decAll_le S.held
  have HPL : Hid ((decAll S.held).length ≤ 3) := Lib.hid (by omega)
  have HL := Lib.hid hl
  have g1 : ((128 : Int) ≤ (b.toNat : Int)) = False := by simp; omega
  have hs0 : (flushed S).st = 0 := h0
  have HW : Hid (∀ W al', RpAt W q Bo O (flushed S) al' → W.cell? ⟨q, 0, none⟩ = some (.int .i64 0)) := Lib.hid fun W al' hW => by have := hW.c0; rw [hs0] at this; exact this
  generalize decAll S.held = rs at *
  generalize flushed S = S1 at *
  have HS0 := Lib.hid hs0
  have HLL : Hid ((al ++ rPrintsP rs).length ≤ 900000000) := Lib.hid (by have := rPrints_len rs; have := HPL.out; rw [List.length_append]; omega)
  have HS : Hid (∀ W S al (k : Nat), RpAt W q Bo O S al → RpAt (W.setCell ⟨q, 0, none⟩ (.int .i64 k)) q Bo O { S with st := k } al) := Lib.hid fun W S al k hW => hW.setSt k
  have CT := Lib.hid fun W (hW : RpAt W q Bo O S1 (al ++ rPrintsP rs)) => tell_nil W q Bo O S1 _ hW (exeA b) rfl HLL.out
  have CC := Lib.hid fun W (hW : RpAt W q Bo O S1 (al ++ rPrintsP rs)) => rcontrol_any W q Bo O S1 _ b hW HLL.out
  have CG := Lib.hid fun W (hW : RpAt W q Bo O S1 (al ++ rPrintsP rs)) => rgraphic_any W q Bo O S1 _ b hW HLL.out (by have := HS0.out; omega)
  have CX := Lib.hid fun W (hW : RpAt W q Bo O S1 (al ++ rPrintsP rs)) => rfresh_any W q Bo O S1 _ hW
  clear h hl hh h0 hd hs0
  by_cases h24 : b.toNat = 24 ∨ b.toNat = 26
  · have HE : Hid (rStepP S1 b = ({ S1 with st := 0 }, [exeA b])) := Lib.hid (by unfold rStepP; rw [if_pos h24])
    rw [HE.out]
    rcases (show b.toNat = 24 ∨ (b.toNat ≠ 24 ∧ b.toNat = 26) by omega) with hx | hx
    · have g24 : ((b.toNat : Int) == 24) = true := beq_iff_eq.2 (by omega)
      clear HE h24 hx hb
      go_enter Tryd.func36, Tryd.ntmps36
      go_wp2_with (first
        | (go_at_call 32; refine (CF.out).mono ?_; rintro e w1 ⟨r1, rfl, hr1, hp1, ht1⟩; have HR := Lib.hid hr1; have HP := Lib.hid hp1; have HT := Lib.hid ht1; clear hr1 hp1 ht1)
        | (go_at_call 31; refine (rprints_any w1 q Bo _ O _ al rs r1 HP.out HR.out (by have := HPL.out; have := HL.out; omega)).mono ?_; rintro e w2 ⟨rfl, hp2, ht2⟩; have HP2 := Lib.hid hp2; have HT2 := Lib.hid (HT.out.trans ht2); have k0 := HW.out _ _ hp2; have kf := hp2.frozen 0; clear hp2 ht2)
        | (go_at_call 46; refine (CT.out _ HP2.out).mono ?_; rintro e w3 ⟨rfl, hp3, ht3⟩; have HP3 := Lib.hid hp3; have HT3 := Lib.hid (HT2.out.trans ht3); have k03 := hp3.c0; have kf3 := hp3.frozen 0; clear hp3 ht3))
      go_end0
      exact ⟨rfl, HS.out _ _ _ 0 HP3.out, HT3.out.trans (mine_set _ q O 0 _)⟩
    · have g24 : ((b.toNat : Int) == 24) = false := beq_eq_false_iff_ne.2 (by omega)
      have g26 : ((b.toNat : Int) == 26) = true := beq_iff_eq.2 (by omega)
      clear HE h24 hx hb
      go_enter Tryd.func36, Tryd.ntmps36
      go_wp2_with (first
        | (go_at_call 32; refine (CF.out).mono ?_; rintro e w1 ⟨r1, rfl, hr1, hp1, ht1⟩; have HR := Lib.hid hr1; have HP := Lib.hid hp1; have HT := Lib.hid ht1; clear hr1 hp1 ht1)
        | (go_at_call 31; refine (rprints_any w1 q Bo _ O _ al rs r1 HP.out HR.out (by have := HPL.out; have := HL.out; omega)).mono ?_; rintro e w2 ⟨rfl, hp2, ht2⟩; have HP2 := Lib.hid hp2; have HT2 := Lib.hid (HT.out.trans ht2); have k0 := HW.out _ _ hp2; have kf := hp2.frozen 0; clear hp2 ht2)
        | (go_at_call 46; refine (CT.out _ HP2.out).mono ?_; rintro e w3 ⟨rfl, hp3, ht3⟩; have HP3 := Lib.hid hp3; have HT3 := Lib.hid (HT2.out.trans ht3); have k03 := hp3.c0; have kf3 := hp3.frozen 0; clear hp3 ht3))
      go_end0
      exact ⟨rfl, HS.out _ _ _ 0 HP3.out, HT3.out.trans (mine_set _ q O 0 _)⟩
  have g24 : ((b.toNat : Int) == 24) = false := beq_eq_false_iff_ne.2 (by omega)
  have g26 : ((b.toNat : Int) == 26) = false := beq_eq_false_iff_ne.2 (by omega)
  by_cases h27 : b.toNat = 27
  · have HE : Hid (rStepP S1 b = ({ freshP S1 with st := 1 }, [])) := Lib.hid (by unfold rStepP rEscA; rw [if_neg h24, if_pos h27, if_neg (by have := HS0.out; omega), if_neg (by have := HS0.out; omega)])
    rw [HE.out, List.append_nil]
    have g27 : ((b.toNat : Int) == 27) = true := beq_iff_eq.2 (by omega)
    clear HE h24 h27 hb
    go_enter Tryd.func36, Tryd.ntmps36
    go_wp2_with (first
      | (go_at_call 32; refine (CF.out).mono ?_; rintro e w1 ⟨r1, rfl, hr1, hp1, ht1⟩; have HR := Lib.hid hr1; have HP := Lib.hid hp1; have HT := Lib.hid ht1; clear hr1 hp1 ht1)
      | (go_at_call 31; refine (rprints_any w1 q Bo _ O _ al rs r1 HP.out HR.out (by have := HPL.out; have := HL.out; omega)).mono ?_; rintro e w2 ⟨rfl, hp2, ht2⟩; have HP2 := Lib.hid hp2; have HT2 := Lib.hid (HT.out.trans ht2); have k0 := HW.out _ _ hp2; have kf := hp2.frozen 0; clear hp2 ht2)
      | (go_at_call 52; refine (CX.out _ HP2.out).mono ?_; rintro e w3 ⟨rfl, hp3, ht3⟩; have HP3 := Lib.hid hp3; have HT3 := Lib.hid (HT2.out.trans ht3); have k03 := hp3.c0; have kf3 := hp3.frozen 0; clear hp3 ht3))
    go_end0
    exact ⟨rfl, HS.out _ _ _ 1 HP3.out, HT3.out.trans (mine_set _ q O 0 _)⟩
  have g27 : ((b.toNat : Int) == 27) = false := beq_eq_false_iff_ne.2 (by omega)
  by_cases h32 : b.toNat < 32
  · have HE : Hid (rStepP S1 b = rControlP S1 b) := Lib.hid (by have := HS0.out; unfold rStepP; rw [if_neg h24, if_neg h27, if_neg (by omega), if_neg (by omega), if_pos h32])
    rw [HE.out]
    have g32 : ((b.toNat : Int) < 32) = True := by simp; omega
    clear HE h24 h27 h32 hb
    go_enter Tryd.func36, Tryd.ntmps36
    go_wp2_with (first
      | (go_at_call 32; refine (CF.out).mono ?_; rintro e w1 ⟨r1, rfl, hr1, hp1, ht1⟩; have HR := Lib.hid hr1; have HP := Lib.hid hp1; have HT := Lib.hid ht1; clear hr1 hp1 ht1)
      | (go_at_call 31; refine (rprints_any w1 q Bo _ O _ al rs r1 HP.out HR.out (by have := HPL.out; have := HL.out; omega)).mono ?_; rintro e w2 ⟨rfl, hp2, ht2⟩; have HP2 := Lib.hid hp2; have HT2 := Lib.hid (HT.out.trans ht2); have k0 := HW.out _ _ hp2; have kf := hp2.frozen 0; clear hp2 ht2)
      | (go_at_call 54; refine (CC.out _ HP2.out).mono ?_; rintro e w3 ⟨rfl, hp3, ht3⟩; have HP3 := Lib.hid hp3; have HT3 := Lib.hid (HT2.out.trans ht3); have k03 := hp3.c0; have kf3 := hp3.frozen 0; clear hp3 ht3))
    go_end0
    exact ⟨rfl, HP3.out, HT3.out⟩
  have g32 : ((b.toNat : Int) < 32) = False := by simp; omega
  by_cases h127 : b.toNat = 127
  · have HE : Hid (rStepP S1 b = (S1, [])) := Lib.hid (by have := HS0.out; unfold rStepP; rw [if_neg h24, if_neg h27, if_neg (by omega), if_neg (by omega), if_neg h32, if_pos h127])
    rw [HE.out, List.append_nil]
    have g127 : ((b.toNat : Int) == 127) = true := beq_iff_eq.2 (by omega)
    clear HE h24 h27 h32 h127 hb
    go_enter Tryd.func36, Tryd.ntmps36
    go_wp2_with (first
      | (go_at_call 32; refine (CF.out).mono ?_; rintro e w1 ⟨r1, rfl, hr1, hp1, ht1⟩; have HR := Lib.hid hr1; have HP := Lib.hid hp1; have HT := Lib.hid ht1; clear hr1 hp1 ht1)
      | (go_at_call 31; refine (rprints_any w1 q Bo _ O _ al rs r1 HP.out HR.out (by have := HPL.out; have := HL.out; omega)).mono ?_; rintro e w2 ⟨rfl, hp2, ht2⟩; have HP2 := Lib.hid hp2; have HT2 := Lib.hid (HT.out.trans ht2); have k0 := HW.out _ _ hp2; have kf := hp2.frozen 0; clear hp2 ht2))
    go_end0
    exact ⟨rfl, HP2.out, HT2.out⟩
  have g127 : ((b.toNat : Int) == 127) = false := beq_eq_false_iff_ne.2 (by omega)
  have HE : Hid (rStepP S1 b = rGraphicP S1 b) := Lib.hid (by have := HS0.out; unfold rStepP; rw [if_neg h24, if_neg h27, if_neg (by omega), if_neg (by omega), if_neg h32, if_neg h127])
  rw [HE.out]
  clear HE h24 h27 h32 h127 hb
  go_enter Tryd.func36, Tryd.ntmps36
  go_wp2_with (first
    | (go_at_call 32; refine (CF.out).mono ?_; rintro e w1 ⟨r1, rfl, hr1, hp1, ht1⟩; have HR := Lib.hid hr1; have HP := Lib.hid hp1; have HT := Lib.hid ht1; clear hr1 hp1 ht1)
    | (go_at_call 31; refine (rprints_any w1 q Bo _ O _ al rs r1 HP.out HR.out (by have := HPL.out; have := HL.out; omega)).mono ?_; rintro e w2 ⟨rfl, hp2, ht2⟩; have HP2 := Lib.hid hp2; have HT2 := Lib.hid (HT.out.trans ht2); have k0 := HW.out _ _ hp2; have kf := hp2.frozen 0; clear hp2 ht2)
    | (go_at_call 55; refine (CG.out _ HP2.out).mono ?_; rintro e w3 ⟨rfl, hp3, ht3⟩; have HP3 := Lib.hid hp3; have HT3 := Lib.hid (HT2.out.trans ht3); have k03 := hp3.c0; have kf3 := hp3.frozen 0; clear hp3 ht3))
  go_end0
  exact ⟨rfl, HP3.out, HT3.out⟩
set_option maxRecDepth 1000000 in
set_option maxHeartbeats 8000000 in
/-- a byte where something is begun -/
theorem rtake_in (w : World) (q Bo : Nat) (O : Nat → Prop) (S : PS) (al : List ActD) (b : UInt8) (h : RpAt w q Bo O S al) (hl : al.length ≤ 800000000) (h0 : S.st ≠ 0) (h13 : S.st ≤ 13) :
    Calls Tryd.prog 36 #[.pointer (some ⟨q, 0, none⟩), .int .u8 b.toNat] w (RpPost w q Bo O (rStepP S b).1 (al ++ (rStepP S b).2)) := by
  have c0 := h.c0
  have c6 := h.c6
  have f0 := h.frozen 0
  have HS : Hid (∀ W S al (k : Nat), RpAt W q Bo O S al → RpAt (W.setCell ⟨q, 0, none⟩ (.int .i64 k)) q Bo O { S with st := k } al) := Lib.hid fun W S al k hW => hW.setSt k
  have CT := Lib.hid (tell_nil w q Bo O S al h (exeA b) rfl (by omega))
  have CO := Lib.hid (tell_nil w q Bo O S al h (oscA S) rfl (by omega))
  have CC := Lib.hid (rcontrol_any w q Bo O S al b h (by omega))
  have CI := Lib.hid (rinText_any w q Bo O S al b h (by omega))
  have CX := Lib.hid fun W al' (hW : RpAt W q Bo O S al') => rfresh_any W q Bo O S al' hW
  have H := Lib.hid h
  have HH := Lib.hid (And.intro h0 h13)
  have g0 : ((S.st : Int) == 0) = false := beq_eq_false_iff_ne.2 (by omega)
  by_cases h24 : b.toNat = 24 ∨ b.toNat = 26
  · have HE : Hid (rStepP S b = ({ S with st := 0 }, [exeA b])) := Lib.hid (by unfold rStepP; rw [if_pos h24])
    rw [HE.out]
    rcases (show b.toNat = 24 ∨ (b.toNat ≠ 24 ∧ b.toNat = 26) by omega) with hx | hx
    · have g24 : ((b.toNat : Int) == 24) = true := beq_iff_eq.2 (by omega)
      clear HE h24 hx h hl h0 h13
      go_enter Tryd.func36, Tryd.ntmps36
      go_wp2_with (first
        | (go_at_call 46; refine (CT.out).mono ?_; rintro e w3 ⟨rfl, hp3, ht3⟩; have HP3 := Lib.hid hp3; have HT3 := Lib.hid (ht3); have k03 := hp3.c0; have kf3 := hp3.frozen 0; clear hp3 ht3))
      go_end0
      exact ⟨rfl, HS.out _ _ _ 0 HP3.out, HT3.out.trans (mine_set _ q O 0 _)⟩
    · have g24 : ((b.toNat : Int) == 24) = false := beq_eq_false_iff_ne.2 (by omega)
      have g26 : ((b.toNat : Int) == 26) = true := beq_iff_eq.2 (by omega)
      clear HE h24 hx h hl h0 h13
      go_enter Tryd.func36, Tryd.ntmps36
      go_wp2_with (first
        | (go_at_call 46; refine (CT.out).mono ?_; rintro e w3 ⟨rfl, hp3, ht3⟩; have HP3 := Lib.hid hp3; have HT3 := Lib.hid (ht3); have k03 := hp3.c0; have kf3 := hp3.frozen 0; clear hp3 ht3))
      go_end0
      exact ⟨rfl, HS.out _ _ _ 0 HP3.out, HT3.out.trans (mine_set _ q O 0 _)⟩
  have g24 : ((b.toNat : Int) == 24) = false := beq_eq_false_iff_ne.2 (by omega)
  have g26 : ((b.toNat : Int) == 26) = false := beq_eq_false_iff_ne.2 (by omega)
  by_cases h27 : b.toNat = 27
  · have g27 : ((b.toNat : Int) == 27) = true := beq_iff_eq.2 (by omega)
    by_cases h12 : S.st = 12
    · have HE : Hid (rStepP S b = ({ freshP S with st := 1 }, [oscA S])) := Lib.hid (by unfold rStepP rEscA; rw [if_neg h24, if_pos h27, if_pos h12])
      rw [HE.out]
      rw [h12] at c0 g0
      have HC : Hid (∀ W al', RpAt W q Bo O S al' → W.cell? ⟨q, 0, none⟩ = some (.int .i64 12)) := Lib.hid fun W al' hW => by have := hW.c0; rw [h12] at this; exact this
      clear HE h24 h27 h12 h hl h0 h13
      go_enter Tryd.func36, Tryd.ntmps36
      go_wp2_with (first
        | (go_at_call 46; refine (CO.out).mono ?_; rintro e w3 ⟨rfl, hp3, ht3⟩; have HP3 := Lib.hid hp3; have HT3 := Lib.hid (ht3); have k03 := HC.out _ _ hp3; have kf3 := hp3.frozen 0; clear hp3 ht3)
        | (go_at_call 52; refine (CX.out _ _ HP3.out).mono ?_; rintro e w4 ⟨rfl, hp4, ht4⟩; have HP4 := Lib.hid hp4; have HT4 := Lib.hid (HT3.out.trans ht4); have k04 := hp4.c0; have kf4 := hp4.frozen 0; clear hp4 ht4))
      go_end0
      exact ⟨rfl, HS.out _ _ _ 1 HP4.out, HT4.out.trans (mine_set _ q O 0 _)⟩
    have g12 : ((S.st : Int) == 12) = false := beq_eq_false_iff_ne.2 (by omega)
    by_cases h11 : S.st = 11
    · have HE : Hid (rStepP S b = ({ freshP S with st := 1 }, [dcsA S])) := Lib.hid (by unfold rStepP rEscA; rw [if_neg h24, if_pos h27, if_neg h12, if_pos h11])
      rw [HE.out]
      rw [h11] at c0 g0 g12
      obtain ⟨hv, pv, ov, xs, e1, h1⟩ := h
      have c2 := h1.cells.c2
      have c5 := h1.cells.c5
      have c7 := h1.cells.c7
      have hxl : xs.length ≤ 900000000 := by rw [← List.length_map (f := Prod.fst), e1]; omega
      have CL := Lib.hid (list_any w.drew q Bo O S hv pv ov xs h1.drew)
      have CD := Lib.hid fun w1 v (hb : Below w.drew.heap.size w.drew w1) (hr : w1.ownsRow w.drew.heap.size 3 1 v S.ps.length (intVals S.ps)) => h1.drew.tellCopy (dcsA S) rfl hxl hb hr
      have HK : Hid (∀ w1, Below w.drew.heap.size w.drew w1 → w1.cell? ⟨q, 2, none⟩ = some (.int .u8 S.priv.toNat) ∧ w1.cell? ⟨q, 5, none⟩ = some (str S.inter) ∧ w1.cell? ⟨q, 7, none⟩ = some (.int .u8 S.fin.toNat) ∧ w1.cell? ⟨q, 6, none⟩ = some (str S.text)) := Lib.hid fun w1 hb => ⟨(h1.drew.below hb).cells.c2, (h1.drew.below hb).cells.c5, (h1.drew.below hb).cells.c7, (h1.drew.below hb).cells.c6⟩
      have HE1 := Lib.hid e1
      clear HE h24 h27 h12 h11 hl h0 h13 h1 e1 hxl H HH CT CO CC CI
      go_enter Tryd.func36, Tryd.ntmps36
      go_wp2_with fail
      go_region_held3 (fun w' => w'.cell? ⟨q, 2, none⟩ = some (.int .u8 S.priv.toNat) ∧ w'.cell? ⟨q, 5, none⟩ = some (str S.inter) ∧ w'.cell? ⟨q, 7, none⟩ = some (.int .u8 S.fin.toNat) ∧ w'.cell? ⟨q, 6, none⟩ = some (str S.text)) (first | go_keep | (refine ⟨?_, ?_, ?_, ?_⟩ <;> assumption)) (first
        | (go_at_call 51; refine (CL.out).mono ?_; rintro e w1 ⟨v1, rfl, hr1, hb1⟩; obtain ⟨k2, k5, k7, k6⟩ := HK.out w1 hb1; obtain ⟨A1, cp1, hv1, _⟩ := own_form hr1; subst hv1; have HR1 := Lib.hid hr1; have HB1 := Lib.hid hb1; clear hr1 hb1)
        | (go_at_call 46; refine (CD.out _ _ HB1.out HR1.out).mono ?_; rintro e w2 ⟨rfl, ⟨ov', hp2⟩, ht2⟩; have k2' := hp2.cells.c2; have k5' := hp2.cells.c5; have k7' := hp2.cells.c7; have k6' := hp2.cells.c6; have HP2 : Hid (RpAt w2 q Bo O S (al ++ [dcsA S])) := Lib.hid ⟨hv, pv, ov', _, by rw [List.map_append, HE1.out]; rfl, hp2⟩; have HT2 := Lib.hid (((Touch.refl (Mine q O) w).drew.trans (mine_below q O HB1.out)).trans ht2); clear hp2 ht2))
      all_goals
        clear k2 k5 k7 k6 k2' k5' k7' k6' HK
        go_wp2_with (go_at_call 52; refine (CX.out _ _ HP2.out).mono ?_; rintro e w4 ⟨rfl, hp4, ht4⟩; have HP4 := Lib.hid hp4; have HT4 := Lib.hid (HT2.out.trans ht4); have k04 := hp4.c0; have kf4 := hp4.frozen 0; clear hp4 ht4)
        go_end0
        exact ⟨rfl, HS.out _ _ _ 1 HP4.out, HT4.out.trans (mine_set _ q O 0 _)⟩
    have HE : Hid (rStepP S b = ({ freshP S with st := 1 }, [])) := Lib.hid (by unfold rStepP rEscA; rw [if_neg h24, if_pos h27, if_neg h12, if_neg h11])
    rw [HE.out, List.append_nil]
    have g11 : ((S.st : Int) == 11) = false := beq_eq_false_iff_ne.2 (by omega)
    clear HE h24 h27 h12 h11 h hl h0 h13
    go_enter Tryd.func36, Tryd.ntmps36
    go_wp2_with (first
      | (go_at_call 52; refine (CX.out _ _ H.out).mono ?_; rintro e w4 ⟨rfl, hp4, ht4⟩; have HP4 := Lib.hid hp4; have HT4 := Lib.hid (ht4); have k04 := hp4.c0; have kf4 := hp4.frozen 0; clear hp4 ht4))
    go_end0
    exact ⟨rfl, HS.out _ _ _ 1 HP4.out, HT4.out.trans (mine_set _ q O 0 _)⟩
  have g27 : ((b.toNat : Int) == 27) = false := beq_eq_false_iff_ne.2 (by omega)
  by_cases h12 : S.st = 12 ∨ S.st = 11
  · have HE : Hid (rStepP S b = rTextP S b) := Lib.hid (by unfold rStepP; rw [if_neg h24, if_neg h27, if_pos h12])
    rw [HE.out]
    rcases (show S.st = 12 ∨ S.st = 11 by omega) with hx | hx
    all_goals
      rw [hx] at c0 g0
      clear HE h24 h27 h12 hx h hl h0 h13
      go_enter Tryd.func36, Tryd.ntmps36
      go_wp2_with (first
        | (go_at_call 53; refine (CI.out).mono ?_; rintro e w3 ⟨rfl, hp3, ht3⟩; have HP3 := Lib.hid hp3; have HT3 := Lib.hid (ht3); have k03 := hp3.c0; have kf3 := hp3.frozen 0; clear hp3 ht3))
      go_end0
      exact ⟨rfl, HP3.out, HT3.out⟩
  have g12 : ((S.st : Int) == 12) = false := beq_eq_false_iff_ne.2 (by omega)
  have g11 : ((S.st : Int) == 11) = false := beq_eq_false_iff_ne.2 (by omega)
  by_cases h128 : 128 ≤ b.toNat ∨ S.st = 13
  · have HE : Hid (rStepP S b = (S, [])) := Lib.hid (by unfold rStepP; rw [if_neg h24, if_neg h27, if_neg h12, if_pos h128])
    rw [HE.out, List.append_nil]
    rcases (show 128 ≤ b.toNat ∨ (¬ 128 ≤ b.toNat ∧ S.st = 13) by omega) with hx | hx
    · have g128 : ((128 : Int) ≤ (b.toNat : Int)) = True := by simp; omega
      clear HE h24 h27 h12 h128 hx h hl h0 h13
      go_enter Tryd.func36, Tryd.ntmps36
      go_wp2
      go_end0
      exact ⟨rfl, H.out, Touch.refl _ _⟩
    · have g128 : ((128 : Int) ≤ (b.toNat : Int)) = False := by simp; omega
      rw [hx.2] at c0 g0 g11 g12
      clear HE h24 h27 h12 h128 hx h hl h0 h13
      go_enter Tryd.func36, Tryd.ntmps36
      go_wp2
      go_end0
      exact ⟨rfl, H.out, Touch.refl _ _⟩
  have g128 : ((128 : Int) ≤ (b.toNat : Int)) = False := by simp; omega
  have g13 : ((S.st : Int) == 13) = false := beq_eq_false_iff_ne.2 (by omega)
  by_cases h32 : b.toNat < 32
  · have HE : Hid (rStepP S b = rControlP S b) := Lib.hid (by unfold rStepP; rw [if_neg h24, if_neg h27, if_neg h12, if_neg h128, if_pos h32])
    rw [HE.out]
    have g32 : ((b.toNat : Int) < 32) = True := by simp; omega
    clear HE h24 h27 h12 h128 h32 h hl h0 h13
    go_enter Tryd.func36, Tryd.ntmps36
    go_wp2_with (first
      | (go_at_call 54; refine (CC.out).mono ?_; rintro e w3 ⟨rfl, hp3, ht3⟩; have HP3 := Lib.hid hp3; have HT3 := Lib.hid (ht3); have k03 := hp3.c0; have kf3 := hp3.frozen 0; clear hp3 ht3))
    go_end0
    exact ⟨rfl, HP3.out, HT3.out⟩
  have g32 : ((b.toNat : Int) < 32) = False := by simp; omega
  by_cases h127 : b.toNat = 127
  · have HE : Hid (rStepP S b = (S, [])) := Lib.hid (by unfold rStepP; rw [if_neg h24, if_neg h27, if_neg h12, if_neg h128, if_neg h32, if_pos h127])
    rw [HE.out, List.append_nil]
    have g127 : ((b.toNat : Int) == 127) = true := beq_iff_eq.2 (by omega)
    clear HE h24 h27 h12 h128 h32 h127 h hl h0 h13
    go_enter Tryd.func36, Tryd.ntmps36
    go_wp2
    go_end0
    exact ⟨rfl, H.out, Touch.refl _ _⟩
  have g127 : ((b.toNat : Int) == 127) = false := beq_eq_false_iff_ne.2 (by omega)
  have HE : Hid (rStepP S b = rGraphicP S b) := Lib.hid (by unfold rStepP; rw [if_neg h24, if_neg h27, if_neg h12, if_neg h128, if_neg h32, if_neg h127])
  rw [HE.out]
  have CG := Lib.hid (rgraphic_any w q Bo O S al b h (by omega) (by omega))
  clear HE h24 h27 h12 h128 h32 h127 h hl h0 h13
  go_enter Tryd.func36, Tryd.ntmps36
  go_wp2_with (first
    | (go_at_call 55; refine (CG.out).mono ?_; rintro e w3 ⟨rfl, hp3, ht3⟩; have HP3 := Lib.hid hp3; have HT3 := Lib.hid (ht3); have k03 := hp3.c0; have kf3 := hp3.frozen 0; clear hp3 ht3))
  go_end0
  exact ⟨rfl, HP3.out, HT3.out⟩

theorem rtake_any (w : World) (q Bo : Nat) (O : Nat → Prop) (S : PS) (al : List ActD) (b : UInt8) (h : RpAt w q Bo O S al) (hl : al.length ≤ 800000000) (hh : S.held.length ≤ 3) (h13 : S.st ≤ 13) :
    Calls Tryd.prog 36 #[.pointer (some ⟨q, 0, none⟩), .int .u8 b.toNat] w (RpPost w q Bo O (rTakeP S b).1 (al ++ (rTakeP S b).2)) := by
  by_cases h0 : S.st = 0
  · by_cases hb : 128 ≤ b.toNat
    · have e : rTakeP S b = ({ S with held := (putAll (S.held ++ [b])).2 }, rPrintsP (putAll (S.held ++ [b])).1) := by unfold rTakeP; rw [if_pos ⟨h0, hb⟩]
      rw [e]
      exact rtake_high w q Bo O S al b h hl hh h0 hb
    · have e : rTakeP S b = ((rStepP (flushed S) b).1, rPrintsP (decAll S.held) ++ (rStepP (flushed S) b).2) := by unfold rTakeP; rw [if_neg (fun x => hb x.2), if_pos h0]; rfl
      rw [e, ← List.append_assoc]
      exact rtake_low w q Bo O S al b h hl hh h0 (by omega)
  · have e : rTakeP S b = rStepP S b := by unfold rTakeP; rw [if_neg (fun x => h0 x.1), if_neg h0]
    rw [e]
    exact rtake_in w q Bo O S al b h hl h0 h13
end

section
open Go.RowKit Go.Shelf Go.Lib
attribute [local go_sem] Oper.semAt_some

theorem take_short {P : PS} (h : SOk P) (hh : P.held.length ≤ 3) (b : UInt8) : (takeP P b).1.held.length ≤ 3 := by
  unfold takeP
  split
  · exact (putAll_rest _).1
  · split
    · rw [(step_ok (S := { P with held := [] }) ⟨h.ps16, h.ints, h.inter2, h.text⟩ b).2.1]
      exact Nat.zero_le _
    · rw [(step_ok h b).2.1]
      exact hh
theorem put_short (l : List UInt8) : ∀ {P : PS}, SOk P → P.held.length ≤ 3 → (putPS P l).1.held.length ≤ 3 := by
  induction l with
  | nil => intro P _ h; exact h
  | cons b l ih => intro P h hh; exact ih (take_ok h b).1 (take_short h hh b)
/-- the program's parser and the document's are within the same -/
structure Tied (P S : PS) : Prop where
  fresh : Fresh P
  like : ∃ f, S = WithF P f ∧ (P.st = 11 → f = P.fin)
  ok : SOk P
  short : P.held.length ≤ 3
theorem Tied.put {P S : PS} (h : Tied P S) (l : List UInt8) : Tied (putPS P l).1 (rPutP S l).1 ∧ (putPS P l).2 = (rPutP S l).2 := by
  obtain ⟨f, rfl, hf⟩ := h.like
  obtain ⟨h1, h2, h3⟩ := rsim_put l h.fresh hf
  exact ⟨⟨h3, h2, (put_ok l h.ok).1, put_short l h.ok h.short⟩, h1⟩
theorem Tied.len {P S : PS} (h : Tied P S) (l : List UInt8) : (rPutP S l).2.length ≤ 3 + l.length := by
  rw [← (h.put l).2]
  have := (put_ok l h.ok).2.2
  have := h.short
  omega
theorem Tied.held {P S : PS} (h : Tied P S) : S.held.length ≤ 3 := by obtain ⟨f, rfl, _⟩ := h.like; exact h.short
theorem Tied.st13 {P S : PS} (h : Tied P S) : S.st ≤ 13 := by obtain ⟨f, rfl, _⟩ := h.like; exact h.fresh.st13
theorem Tied.ground {P S : PS} (h : Tied P S) : groundP S = groundP P := by obtain ⟨f, rfl, _⟩ := h.like; rfl
theorem tied0 : Tied ps0 ps0 := ⟨fresh0, ⟨0, rfl, fun _ => rfl⟩, ps0_ok, by show 0 ≤ 3; omega⟩

/-- the document's parser between two calls; O: its own blocks -/
structure RpCore (w : World) (q : Nat) (O : Nat → Prop) (S : PS) (hv pv ov : Value) : Prop where
  row : w.heap[q]? = some (.cells (rpCells S hv pv ov).toArray 69 (0, 0))
  held : OwnsAt w 0 hv S.held
  ps : w.ownsRow 0 3 1 pv S.ps.length (intVals S.ps)
  ownH : ∀ k, hv.ownBlock = some k → O k
  ownP : ∀ k, pv.ownBlock = some k → O k
  old : ∀ k, O k → k < w.heap.size
  nq : ¬ O q
  ok : RefOk S
theorem RpCore.lt {w : World} {q : Nat} {O : Nat → Prop} {S : PS} {hv pv ov : Value} (h : RpCore w q O S hv pv ov) : q < w.heap.size := (Array.getElem?_eq_some_iff.1 h.row).1
theorem RpCore.same {w w' : World} {q : Nat} {O : Nat → Prop} {S : PS} {hv pv ov : Value} (h : RpCore w q O S hv pv ov) (hq : w'.heap[q]? = w.heap[q]?) (hO : ∀ k, O k → w'.heap[k]? = w.heap[k]?) (hz : w.heap.size ≤ w'.heap.size) : RpCore w' q O S hv pv ov :=
  ⟨hq.trans h.row, h.held.kept fun k hk => hO k (h.ownH k hk), own_same h.ps fun k hk => hO k (h.ownP k hk), h.ownH, h.ownP, fun k hk => Nat.lt_of_lt_of_le (h.old k hk) hz, h.nq, h.ok⟩
/-- what it told is handed over: a new list begins -/
theorem RpCore.begin {w : World} {q : Nat} {O : Nat → Prop} {S : PS} {hv pv ov : Value} (h : RpCore w q O S hv pv ov) : RpIn (w.setCell ⟨q, 8, none⟩ (.slice none 0 0)) q w.heap.size (fun k => O k ∨ w.heap.size ≤ k) S hv pv (.slice none 0 0) [] := by
  have hne : ∀ k, O k → k ≠ q := fun k hk e => h.nq (e ▸ hk)
  have hs : ∀ k, k ≠ q → (w.setCell ⟨q, 8, none⟩ (.slice none 0 0)).heap[k]? = w.heap[k]? := fun k hk => Below.heap_setCell w ⟨q, 8, none⟩ _ k hk
  have hz : (w.setCell ⟨q, 8, none⟩ (.slice none 0 0)).heap.size = w.heap.size := by simp [World.setCell]
  exact ⟨row_set (k := 8) (.slice none 0 0) h.row, h.held.kept fun k hk => hs k (hne k (h.ownH k hk)), own_same h.ps fun k hk => hs k (hne k (h.ownP k hk)), World.ownsRow_nil _ _ _ _, fun x hx => (by cases hx), fun k hk => .inl (h.ownH k hk), fun k hk => .inl (h.ownP k hk), fun k hk => (by cases hk), fun t => t.elim h.nq fun e => Nat.not_lt_of_le e h.lt, by rw [hz]; exact Nat.le_refl _, fun k hk => .inr (by rw [hz] at hk; exact hk), h.ok⟩
/-- its own blocks -/
def OwnOf (hv pv : Value) : Nat → Prop := fun k => hv.ownBlock = some k ∨ pv.ownBlock = some k
theorem RpIn.core {w : World} {q Bo : Nat} {O : Nat → Prop} {S : PS} {hv pv ov : Value} {xs : List (ActD × Value)} (h : RpIn w q Bo O S hv pv ov xs) : RpCore w q (OwnOf hv pv) S hv pv ov :=
  ⟨h.row, h.held, h.ps, fun _ hk => .inl hk, fun _ hk => .inr hk, fun k hk => hk.elim (fun e => (h.held.block k e).2.1) fun e => (own_lt h.ps k e).2, fun t => h.nq (t.elim (h.ownH q) (h.ownP q)), h.ok⟩
theorem mine_old {w w' : World} {q : Nat} {O : Nat → Prop} (h : Touch (Mine q (fun k => O k ∨ w.heap.size ≤ k)) w w') : Touch (Mine q O) w w' :=
  h.mono fun k hk t => by
    rcases t with t | t | t
    · exact .inl t
    · exact .inr t
    · omega
theorem RpIn.actRow {w : World} {q Bo : Nat} {O : Nat → Prop} {S : PS} {hv pv ov : Value} {xs : List (ActD × Value)} (h : RpIn w q Bo O S hv pv ov xs) {al : List ActD} (e : xs.map Prod.fst = al) : ActRow w Bo ov al := by
  subst e
  exact ⟨xs, rfl, by rw [List.length_map]; exact h.out, fun x hx => (h.acts x hx).1⟩

/-- bytes that lie apart from the parser's blocks -/
def HoldsApart (w : World) (T : Nat → Prop) (v : Value) (s : List UInt8) : Prop := Holds1 w v (byteVals s) ∧ (0 < s.length → ∀ b off n c, v = .slice (some ⟨b, off, none⟩) n c → ¬ T b)
/-- between two bytes -/
def RPutI (w : World) (q : Nat) (O : Nat → Prop) (S : PS) (bs : List UInt8) (i : Value) (wr : World) : Prop :=
  ∃ k : Nat, k ≤ bs.length ∧ i = .int .i64 k ∧ RpAt wr q w.heap.size (fun k => O k ∨ w.heap.size ≤ k) (rPutP S (bs.take k)).1 (rPutP S (bs.take k)).2 ∧ Touch (Mine q O) w wr
def RPutPost (w : World) (q : Nat) (O : Nat → Prop) (S : PS) (bs : List UInt8) (e : Ending) (w' : World) : Prop :=
  ∃ hv pv v xs, e = .returned v ∧ xs.map Prod.fst = (rPutP S bs).2 ∧ RpIn w' q w.heap.size (fun k => O k ∨ w.heap.size ≤ k) (rPutP S bs).1 hv pv v xs ∧ Touch (Mine q O) w w'
theorem mine_next {w w1 w2 : World} {q : Nat} {O : Nat → Prop} (h : Touch (Mine q O) w w1) (h2 : Touch (Mine q (fun k => O k ∨ w.heap.size ≤ k)) w1 w2) : Touch (Mine q O) w w2 :=
  mine_old ((h.mono fun _ _ t => t.imp id .inl).trans h2)

set_option maxRecDepth 1000000 in
set_option maxHeartbeats 2000000 in
theorem rput_any (w : World) (q : Nat) (O : Nat → Prop) (P S : PS) (hv pv ov : Value) (bs : List UInt8) (bv : Value) (h : RpCore w q O S hv pv ov) (ht : Tied P S) (hb : HoldsApart w (Mine q O) bv bs) (hlen : bs.length ≤ 200000000) :
    Calls Tryd.prog 19 #[.pointer (some ⟨q, 0, none⟩), bv] w (RPutPost w q O S bs) := by
  obtain ⟨⟨A, c, hbv, _, hc⟩, hoff⟩ := hb
  rw [byteVals_length] at hbv hc
  subst hbv
  have c8 : w.cell? ⟨q, 8, none⟩ = some ov := (cell_of_row w q 8 _ _ _ h.row).trans rfl
  have f8 := frozen_of_row w q 8 _ _ h.row
  have HI := Lib.hid (show RPutI w q O S bs (.int .i64 0) (w.setCell ⟨q, 8, none⟩ (.slice none 0 0)) from ⟨0, Nat.zero_le _, rfl, ⟨hv, pv, _, [], rfl, h.begin⟩, mine_set w q O 8 _⟩)
  have HT := Lib.hid ht
  have HC := Lib.hid hc
  have HO := Lib.hid hoff
  clear h ht hc hoff
  generalize hn : bs.length = n at *
  have HN := Lib.hid hn
  clear hn
  go_enter Tryd.func19, Tryd.ntmps19
  go_wp2
  go_loopw [5] (fun i wr => RPutI w q O S bs i wr) (fun i _ => n - (RowKit.intOf i).toNat)
  case atStart => exact HI.out
  case round =>
    obtain ⟨k, hk, rfl, hp, ht⟩ := hrel
    rw [HN.out] at hk
    by_cases hlt : k < n
    · obtain ⟨b, hx⟩ : ∃ b, bs[k]? = some b := ⟨_, List.getElem?_eq_getElem (by rw [HN.out]; exact hlt)⟩
      obtain ⟨bk, off, rfl, hbl, hcell⟩ := HC.out (by omega)
      have hne := HO.out (by omega) bk off n c rfl
      have hl0 : wr.cell? ⟨bk, off + k, none⟩ = some (.int .u8 b.toNat) := (ht.cell (p := ⟨bk, off + k, none⟩) hbl hne).trans (hcell k _ (by simp [byteVals, hx]))
      have htk : bs.take (k + 1) = bs.take k ++ [b] := by rw [List.take_add_one, hx]; rfl
      have HS := Lib.hid (show rPutP S (bs.take (k + 1)) = _ from htk ▸ rPutP_snoc S (bs.take k) b)
      have htk2 := (HT.out.put (bs.take k)).1
      have hll := HT.out.len (bs.take k)
      have hl2 : (bs.take k).length ≤ 200000000 := by rw [List.length_take]; omega
      have CT := Lib.hid (rtake_any wr q w.heap.size _ _ _ b hp (by omega) htk2.held htk2.st13)
      have i1 : (0 : Int) ≤ (k : Int) := by omega
      have i2 : ((k : Int) < (n : Int)) = True := by simp; exact hlt
      have hwk : wrap64 ((k : Int) + 1) = (k : Int) + 1 := by unfold wrap64; omega
      have HLT := Lib.hid hlt
      have HTT := Lib.hid ht
      clear hp hlt hk htk hx ht hbl hcell hne hlen htk2 hll hl2
      generalize rPutP S (bs.take k) = y at *
      go_wp2_with (go_at_call 36; refine (CT.out).mono ?_; rintro e w' ⟨rfl, hp', ht'⟩; have HP2 := Lib.hid hp'; have HT2 := Lib.hid (mine_next HTT.out ht'); clear hp' ht')
      go_roundw
      case rel => exact ⟨k + 1, by have := HLT.out; have := HN.out; omega, by go_num, by rw [HS.out]; exact HP2.out, HT2.out⟩
      case measure => rw [hwk]; clear hwk; have := HLT.out; simp [RowKit.intOf]; omega
    · obtain rfl : k = n := by omega
      have htk : bs.take k = bs := List.take_of_length_le (by rw [HN.out]; omega)
      rw [htk] at hp
      obtain ⟨hv, pv, ov, xs, e1, h1⟩ := hp
      have c8 := h1.cells.c8
      have i2 : ((k : Int) < (k : Int)) = False := by simp
      have H1 := Lib.hid h1
      have HE := Lib.hid e1
      have HTT := Lib.hid ht
      clear hlt hk hlen h1 e1 ht
      go_wp2
      go_ret
      exact ⟨hv, pv, _, xs, rfl, HE.out, H1.out, HTT.out⟩
end

section
open Go.RowKit Go.Shelf Go.Lib
attribute [local go_sem] Oper.semAt_some

abbrev noBlocks : Nat → Prop := fun _ => False
theorem refOk0 : RefOk ps0 := ⟨ps0_ok, fun h => by cases h⟩
set_option maxRecDepth 1000000 in
theorem rnew_any (w : World) : Calls Tryd.prog 17 #[] w fun e w' => e = .returned (.pointer (some ⟨w.heap.size, 0, none⟩)) ∧ RpCore w' w.heap.size noBlocks ps0 (.slice none 0 0) (.slice none 0 0) (.slice none 0 0) ∧ Below w.heap.size w w' := by
  go_enter Tryd.func17, Tryd.ntmps17
  go_wp2
  go_ret
  exact ⟨rfl, ⟨heap_alloc_new w _, .inl ⟨rfl, rfl⟩, World.ownsRow_nil _ _ _ _, fun k hk => (by cases hk), fun k hk => (by cases hk), fun k hk => hk.elim, fun h => h, refOk0⟩, (Below.refl _ _).alloc (Nat.le_refl _) _⟩

/-- what was handed over stays, while the parser goes on -/
theorem RpIn.keepOut {w w' : World} {q Bo : Nat} {O : Nat → Prop} {S : PS} {hv pv ov : Value} {xs : List (ActD × Value)} (h : RpIn w q Bo O S hv pv ov xs) {al : List ActD} (e : xs.map Prod.fst = al) (ht : Touch (Mine q (fun k => OwnOf hv pv k ∨ w.heap.size ≤ k)) w w') : ActRow w' Bo ov al := by
  have hk : ∀ k, k < w.heap.size → k ≠ q → hv.ownBlock ≠ some k → pv.ownBlock ≠ some k → w'.heap[k]? = w.heap[k]? := fun k h1 h2 h3 h4 => ht.block k h1 fun t => by
    rcases t with t | (t | t) | t
    · exact h2 t
    · exact h3 t
    · exact h4 t
    · omega
  have hne : ∀ k, O k → k ≠ q := fun k hk e => h.nq (e ▸ hk)
  subst e
  refine ⟨xs, rfl, ?_, fun x hx => ?_⟩
  · rw [List.length_map]
    refine own_same h.out fun k hb => hk k (own_lt h.out k hb).2 (hne k (h.ownO k hb)) (fun e => ?_) fun e => ?_
    · obtain ⟨c1, k1⟩ := own_kind h.out hb
      obtain ⟨c2, k2⟩ := (h.held.block k e).2.2
      exact kind_ne k2 k1 kinds_ne.2.1
    · obtain ⟨c1, k1⟩ := own_kind h.out hb
      obtain ⟨c2, k2⟩ := own_kind h.ps e
      exact kind_ne k1 k2 kinds_ne.2.2
  · refine own_same (h.acts x hx).1 fun k hb => hk k (own_lt (h.acts x hx).1 k hb).2 (hne k ((h.acts x hx).2 k hb).1) (fun e => ?_) ((h.acts x hx).2 k hb).2
    obtain ⟨c1, k1⟩ := own_kind (h.acts x hx).1 hb
    obtain ⟨c2, k2⟩ := (h.held.block k e).2.2
    exact kind_ne k2 k1 kinds_ne.1

theorem mine_none {w w' : World} {q B : Nat} (hq : B ≤ q) (hB : B ≤ w.heap.size) (ht : Touch (Mine q noBlocks) w w') : Below B w w' :=
  ht.below hB fun k t => t.elim (fun e => by omega) fun e => e.elim
def RAllPost (w : World) (bs : List UInt8) (e : Ending) (w' : World) : Prop := ∃ v', e = .returned v' ∧ ActRow w' w.heap.size v' (rAllP bs) ∧ Below w.heap.size w w'

set_option maxRecDepth 1000000 in
set_option maxHeartbeats 4000000 in
theorem rall_any (w : World) (bs : List UInt8) (bv : Value) (hv : Holds1 w bv (byteVals bs)) (hlen : bs.length ≤ 200000000) : Calls Tryd.prog 15 #[bv] w (RAllPost w bs) := by
  have CN := Lib.hid (rnew_any w)
  have CP : Hid (∀ w1, RpCore w1 w.heap.size noBlocks ps0 (.slice none 0 0) (.slice none 0 0) (.slice none 0 0) → Below w.heap.size w w1 → Calls Tryd.prog 19 #[.pointer (some ⟨w.heap.size, 0, none⟩), bv] w1 (RPutPost w1 w.heap.size noBlocks ps0 bs)) := Lib.hid fun w1 hc hb =>
    rput_any w1 w.heap.size noBlocks ps0 ps0 _ _ _ bs bv hc tied0 ⟨hv.below hb, fun hl b off n c e t => by
      obtain ⟨A, c', e', _, hcell⟩ := hv
      obtain ⟨b0, off0, rfl, hlt, _⟩ := hcell (by rw [byteVals_length]; exact hl)
      rw [e'] at e
      injection e with e1
      injection e1 with e1
      injection e1 with e1
      rcases t with t | t
      · omega
      · exact t.elim⟩ hlen
  have HTI := Lib.hid (tied0.put bs).1
  have HL : Hid ((rPutP ps0 bs).2.length ≤ 300000000) := Lib.hid (by have := tied0.len bs; omega)
  have HA : Hid (rAllP bs = (rPutP ps0 bs).2 ++ (if (rPutP ps0 bs).1.st = 0 then rPrintsP (decAll (rPutP ps0 bs).1.held) else [])) := Lib.hid rfl
  clear hv hlen
  unfold RAllPost
  unfold RPutPost at CP
  generalize rAllP bs = L at *
  generalize rPutP ps0 bs = y at *
  generalize (putPS ps0 bs).1 = yp at *
  obtain ⟨S, al⟩ := y
  simp only at HTI HL HA CP
  by_cases h0 : S.st = 0
  · have HA2 : Hid (L = al ++ rPrintsP (decAll S.held)) := Lib.hid (by rw [HA.out, if_pos h0])
    have H0 := Lib.hid h0
    clear HA h0
    go_enter Tryd.func15, Tryd.ntmps15
    go_upto_region 4 with (first
      | (go_at_call 17; refine (CN.out).mono ?_; rintro e w1 ⟨rfl, hc1, hb1⟩; have HC1 := Lib.hid hc1; have HB1 := Lib.hid hb1; clear hc1 hb1)
      | (go_at_call 19; refine (CP.out _ HC1.out HB1.out).mono ?_; rintro e w2 ⟨hv, pv, v2, xs, rfl, e2, hi2, ht2⟩; have c0 := hi2.cells.c0; rw [H0.out] at c0; have HI2 := Lib.hid hi2; have HE2 := Lib.hid e2; have HB2 := Lib.hid (HB1.out.trans (mine_none (Nat.le_refl _) HB1.out.size ht2)); have HZ2 := Lib.hid ht2.size; clear hi2 e2 ht2))
    have c8 := HI2.out.cells.c8
    have f8 := HI2.out.frozen 8
    have HM := Lib.hid HI2.out.core.begin
    have HT3 := Lib.hid (mine_set w2 w.heap.size (fun k => OwnOf hv pv k ∨ w2.heap.size ≤ k) 8 (.slice none 0 0))
    have CF : Hid (Calls Tryd.prog 32 #[.pointer (some ⟨w.heap.size, 1, none⟩)] (w2.setCell ⟨w.heap.size, 8, none⟩ (.slice none 0 0)) fun e w' => ∃ r, e = .returned r ∧ w'.ownsRow (w2.setCell ⟨w.heap.size, 8, none⟩ (.slice none 0 0)).heap.size 21 1 r (decAll S.held).length (runeVals (decAll S.held)) ∧ RpAt w' w.heap.size w2.heap.size (fun k => OwnOf hv pv k ∨ w2.heap.size ≤ k) (flushed S) [] ∧ Touch (Mine w.heap.size (fun k => OwnOf hv pv k ∨ w2.heap.size ≤ k)) (w2.setCell ⟨w.heap.size, 8, none⟩ (.slice none 0 0)) w') :=
      Lib.hid (RpAt.flushDec ⟨hv, pv, _, [], rfl, HM.out⟩ HTI.out.held)
    have hd := decAll_le S.held
    have hs := HTI.out.held
    have HD : Hid ((decAll S.held).length ≤ 3) := Lib.hid (by omega)
    clear hd hs
    generalize decAll S.held = rs at *
    obtain ⟨A2, cp2, hv2, _⟩ := own_form HI2.out.out
    subst hv2
    go_wp2_with (first
      | (go_at_call 32; refine (CF.out).mono ?_; rintro e w4 ⟨r4, rfl, hr4, hp4, ht4⟩; have HR4 := Lib.hid hr4; have HP4 := Lib.hid hp4; have HT4 := Lib.hid (HT3.out.trans ht4); clear hr4 hp4 ht4)
      | (go_at_call 31; refine (rprints_any w4 _ _ _ _ _ [] rs r4 HP4.out HR4.out (by have := HD.out; simp; omega)).mono ?_; rintro e w5 ⟨rfl, hp5, ht5⟩; obtain ⟨hv5, pv5, ov5, xs5, e5, hi5⟩ := hp5; have k8 := hi5.cells.c8; have HX5 := Lib.hid (hi5.actRow e5); have HT5 := Lib.hid (HT4.out.trans ht5); have HK5 := Lib.hid (HI2.out.keepOut HE2.out (HT4.out.trans ht5)); have HQ := Lib.hid hi5.base; clear ht5 hi5 e5)
      | (at_builtin; refine wpList_append_acts (by rfl) _ _ (by rfl) w1.heap.size w2.heap.size _ _ al _ (by rfl) HK5.out (by rfl) HX5.out HZ2.out (by have := HL.out; have := HD.out; have := rPrints_len rs; simp; omega) (Nat.le_trans HZ2.out HQ.out) ?_; intro v6 w6 hr6 hb6 hg6; have HR6 := Lib.hid hr6; have HB6 := Lib.hid hb6; clear hr6 hb6 hg6))
    go_ret
    refine ⟨_, rfl, ?_, ?_⟩
    · rw [HA2.out]
      exact HR6.out.less HB1.out.size
    · have h5 : Below w.heap.size w2 w5 := HT5.out.below HB2.out.size fun k t => by
        rcases t with t | (t | t) | t
        · omega
        · exact Nat.le_of_lt_succ (by have h := HI2.out.ownH k t; rcases h with h | h; exact h.elim; have := HB1.out.size; omega)
        · exact Nat.le_of_lt_succ (by have h := HI2.out.ownP k t; rcases h with h | h; exact h.elim; have := HB1.out.size; omega)
        · have := HB2.out.size; omega
      exact (HB2.out.trans h5).trans (HB6.out.mono HB1.out.size)
  · have HA2 : Hid (L = al) := Lib.hid (by rw [HA.out, if_neg h0, List.append_nil])
    have H0 : Hid (((S.st : Int) == 0) = false) := Lib.hid (beq_eq_false_iff_ne.2 (by omega))
    clear HA h0
    go_enter Tryd.func15, Tryd.ntmps15
    go_wp2_with (first
      | (go_at_call 17; refine (CN.out).mono ?_; rintro e w1 ⟨rfl, hc1, hb1⟩; have HC1 := Lib.hid hc1; have HB1 := Lib.hid hb1; clear hc1 hb1)
      | (go_at_call 19; refine (CP.out _ HC1.out HB1.out).mono ?_; rintro e w2 ⟨hv, pv, v2, xs, rfl, e2, hi2, ht2⟩; have c0 := hi2.cells.c0; have g0 := H0.out; have HI2 := Lib.hid hi2; have HE2 := Lib.hid e2; have HB2 := Lib.hid (HB1.out.trans (mine_none (Nat.le_refl _) HB1.out.size ht2)); have HZ2 := Lib.hid ht2.size; clear hi2 e2 ht2))
    go_ret
    refine ⟨_, rfl, ?_, HB2.out⟩
    rw [HA2.out]
    exact (HI2.out.actRow HE2.out).less HB1.out.size

set_option maxRecDepth 1000000 in
theorem rground_any (w : World) (q : Nat) (O : Nat → Prop) (S : PS) (hv pv ov : Value) (h : RpCore w q O S hv pv ov) : Calls Tryd.prog 21 #[.pointer (some ⟨q, 0, none⟩)] w fun e w' => e = .returned (.bool (groundP S)) ∧ w = w' := by
  have c0 : w.cell? ⟨q, 0, none⟩ = some (.int .i64 S.st) := (cell_of_row w q 0 _ _ _ h.row).trans rfl
  have c1 : w.cell? ⟨q, 1, none⟩ = some hv := (cell_of_row w q 1 _ _ _ h.row).trans rfl
  obtain ⟨A, c, hvs⟩ := h.held.shape
  subst hvs
  clear h
  by_cases hs : S.st = 0
  · rw [hs] at c0
    by_cases hh : S.held = []
    · have e : groundP S = true := by simp [groundP, hs, hh]
      rw [e]
      rw [hh] at c1
      clear e hs hh
      go_enter Tryd.func21, Tryd.ntmps21
      go_wp2
      go_ret
      exact ⟨rfl, rfl⟩
    · have e : groundP S = false := by simp [groundP, hh]
      rw [e]
      have hne : ((S.held.length : Int) == 0) = false := beq_eq_false_iff_ne.2 (by have := List.length_pos_iff.2 hh; omega)
      clear e hs hh
      generalize S.held.length = n at *
      go_enter Tryd.func21, Tryd.ntmps21
      go_wp2
      go_ret
      exact ⟨rfl, rfl⟩
  · have e : groundP S = false := by simp [groundP, hs]
    rw [e]
    have hne : ((S.st : Int) == 0) = false := beq_eq_false_iff_ne.2 (by omega)
    clear e hs
    go_enter Tryd.func21, Tryd.ntmps21
    go_wp2
    go_ret
    exact ⟨rfl, rfl⟩
end
end

section
open Go.RowKit Go.Shelf Go.Lib
attribute [local go_sem] Oper.semAt_some

theorem ref_all_eq (l : List UInt8) : rAllP l = allP l := ref_all l (hok_put l hok0).2
set_option maxRecDepth 1000000 in
set_option maxHeartbeats 2000000 in
theorem all_walk (w : World) (bs : List UInt8) (a : Option Addr) (n c : Nat) (hT : Tabs w) (hv : Holds1 w (.slice a n c) (byteVals bs)) (hlen : bs.length ≤ 100000000) :
    Calls Tryd.prog 3 #[.slice a n c] w fun e w' => e = .returned (.bool true) ∧ Below w.heap.size w w' := by
  have CL := Lib.hid (live_any w hT)
  have CA := Lib.hid fun W (hW : Below w.heap.size w W) => all_any W bs (.slice a n c) (hT.below hW) (hv.below hW) (by omega) (by have := many_le bs; omega)
  have CR := Lib.hid fun W (hW : Below w.heap.size w W) => rall_any W bs (.slice a n c) (hv.below hW) (by omega)
  have HL : Hid ((allP bs).length ≤ 1000000000) := Lib.hid (by have := (all_ok bs).2; omega)
  clear hT hv hlen
  unfold LivePost at CL
  unfold AllPost at CA
  unfold RAllPost at CR
  rw [ref_all_eq] at CR
  generalize allP bs = L at *
  go_enter Tryd.func3, Tryd.ntmps3
  go_wp2_with (first
    | (go_at_call 12; refine (CL.out).mono ?_; rintro e w1 ⟨rfl, hb1⟩; have HB1 := Lib.hid hb1; clear hb1)
    | (go_at_call 14; refine (CA.out _ HB1.out).mono ?_; rintro e w2 ⟨v2, rfl, hr2, hb2⟩; have HR2 := Lib.hid hr2; have HB2 := Lib.hid (HB1.out.trans (hb2.mono HB1.out.size)); clear hr2 hb2)
    | (go_at_call 15; refine (CR.out _ HB2.out).mono ?_; rintro e w3 ⟨v3, rfl, hr3, hb3⟩; have HR3 := Lib.hid hr3; have HQ3 := Lib.hid (HR2.out.touch (Touch.of_below (T := fun _ => False) hb3) fun k hk => hk.elim); have HB3 := Lib.hid (HB2.out.trans (hb3.mono HB2.out.size)); clear hr3 hb3)
    | (go_at_call 13; refine (refSame_eq _ _ _ _ _ _ HQ3.out HR3.out HL.out).mono ?_; rintro e w4 ⟨rfl, hb4⟩; have HB4 := Lib.hid (HB3.out.trans (hb4.mono HB3.out.size)); clear hb4))
  go_ret
  exact ⟨rfl, HB4.out⟩
end
end Go.Proofs.YtjoiagaadofndaaDoor
