/-
  What the document's own decoder returns and holds behind Put and Flush, for every decoder and every slice of bytes.
-/
import Derived.Test.YtalfodcjpnjmaaaDoorPieceM
import Derived.Test.YtalfodcjpnjmaaaDoorRefRunes
namespace Go.Proofs.YtalfodcjpnjmaaaDoor
open Go.RowKit Go.Lib

theorem headFrom_snd (s : List UInt8) (N f : Nat) : ∀ h, (headFrom s N f h).2 = N := by
  induction f with
  | zero => intro h; rfl
  | succ f ih =>
    intro h
    simp only [headFrom]
    split
    · split
      · rfl
      · exact ih _
    · rfl
theorem headP_zero (s : List UInt8) (h : (headP s).2 = 0) : (headP s).1 = 0 := by
  unfold headP at h ⊢
  split
  · rfl
  · split
    · rfl
    · next h0 h1 =>
      rw [if_neg h0, if_neg h1, headFrom_snd] at h
      exact absurd h h1

/-- what Put leaves -/
def RefPutPost (w : World) (q base : Nat) (B : Value) (s : List UInt8) (e : Ending) (w' : World) : Prop :=
  ∃ r B', e = .returned r ∧ w'.ownsRow w.heap.size 21 1 r (putAll s).1.length (runeVals (putAll s).1) ∧ RefAt w' q B' ∧ OwnsAt w' base B' (putAll s).2 ∧ Only2 w w' q B.ownBlock

/-- the loop of Put -/
def RefRel (S : List UInt8) (w : World) (q base : Nat) (l : Value) (wr : World) : Prop :=
  ∃ (rest : List UInt8) (out : List Int) (A : Option Addr) (c : Nat), RefAt wr q (.slice A rest.length c) ∧ OwnsAt wr base (.slice A rest.length c) rest ∧ out ++ (putAll rest).1 = (putAll S).1 ∧ (putAll rest).2 = (putAll S).2 ∧
    rest.length + out.length ≤ S.length ∧ wr.ownsRow w.heap.size 21 1 l out.length (runeVals out) ∧ (∀ a, A = some a → a.block < w.heap.size) ∧ Only2 w wr q none

/-- a round that tells a rune: the row grew (w4), then the decoder was written -/
theorem ref_step {S rest : List UInt8} {out : List Int} {w wr w4 : World} {q base k x c m m' : Nat} {A A' : Option Addr} {v' : Value} (hqb : q < base) (hbw : base ≤ w.heap.size) (hk : 1 ≤ k) (hlen : rest.length + out.length ≤ S.length) (hkr : k ≤ rest.length)
    (hm : m = rest.length - k) (hm' : m' = c - k) (hA : A' = cutA A c k) (hq : RefAt wr q (.slice A rest.length c)) (hB : OwnsAt wr base (.slice A rest.length c) rest) (HO : out ++ (putAll rest).1 = (putAll S).1) (HO2 : (putAll rest).2 = (putAll S).2)
    (HS : putAll rest = ((x : Int) :: (putAll (rest.drop k)).1, (putAll (rest.drop k)).2)) (hfr : Only2 w wr q none) (hAl : ∀ a, A = some a → a.block < w.heap.size)
    (hown : w4.ownsRow w.heap.size 21 1 v' (out.length + 1) (runeVals out ++ [.int .i32 (x : Int)])) (hb : Below w.heap.size wr w4) :
    RefRel S w q base v' (w4.setCell ⟨q, 0, none⟩ (.slice A' m m')) := by
  subst hm hm' hA
  have hqw : q < w.heap.size := by omega
  have hq4 : RefAt w4 q (.slice A rest.length c) := (hb.block q hqw).trans hq
  have hd : rest.length - k = (rest.drop k).length := by rw [List.length_drop]
  have hB4 := (hB.kept (w' := w4) fun j hj => hb.block j (by
    cases A with
    | none => cases hj
    | some a =>
      injection hj with hj
      subst hj
      exact hAl a rfl)).cut hkr
  rw [hd] at hB4 ⊢
  refine ⟨rest.drop k, out ++ [(x : Int)], cutA A c k, c - k, hq4.set _, ?_, ?_, ?_, ?_, ?_, ?_, ?_⟩
  · refine hB4.kept fun j hj => Below.heap_setCell w4 ⟨q, 0, none⟩ _ j ?_
    have := (hB4.block j hj).1
    show j ≠ q
    omega
  · rw [← HO, HS]; simp
  · rw [← HO2, HS]
  · rw [List.length_drop, List.length_append, List.length_singleton]; omega
  · have := ownsRow_setCell_below hown (a := ⟨q, 0, none⟩) hqw (.slice (cutA A c k) (rest.drop k).length (c - k))
    simpa [runeVals] using this
  · intro a ha
    unfold cutA at ha
    split at ha
    · exact hAl a ha
    · cases A with
      | none => cases ha
      | some a0 =>
        have : a0.add k = a := by simpa using ha
        subst this
        have := hAl a0 rfl
        unfold Addr.add
        split <;> exact this
  · refine ⟨hb.os.trans hfr.os, hb.tape.trans hfr.tape, hb.output.trans hfr.output, Nat.le_trans hfr.size (Nat.le_trans hb.size (by simp [World.setCell])), fun j hj h1 h2 => ?_⟩
    exact (Below.heap_setCell w4 ⟨q, 0, none⟩ _ j h1).trans ((hb.block j hj).trans (hfr.block j hj h1 h2))

set_option maxRecDepth 100000 in
set_option maxHeartbeats 4000000 in
theorem refPut_any (s h : List UInt8) (v B : Value) (q base : Nat) (w : World) (hq : RefAt w q B) (hqb : q < base) (hbw : base ≤ w.heap.size) (hB : OwnsAt w base B h) (hv : Holds1 w v (byteVals s)) (hroom : h.length + s.length ≤ 400000000) :
    Calls Tryd.prog 32 #[.pointer (some ⟨q, 0, none⟩), v] w (RefPutPost w q base B (h ++ s)) := by
  obtain ⟨i5, hi5, hz50, hz51, hz52⟩ := info_parts info_byte
  obtain ⟨i21, hi21, hz210, hz211, hz212⟩ := info_parts info_rune
  have hc0 := hq.cell
  have HQ := Lib.hid hq
  have HB := Lib.hid hB
  have HV := Lib.hid hv
  clear hq hB hv
  go_enter Tryd.func32, Tryd.ntmps32
  go_wp2_with (at_builtin; refine append_at w rfl _ _ 22 rfl base i5 (.int .u8 0) Tryd.underlying22 hi5 hz50 hz51 hz52 rfl B h rfl (by exact HB.out) v s rfl (by exact HV.out) (by omega) hbw ?_; intro B1 w1 hB1 hg1; obtain ⟨A1, c1, rfl⟩ := hB1.shape; have HB1 := Lib.hid hB1; have HG1 := Lib.hid hg1; have hq1 : RefAt w1 q B := (hg1.block q HQ.out.lt (fun e => by have := (HB.out.block q e.symm).1; omega)).trans HQ.out; have hc1 := hq1.cell; have hf1 := hq1.frozen; have HQ1 := Lib.hid hq1; clear hB1 hg1 hq1)
  have hL : (h ++ s).length = h.length + s.length := List.length_append
  have hq2 := HQ1.out.set (.slice A1 (h.length + s.length) c1)
  have hB2 : OwnsAt (w1.setCell ⟨q, 0, none⟩ (.slice A1 (h.length + s.length) c1)) base (.slice A1 (h ++ s).length c1) (h ++ s) := HB1.out.kept fun j hj => Below.heap_setCell w1 ⟨q, 0, none⟩ _ j (by have := (HB1.out.block j hj).1; show j ≠ q; omega)
  have hf2 : Only2 w (w1.setCell ⟨q, 0, none⟩ (.slice A1 (h.length + s.length) c1)) q B.ownBlock := (Only2.of_grown HG1.out).trans (Only2.set _ _ _ _)
  have hl2 : (h ++ s).length ≤ 400000000 := by rw [List.length_append]; exact hroom
  generalize w1.setCell ⟨q, 0, none⟩ (.slice A1 (h.length + s.length) c1) = wS at *
  rw [← hL] at hq2
  clear hL
  generalize h ++ s = S at *
  clear hc0 hc1 hf1 HQ1 HB1 HG1 HQ HB HV hroom
  have HQ2 := Lib.hid hq2
  have HB2 := Lib.hid hB2
  have HF2 := Lib.hid hf2
  have hs2 := hf2.size
  clear hq2 hB2 hf2
  go_loopw [5] (fun l wr => RefRel S wS q base l wr) (fun _ wr => lenOf ((wr.cell? ⟨q, 0, none⟩).getD (.slice none 0 0)))
  case atStart => exact ⟨S, [], A1, c1, HQ2.out, HB2.out, rfl, rfl, by simp, World.ownsRow_nil _ _ _ _, fun a ha => (by subst ha; exact (HB2.out.block _ rfl).2.1), Only2.refl _ _ _⟩
  case round =>
    obtain ⟨rest, out, A, c, hq, hB, hout, hout2, hlen, hown, hAl, hfr⟩ := hrel
    have hcell := hq.cell
    have hfro := hq.frozen
    have HO := Lib.hid hout
    have HO2 := Lib.hid hout2
    have HW := Lib.hid hown
    have HQ := Lib.hid hq
    have HB := Lib.hid hB
    have HA := Lib.hid hAl
    have HF := Lib.hid hfr
    have hsz := hfr.size
    clear hout hout2 hown hq hB hAl hfr
    by_cases hlt : rest = []
    · subst hlt
      go_wp2
      go_ret
      have e1 : (putAll S).1 = out := by rw [← HO.out, putAll_stop fullP_nil]; simp
      have e2 : (putAll S).2 = [] := by rw [← HO2.out, putAll_stop fullP_nil]
      refine ⟨_, _, rfl, ?_, HQ.out, by rw [e2]; exact HB.out, HF2.out.trans (HF.out.more _)⟩
      rw [e1]
      exact own_base HW.out hs2
    · have hp : 0 < rest.length := List.length_pos_iff.2 hlt
      have hqw : q < wS.heap.size := by omega
      have CH := Lib.hid (head_any rest A c wr HB.out.holds (by omega))
      have hcl : rest.length ≤ c := by
        obtain ⟨A', c', e, hc, _⟩ := HB.out.holds
        injection e with e1 e2 e3
        subst e3
        simpa [byteVals] using hc.1
      have hroom' : (out.length + 1) * 4 ≤ 140737488355328 := by omega
      have h63 : out.length + 1 ≤ maxLen := by unfold maxLen; omega
      have HM := Lib.hid hroom'
      have hkeep : ∀ W, Below wS.heap.size wr W → W.cell? ⟨q, 0, none⟩ = some (.slice A rest.length c) ∧ W.frozen? ⟨q, 0, none⟩ = false := fun W hW => ⟨(hW.cell (p := ⟨q, 0, none⟩) hqw).trans hcell, (hW.frozen (p := ⟨q, 0, none⟩) hqw).trans hfro⟩
      have HK := Lib.hid hkeep
      have hfw := full_waits rest hlt
      clear hroom' hkeep
      by_cases hf : isFull rest = true
      · have hstep := putAll_step (r := rest) (by rw [hfw, hf]; rfl)
        obtain ⟨q1, q2, q3, q4, q5⟩ := full_facts hlt hf
        rw [q5] at hstep
        have HS := Lib.hid hstep
        rw [q1] at CH
        have CV := Lib.hid (fun W (hW : Below wr.heap.size wr W) c' => value_of rest A c (headP rest).2 W (HB.out.holds.below hW) q2 q3 q4 c')
        clear hstep q5 hf q1 hlt hfw
        generalize (headP rest).2 = k at *
        generalize valN k (byteAt rest 0) (byteAt rest 1) (byteAt rest 2) (byteAt rest 3) = x at *
        have hk0 : (0 : Int) < (k : Int) := by omega
        rcases Decidable.em (c = k) with rfl | hck
        all_goals
          go_wp2_with (first
            | (go_at_call 38; refine (CH.out).mono ?_; rintro e w1 ⟨rfl, hd1⟩; have hb1 := hd1.below; obtain ⟨hc1, hf1⟩ := HK.out w1 (hb1.mono hsz); clear hd1)
            | (go_at_call 39; refine (CV.out _ (by exact hb1) _).mono ?_; rintro e w2 ⟨rfl, hd2⟩; have hb2 := hd2.below; clear hd2)
            | (at_builtin; refine append_one w2 rfl _ _ 23 rfl wS.heap.size 21 i21 (.int .i32 0) 4 Tryd.underlying23 hi21 hz210 hz211 hz212 rfl _ out.length (runeVals out) rfl (by exact own_below (own_below HW.out hb1) hb2) (.int .i32 x) rfl rfl h63 HM.out (Nat.le_trans hsz (Nat.le_trans hb1.size hb2.size)) ?_; intro v' w3 hown' hb3; have hB3 := (hb1.mono hsz).trans ((hb2.mono (Nat.le_trans hsz hb1.size)).trans hb3); obtain ⟨hc3, hf3⟩ := HK.out w3 hB3))
          go_roundw
          case rel => exact ref_step (A := A) (c := c) hqb (by omega) q2 hlen q4 (by omega) (by omega) (by simp [cutA, *]) HQ.out HB.out HO.out HO2.out HS.out HF.out HA.out hown' hB3
          case measure =>
            have h3 : RefAt w3 q (.slice A rest.length _) := (hB3.block q hqw).trans HQ.out
            rw [(h3.set _).cell, HQ.out.cell]
            simp [lenOf]
            omega
      · have hno : ¬ ((headP rest).1 = (headP rest).2 ∧ 0 < (headP rest).2) := by simpa [isFull] using hf
        have hz := headP_zero rest
        have hff : isFull rest = false := by simpa using hf
        by_cases hw : waits rest = true
        · have HS := Lib.hid (putAll_stop (r := rest) (by rw [hfw, hff, hw]; rfl))
          have hw' : 0 < (headP rest).1 ∧ (headP rest).1 = rest.length := by simpa [waits] using hw
          obtain ⟨hw1, hw2⟩ := hw'
          clear hfw hf hw hff hlt
          generalize (headP rest).1 = a at *
          generalize (headP rest).2 = n at *
          have hq : ((a : Int) == (n : Int)) = false := by rw [beq_eq_false_iff_ne]; omega
          have hn0 : 0 < n := by omega
          clear hno hz
          go_wp2_with (go_at_call 38; refine (CH.out).mono ?_; rintro e w1 ⟨rfl, hd1⟩; have hb1 := hd1.below; obtain ⟨hc1, hf1⟩ := HK.out w1 (hb1.mono hsz); clear hd1)
          go_ret
          have e1 : (putAll S).1 = out := by rw [← HO.out, HS.out]; simp
          have e2 : (putAll S).2 = rest := by rw [← HO2.out, HS.out]
          refine ⟨_, _, rfl, ?_, HQ.out.below hb1, by rw [e2]; exact HB.out.below hb1, HF2.out.trans ((HF.out.trans (Only2.of_below hb1)).more _)⟩
          rw [e1]
          exact own_base (own_below HW.out hb1) hs2
        · have hww : waits rest = false := by simpa using hw
          have hstep := putAll_step (r := rest) (by rw [hfw, hff, hww]; rfl)
          have hd := head_dec rest hlt
          rw [if_neg hf] at hd
          rw [hd] at hstep
          have HS := Lib.hid hstep
          have hw' : ¬ (0 < (headP rest).1 ∧ (headP rest).1 = rest.length) := by simpa [waits] using hw
          clear hfw hf hw hff hlt hww hstep hd
          generalize (headP rest).1 = a at *
          generalize (headP rest).2 = n at *
          have hcase : (a = 0 ∧ n = 0) ∨ (a = 0 ∧ 0 < n) ∨ (0 < a ∧ 0 < n ∧ a ≠ n ∧ a ≠ rest.length) := by omega
          clear hno hz hw'
          rcases hcase with ⟨rfl, rfl⟩ | ⟨rfl, h1⟩ | ⟨h1, h2, h3, h4⟩
          · rcases Decidable.em (c = 1) with rfl | hck
            all_goals
              go_wp2_with (first
                  | (go_at_call 38; refine (CH.out).mono ?_; rintro e w1 ⟨rfl, hd1⟩; have hb1 := hd1.below; obtain ⟨hc1, hf1⟩ := HK.out w1 (hb1.mono hsz); clear hd1)
                  | (at_builtin; refine append_one w1 rfl _ _ 23 rfl wS.heap.size 21 i21 (.int .i32 0) 4 Tryd.underlying23 hi21 hz210 hz211 hz212 rfl _ out.length (runeVals out) rfl (by exact own_below HW.out hb1) (.int .i32 (65533 : Nat)) rfl rfl h63 HM.out (Nat.le_trans hsz hb1.size) ?_; intro v' w3 hown' hb3; have hB3 := (hb1.mono hsz).trans hb3; obtain ⟨hc3, hf3⟩ := HK.out w3 hB3))
              go_roundw
              case rel => exact ref_step (A := A) (k := 1) (x := 65533) hqb (by omega) (by omega) hlen (by omega) (by omega) (by first | rfl | omega) (by simp [cutA, Addr.add, *]) HQ.out HB.out HO.out HO2.out HS.out HF.out HA.out hown' hB3
              case measure =>
                have h3 : RefAt w3 q (.slice A rest.length _) := (hB3.block q hqw).trans HQ.out
                rw [(h3.set _).cell, HQ.out.cell]
                simp [lenOf]
                omega
          · have hq : ((0 : Int) == (n : Int)) = false := by rw [beq_eq_false_iff_ne]; omega
            rcases Decidable.em (c = 1) with rfl | hck
            all_goals
              go_wp2_with (first
                  | (go_at_call 38; refine (CH.out).mono ?_; rintro e w1 ⟨rfl, hd1⟩; have hb1 := hd1.below; obtain ⟨hc1, hf1⟩ := HK.out w1 (hb1.mono hsz); clear hd1)
                  | (at_builtin; refine append_one w1 rfl _ _ 23 rfl wS.heap.size 21 i21 (.int .i32 0) 4 Tryd.underlying23 hi21 hz210 hz211 hz212 rfl _ out.length (runeVals out) rfl (by exact own_below HW.out hb1) (.int .i32 (65533 : Nat)) rfl rfl h63 HM.out (Nat.le_trans hsz hb1.size) ?_; intro v' w3 hown' hb3; have hB3 := (hb1.mono hsz).trans hb3; obtain ⟨hc3, hf3⟩ := HK.out w3 hB3))
              go_roundw
              case rel => exact ref_step (A := A) (k := 1) (x := 65533) hqb (by omega) (by omega) hlen (by omega) (by omega) (by first | rfl | omega) (by simp [cutA, Addr.add, *]) HQ.out HB.out HO.out HO2.out HS.out HF.out HA.out hown' hB3
              case measure =>
                have h3 : RefAt w3 q (.slice A rest.length _) := (hB3.block q hqw).trans HQ.out
                rw [(h3.set _).cell, HQ.out.cell]
                simp [lenOf]
                omega
          · have hq : ((a : Int) == (n : Int)) = false := by rw [beq_eq_false_iff_ne]; omega
            have hq' : ((a : Int) == (rest.length : Int)) = false := by rw [beq_eq_false_iff_ne]; omega
            rcases Decidable.em (c = 1) with rfl | hck
            all_goals
              go_wp2_with (first
                  | (go_at_call 38; refine (CH.out).mono ?_; rintro e w1 ⟨rfl, hd1⟩; have hb1 := hd1.below; obtain ⟨hc1, hf1⟩ := HK.out w1 (hb1.mono hsz); clear hd1)
                  | (at_builtin; refine append_one w1 rfl _ _ 23 rfl wS.heap.size 21 i21 (.int .i32 0) 4 Tryd.underlying23 hi21 hz210 hz211 hz212 rfl _ out.length (runeVals out) rfl (by exact own_below HW.out hb1) (.int .i32 (65533 : Nat)) rfl rfl h63 HM.out (Nat.le_trans hsz hb1.size) ?_; intro v' w3 hown' hb3; have hB3 := (hb1.mono hsz).trans hb3; obtain ⟨hc3, hf3⟩ := HK.out w3 hB3))
              go_roundw
              case rel => exact ref_step (A := A) (k := 1) (x := 65533) hqb (by omega) (by omega) hlen (by omega) (by omega) (by first | rfl | omega) (by simp [cutA, Addr.add, *]) HQ.out HB.out HO.out HO2.out HS.out HF.out HA.out hown' hB3
              case measure =>
                have h3 : RefAt w3 q (.slice A rest.length _) := (hB3.block q hqw).trans HQ.out
                rw [(h3.set _).cell, HQ.out.cell]
                simp [lenOf]
                omega

theorem refFlush_any (h : List UInt8) (B : Value) (q base : Nat) (w : World) (hq : RefAt w q B) (hB : OwnsAt w base B h) (hroom : h.length ≤ 400000000) :
    Calls Tryd.prog 35 #[.pointer (some ⟨q, 0, none⟩)] w fun e w' => ∃ r, e = .returned r ∧ w'.ownsRow w.heap.size 21 1 r (decAll h).length (runeVals (decAll h)) ∧ RefAt w' q (.slice none 0 0) ∧ Only2 w w' q none := by
  have hc := hq.cell
  have HQ := Lib.hid hq
  have CR := Lib.hid (refRunes_any h B w hB.holds (by omega))
  clear hq hB
  go_enter Tryd.func35, Tryd.ntmps35
  go_wp2_with (go_at_call 12; refine (CR.out).mono ?_; rintro e w1 ⟨r1, rfl, ho1, hb1⟩; have hc1 := (HQ.out.below hb1).cell; have hf1 := (HQ.out.below hb1).frozen; have HO := Lib.hid ho1; clear ho1)
  go_ret
  exact ⟨_, rfl, ownsRow_setCell_below HO.out (a := ⟨q, 0, none⟩) HQ.out.lt _, (HQ.out.below hb1).set _, (Only2.of_below hb1).trans (Only2.set _ _ _ _)⟩

end Go.Proofs.YtalfodcjpnjmaaaDoor
