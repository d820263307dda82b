/-
  The motions, as the document has them.
-/
import Derived.Test.YtepbhmebidmnbaaDoorBfRefK
import Derived.Test.YtepbhmebidmnbaaDoorBfMot2
namespace Go.Proofs.YtepbhmebidmnbaaDoor
open Go.RowKit Go.Shelf Go.Lib
attribute [local go_sem] Oper.semAt_some

theorem refLetter1_any (r : Int) (w : World) : Calls Tryd.prog 70 #[.int .i32 r] w fun e w' => e = .returned (.bool (letter r)) ∧ Below w.heap.size w w' := by
  rw [letter_letQ]
  exact refLetter_any r w
set_option maxRecDepth 1000000 in
theorem refBlank_any (r : Int) (w : World) : Calls Tryd.prog 72 #[.int .i32 r] w fun e w' => e = .returned (.bool (blankP r)) ∧ Below w.heap.size w w' := by
  by_cases h1 : r = 32
  · subst h1
    go_enter Tryd.func72, Tryd.ntmps72
    go_wp2
    go_ret
    exact ⟨rfl, Below.refl _ _⟩
  · have i0 : (r == 32) = false := by simpa using h1
    have i1 : (r = 32) = False := by simpa using h1
    by_cases h2 : r = 9
    · subst h2
      go_enter Tryd.func72, Tryd.ntmps72
      go_wp2
      go_ret
      exact ⟨rfl, Below.refl _ _⟩
    · have i2 : (r == 9) = false := by simpa using h2
      have i3 : (r = 9) = False := by simpa using h2
      have HB : Hid (blankP r = false) := Lib.hid (by unfold blankP; simp [h1, h2])
      clear h1 h2
      go_enter Tryd.func72, Tryd.ntmps72
      go_wp2
      go_ret
      exact ⟨by rw [HB.out]; rfl, Below.refl _ _⟩
set_option maxRecDepth 1000000 in
theorem cut_any (w : World) (A : Option Addr) (n c : Nat) (k : Int) : Calls Tryd.prog 65 #[.slice A n c, .int .i64 k] w fun e w' => e = .returned (.int .i64 (placeN n k : Int)) ∧ w = w' := by
  have h1 : min (max k 0) (n : Int) = (placeN n k : Int) := by unfold placeN; omega
  go_enter Tryd.func65, Tryd.ntmps65
  go_wp2
  go_ret
  exact ⟨by rw [← h1]; rfl, rfl⟩
def NotP (p : Int → Bool) : Int → Bool := fun r => !p r
set_option maxRecDepth 1000000 in
set_option maxHeartbeats 8000000 in
theorem refWordEnd_any (w : World) (l : List Int) (A : Option Addr) (c : Nat) (hl : Holds1 w (.slice A l.length c) (runeVals l)) (hlen : l.length ≤ 140737488355328) (k : Int) :
    Calls Tryd.prog 26 #[.slice A l.length c, .int .i64 k] w fun e w' => e = .returned (.int .i64 (wordEndP l k : Int)) ∧ Below w.heap.size w w' := by
  have CP := Lib.hid (cut_any w A l.length c k)
  have HQs := Lib.hid (placeN_le l.length k)
  have HFIN0 : wordEndP l k = (aheadN l letter (aheadN l (fun r => !letter r) (placeN l.length k))) := rfl
  generalize placeN l.length k = q0 at *
  have HFIN := Lib.hid HFIN0
  have HL := Lib.hid hl
  have HLEN := Lib.hid hlen
  have Bs := Lib.hid (Below.refl w.heap.size w)
  clear hl hlen HFIN0
  go_enter Tryd.func26, Tryd.ntmps26
  go_wp2_with (go_at_call 65; refine (CP.out).mono ?_; rintro e w1 ⟨rfl, rfl⟩)
  go_loopw [1] (fun v1 wr => ∃ qa, In2 w l (fun r => !letter r) q0 v1 wr qa) (fun v1 _ => l.length - (RowKit.intOf v1).toNat)
  case atStart => exact ⟨q0, ⟨HQs.out, rfl, rfl, Bs.out⟩⟩
  case round =>
    obtain ⟨qa, hJ⟩ := hrel
    obtain ⟨hq, rfl, heq, hb2⟩ := hJ
    have HE := Lib.hid heq
    have BI := Lib.hid hb2
    by_cases hql : qa < l.length
    · obtain ⟨rb, off, rfl, hlt, hcr⟩ := rune_cell (HL.out.below hb2) hql
      have j1 : (0 : Int) ≤ (qa : Int) := by omega
      have j2 : ((qa : Int) < (l.length : Int)) = True := by simp; exact hql
      have hwq : wrap64 ((qa : Int) + 1) = (qa : Int) + 1 := by have := HLEN.out; unfold wrap64; omega
      by_cases hpv : (fun r => !letter r) l[qa] = true
      · have HPV : Hid (letter l[qa] = false) := Lib.hid (by simpa [NotP] using hpv)
        have HSTEP : Hid (aheadN l (fun r => !letter r) (qa + 1) = aheadN l (fun r => !letter r) q0) := Lib.hid ((aheadN_step hql hpv).symm.trans heq)
        have HQN := Lib.hid hql
        generalize l[qa] = x at *
        clear hpv heq hb2 hq hql hlt
        go_wp2_with (go_at_call 70; refine (refLetter1_any x _).mono ?_; rintro e w2 ⟨rfl, hb3⟩; have Ba := Lib.hid (BI.out.trans (hb3.mono BI.out.size)); rw [HPV.out]; clear hb3)
        go_roundw
        case rel => exact ⟨qa + 1, ⟨HQN.out, next_val hwq, HSTEP.out, Ba.out⟩⟩
        case measure => exact measure_lt HQN.out hwq
      · have hpv' : (fun r => !letter r) l[qa] = false := by simpa using hpv
        have HPV : Hid (letter l[qa] = true) := Lib.hid (by simpa [NotP] using hpv')
        have HSa : Hid (aheadN l (fun r => !letter r) q0 = qa) := Lib.hid (heq.symm.trans (aheadN_stop hql hpv'))
        have HQa : Hid (qa ≤ l.length) := Lib.hid hq
        generalize l[qa] = x at *
        clear hpv hpv' heq hb2 hq hql hlt HE
        go_wp2_with (go_at_call 70; refine (refLetter1_any x _).mono ?_; rintro e w2 ⟨rfl, hb3⟩; have Ba := Lib.hid (BI.out.trans (hb3.mono BI.out.size)); rw [HPV.out]; clear hb3)
        go_loopw [1] (fun v1 wr => ∃ qb, In2 w l letter qa v1 wr qb) (fun v1 _ => l.length - (RowKit.intOf v1).toNat)
        case atStart => exact ⟨qa, ⟨HQa.out, rfl, rfl, Ba.out⟩⟩
        case round =>
          obtain ⟨qb, hJ⟩ := hrel
          obtain ⟨hq, rfl, heq, hb2⟩ := hJ
          have HE := Lib.hid heq
          have BI := Lib.hid hb2
          by_cases hql : qb < l.length
          · obtain ⟨rb2, off2, hA, hlt, hcr⟩ := rune_cell (HL.out.below hb2) hql
            obtain ⟨rfl, rfl⟩ : rb = rb2 ∧ off = off2 := by simpa using hA
            have j1 : (0 : Int) ≤ (qb : Int) := by omega
            have j2 : ((qb : Int) < (l.length : Int)) = True := by simp; exact hql
            have hwq : wrap64 ((qb : Int) + 1) = (qb : Int) + 1 := by have := HLEN.out; unfold wrap64; omega
            by_cases hpv : letter l[qb] = true
            · have HPV : Hid (letter l[qb] = true) := Lib.hid (hpv)
              have HSTEP : Hid (aheadN l letter (qb + 1) = aheadN l letter qa) := Lib.hid ((aheadN_step hql hpv).symm.trans heq)
              have HQN := Lib.hid hql
              generalize l[qb] = x at *
              clear hpv heq hb2 hq hql hlt
              go_wp2_with (go_at_call 70; refine (refLetter1_any x _).mono ?_; rintro e w2 ⟨rfl, hb3⟩; have Bb := Lib.hid (BI.out.trans (hb3.mono BI.out.size)); rw [HPV.out]; clear hb3)
              go_roundw
              case rel => exact ⟨qb + 1, ⟨HQN.out, next_val hwq, HSTEP.out, Bb.out⟩⟩
              case measure => exact measure_lt HQN.out hwq
            · have hpv' : letter l[qb] = false := by simpa using hpv
              have HPV : Hid (letter l[qb] = false) := Lib.hid (hpv')
              have HSb : Hid (aheadN l letter qa = qb) := Lib.hid (heq.symm.trans (aheadN_stop hql hpv'))
              have HQb : Hid (qb ≤ l.length) := Lib.hid hq
              generalize l[qb] = x at *
              clear hpv hpv' heq hb2 hq hql hlt HE
              go_wp2_with (go_at_call 70; refine (refLetter1_any x _).mono ?_; rintro e w2 ⟨rfl, hb3⟩; have Bb := Lib.hid (BI.out.trans (hb3.mono BI.out.size)); rw [HPV.out]; clear hb3)
              go_wp2
              go_ret
              exact ⟨by rw [HFIN.out, HSa.out, HSb.out]; rfl, Bb.out⟩
          · obtain rfl : qb = l.length := by omega
            have j2 : ((l.length : Int) < (l.length : Int)) = False := by simp
            have HSb : Hid (aheadN l letter qa = l.length) := Lib.hid (heq.symm.trans (aheadN_end (Nat.le_refl _)))
            have HQb : Hid (l.length ≤ l.length) := Lib.hid (Nat.le_refl _)
            have Bb := BI
            clear heq hb2 hq hql HE
            go_wp2
            go_wp2
            go_ret
            exact ⟨by rw [HFIN.out, HSa.out, HSb.out]; rfl, Bb.out⟩
    · obtain rfl : qa = l.length := by omega
      have j2 : ((l.length : Int) < (l.length : Int)) = False := by simp
      have HSa : Hid (aheadN l (fun r => !letter r) q0 = l.length) := Lib.hid (heq.symm.trans (aheadN_end (Nat.le_refl _)))
      have HQa : Hid (l.length ≤ l.length) := Lib.hid (Nat.le_refl _)
      have Ba := BI
      clear heq hb2 hq hql HE
      go_wp2
      go_loopw [1] (fun v1 wr => ∃ qb, In2 w l letter l.length v1 wr qb) (fun v1 _ => l.length - (RowKit.intOf v1).toNat)
      case atStart => exact ⟨l.length, ⟨HQa.out, rfl, rfl, Ba.out⟩⟩
      case round =>
        obtain ⟨qb, hJ⟩ := hrel
        obtain ⟨hq, rfl, heq, hb2⟩ := hJ
        have HE := Lib.hid heq
        have BI := Lib.hid hb2
        by_cases hql : qb < l.length
        · obtain ⟨rb, off, rfl, hlt, hcr⟩ := rune_cell (HL.out.below hb2) hql
          have j1 : (0 : Int) ≤ (qb : Int) := by omega
          have j2 : ((qb : Int) < (l.length : Int)) = True := by simp; exact hql
          have hwq : wrap64 ((qb : Int) + 1) = (qb : Int) + 1 := by have := HLEN.out; unfold wrap64; omega
          by_cases hpv : letter l[qb] = true
          · have HPV : Hid (letter l[qb] = true) := Lib.hid (hpv)
            have HSTEP : Hid (aheadN l letter (qb + 1) = aheadN l letter l.length) := Lib.hid ((aheadN_step hql hpv).symm.trans heq)
            have HQN := Lib.hid hql
            generalize l[qb] = x at *
            clear hpv heq hb2 hq hql hlt
            go_wp2_with (go_at_call 70; refine (refLetter1_any x _).mono ?_; rintro e w2 ⟨rfl, hb3⟩; have Bb := Lib.hid (BI.out.trans (hb3.mono BI.out.size)); rw [HPV.out]; clear hb3)
            go_roundw
            case rel => exact ⟨qb + 1, ⟨HQN.out, next_val hwq, HSTEP.out, Bb.out⟩⟩
            case measure => exact measure_lt HQN.out hwq
          · have hpv' : letter l[qb] = false := by simpa using hpv
            have HPV : Hid (letter l[qb] = false) := Lib.hid (hpv')
            have HSb : Hid (aheadN l letter l.length = qb) := Lib.hid (heq.symm.trans (aheadN_stop hql hpv'))
            have HQb : Hid (qb ≤ l.length) := Lib.hid hq
            generalize l[qb] = x at *
            clear hpv hpv' heq hb2 hq hql hlt HE
            go_wp2_with (go_at_call 70; refine (refLetter1_any x _).mono ?_; rintro e w2 ⟨rfl, hb3⟩; have Bb := Lib.hid (BI.out.trans (hb3.mono BI.out.size)); rw [HPV.out]; clear hb3)
            go_wp2
            go_ret
            exact ⟨by rw [HFIN.out, HSa.out, HSb.out]; rfl, Bb.out⟩
        · obtain rfl : qb = l.length := by omega
          have j2 : ((l.length : Int) < (l.length : Int)) = False := by simp
          have HSb : Hid (aheadN l letter l.length = l.length) := Lib.hid (heq.symm.trans (aheadN_end (Nat.le_refl _)))
          have HQb : Hid (l.length ≤ l.length) := Lib.hid (Nat.le_refl _)
          have Bb := BI
          clear heq hb2 hq hql HE
          go_wp2
          go_wp2
          go_ret
          exact ⟨by rw [HFIN.out, HSa.out, HSb.out]; rfl, Bb.out⟩
set_option maxRecDepth 1000000 in
set_option maxHeartbeats 8000000 in
theorem refWordStart_any (w : World) (l : List Int) (A : Option Addr) (c : Nat) (hl : Holds1 w (.slice A l.length c) (runeVals l)) (hlen : l.length ≤ 140737488355328) (k : Int) :
    Calls Tryd.prog 28 #[.slice A l.length c, .int .i64 k] w fun e w' => e = .returned (.int .i64 (wordStartP l k : Int)) ∧ Below w.heap.size w w' := by
  have CP := Lib.hid (cut_any w A l.length c k)
  have HQs := Lib.hid (placeN_le l.length k)
  have HFIN0 : wordStartP l k = (backN l letter (backN l (fun r => !letter r) (placeN l.length k))) := rfl
  generalize placeN l.length k = q0 at *
  have HFIN := Lib.hid HFIN0
  have HL := Lib.hid hl
  have HLEN := Lib.hid hlen
  have Bs := Lib.hid (Below.refl w.heap.size w)
  clear hl hlen HFIN0
  go_enter Tryd.func28, Tryd.ntmps28
  go_wp2_with (go_at_call 65; refine (CP.out).mono ?_; rintro e w1 ⟨rfl, rfl⟩)
  go_loopw [1] (fun v1 wr => ∃ qa, In3 w l (fun r => !letter r) q0 v1 wr qa) (fun v1 _ => (RowKit.intOf v1).toNat)
  case atStart => exact ⟨q0, ⟨HQs.out, rfl, rfl, Bs.out⟩⟩
  case round =>
    obtain ⟨qa, hJ⟩ := hrel
    obtain ⟨hq, rfl, heq, hb2⟩ := hJ
    have HE := Lib.hid heq
    have BI := Lib.hid hb2
    by_cases hz : qa = 0
    case neg =>
      obtain ⟨qa, rfl⟩ : ∃ m, qa = m + 1 := ⟨qa - 1, by omega⟩
      clear hz
      have hql : qa < l.length := by omega
      obtain ⟨rb, off, rfl, hlt, hcr⟩ := rune_cell (HL.out.below hb2) hql
      have j1 : (0 : Int) ≤ (qa : Int) := by omega
      have j2 : ((qa : Int) < (l.length : Int)) = True := by simp; exact hql
      have j3 : (((qa + 1 : Nat) : Int) > 0) = True := by simp only [gt_iff_lt, eq_iff_iff, iff_true]; omega
      have j4 : ((0 : Int) < ((qa + 1 : Nat) : Int)) = True := by simp only [eq_iff_iff, iff_true]; omega
      have hwq : wrap64 (((qa + 1 : Nat) : Int) - 1) = (qa : Int) := by have := HLEN.out; unfold wrap64; omega
      by_cases hpv : (fun r => !letter r) l[qa] = true
      · have HPV : Hid (letter l[qa] = false) := Lib.hid (by simpa [NotP] using hpv)
        have HSTEP : Hid (backN l (fun r => !letter r) qa = backN l (fun r => !letter r) q0) := Lib.hid ((backN_step hql hpv).symm.trans heq)
        have HQN := Lib.hid hql
        generalize l[qa] = x at *
        clear hpv heq hb2 hq hql hlt
        generalize hq1 : qa + 1 = zqa at *
        have j5 : (0 < zqa) = True := by simp only [eq_iff_iff, iff_true]; omega
        have HQ1 := Lib.hid hq1
        clear hq1
        go_wp2_with (go_at_call 70; refine (refLetter1_any x _).mono ?_; rintro e w2 ⟨rfl, hb3⟩; have Ba := Lib.hid (BI.out.trans (hb3.mono BI.out.size)); rw [HPV.out]; clear hb3)
        go_roundw
        case rel => exact ⟨qa, ⟨Nat.le_of_lt HQN.out, by rw [hwq], HSTEP.out, Ba.out⟩⟩
        case measure => rw [hwq]; clear hwq; have := HQ1.out; simp [RowKit.intOf]; omega
      · have hpv' : (fun r => !letter r) l[qa] = false := by simpa using hpv
        have HPV : Hid (letter l[qa] = true) := Lib.hid (by simpa [NotP] using hpv')
        have HSa : Hid (backN l (fun r => !letter r) q0 = qa + 1) := Lib.hid (heq.symm.trans (backN_stop hql hpv'))
        have HQa : Hid (qa + 1 ≤ l.length) := Lib.hid hq
        generalize l[qa] = x at *
        clear hpv hpv' heq hb2 hq hql hlt HE
        generalize hq1 : qa + 1 = zqa at *
        have j5 : (0 < zqa) = True := by simp only [eq_iff_iff, iff_true]; omega
        have HQ1 := Lib.hid hq1
        clear hq1
        go_wp2_with (go_at_call 70; refine (refLetter1_any x _).mono ?_; rintro e w2 ⟨rfl, hb3⟩; have Ba := Lib.hid (BI.out.trans (hb3.mono BI.out.size)); rw [HPV.out]; clear hb3)
        go_loopw [1] (fun v1 wr => ∃ qb, In3 w l letter zqa v1 wr qb) (fun v1 _ => (RowKit.intOf v1).toNat)
        case atStart => exact ⟨zqa, ⟨HQa.out, rfl, rfl, Ba.out⟩⟩
        case round =>
          obtain ⟨qb, hJ⟩ := hrel
          obtain ⟨hq, rfl, heq, hb2⟩ := hJ
          have HE := Lib.hid heq
          have BI := Lib.hid hb2
          by_cases hz : qb = 0
          case neg =>
            obtain ⟨qb, rfl⟩ : ∃ m, qb = m + 1 := ⟨qb - 1, by omega⟩
            clear hz
            have hql : qb < l.length := by omega
            obtain ⟨rb2, off2, hA, hlt, hcr⟩ := rune_cell (HL.out.below hb2) hql
            obtain ⟨rfl, rfl⟩ : rb = rb2 ∧ off = off2 := by simpa using hA
            have j1 : (0 : Int) ≤ (qb : Int) := by omega
            have j2 : ((qb : Int) < (l.length : Int)) = True := by simp; exact hql
            have j3 : (((qb + 1 : Nat) : Int) > 0) = True := by simp only [gt_iff_lt, eq_iff_iff, iff_true]; omega
            have j4 : ((0 : Int) < ((qb + 1 : Nat) : Int)) = True := by simp only [eq_iff_iff, iff_true]; omega
            have hwq : wrap64 (((qb + 1 : Nat) : Int) - 1) = (qb : Int) := by have := HLEN.out; unfold wrap64; omega
            by_cases hpv : letter l[qb] = true
            · have HPV : Hid (letter l[qb] = true) := Lib.hid (hpv)
              have HSTEP : Hid (backN l letter qb = backN l letter zqa) := Lib.hid ((backN_step hql hpv).symm.trans heq)
              have HQN := Lib.hid hql
              generalize l[qb] = x at *
              clear hpv heq hb2 hq hql hlt
              generalize hq1 : qb + 1 = zqb at *
              have j5 : (0 < zqb) = True := by simp only [eq_iff_iff, iff_true]; omega
              have HQ1 := Lib.hid hq1
              clear hq1
              go_wp2_with (go_at_call 70; refine (refLetter1_any x _).mono ?_; rintro e w2 ⟨rfl, hb3⟩; have Bb := Lib.hid (BI.out.trans (hb3.mono BI.out.size)); rw [HPV.out]; clear hb3)
              go_roundw
              case rel => exact ⟨qb, ⟨Nat.le_of_lt HQN.out, by rw [hwq], HSTEP.out, Bb.out⟩⟩
              case measure => rw [hwq]; clear hwq; have := HQ1.out; simp [RowKit.intOf]; omega
            · have hpv' : letter l[qb] = false := by simpa using hpv
              have HPV : Hid (letter l[qb] = false) := Lib.hid (hpv')
              have HSb : Hid (backN l letter zqa = qb + 1) := Lib.hid (heq.symm.trans (backN_stop hql hpv'))
              have HQb : Hid (qb + 1 ≤ l.length) := Lib.hid hq
              generalize l[qb] = x at *
              clear hpv hpv' heq hb2 hq hql hlt HE
              generalize hq1 : qb + 1 = zqb at *
              have j5 : (0 < zqb) = True := by simp only [eq_iff_iff, iff_true]; omega
              have HQ1 := Lib.hid hq1
              clear hq1
              go_wp2_with (go_at_call 70; refine (refLetter1_any x _).mono ?_; rintro e w2 ⟨rfl, hb3⟩; have Bb := Lib.hid (BI.out.trans (hb3.mono BI.out.size)); rw [HPV.out]; clear hb3)
              go_wp2
              go_ret
              exact ⟨by rw [HFIN.out, HSa.out, HSb.out]; rfl, Bb.out⟩
          · have j2 : (((qb : Nat) : Int) > 0) = False := by simp; omega
            have j3 : ((0 : Int) < ((qb : Nat) : Int)) = False := by simp; omega
            have j4 : (0 < qb) = False := by simp; omega
            have HSb : Hid (backN l letter zqa = qb) := Lib.hid (heq.symm.trans (by rw [hz]; rfl))
            have HQb : Hid (qb ≤ l.length) := Lib.hid hq
            have Bb := BI
            clear heq hb2 hq HE hz
            go_wp2
            go_wp2
            go_ret
            exact ⟨by rw [HFIN.out, HSa.out, HSb.out]; rfl, Bb.out⟩
    · have j2 : (((qa : Nat) : Int) > 0) = False := by simp; omega
      have j3 : ((0 : Int) < ((qa : Nat) : Int)) = False := by simp; omega
      have j4 : (0 < qa) = False := by simp; omega
      have HSa : Hid (backN l (fun r => !letter r) q0 = qa) := Lib.hid (heq.symm.trans (by rw [hz]; rfl))
      have HQa : Hid (qa ≤ l.length) := Lib.hid hq
      have Ba := BI
      clear heq hb2 hq HE hz
      go_wp2
      go_loopw [1] (fun v1 wr => ∃ qb, In3 w l letter qa v1 wr qb) (fun v1 _ => (RowKit.intOf v1).toNat)
      case atStart => exact ⟨qa, ⟨HQa.out, rfl, rfl, Ba.out⟩⟩
      case round =>
        obtain ⟨qb, hJ⟩ := hrel
        obtain ⟨hq, rfl, heq, hb2⟩ := hJ
        have HE := Lib.hid heq
        have BI := Lib.hid hb2
        by_cases hz : qb = 0
        case neg =>
          obtain ⟨qb, rfl⟩ : ∃ m, qb = m + 1 := ⟨qb - 1, by omega⟩
          clear hz
          have hql : qb < l.length := by omega
          obtain ⟨rb, off, rfl, hlt, hcr⟩ := rune_cell (HL.out.below hb2) hql
          have j1 : (0 : Int) ≤ (qb : Int) := by omega
          have j2 : ((qb : Int) < (l.length : Int)) = True := by simp; exact hql
          have j3 : (((qb + 1 : Nat) : Int) > 0) = True := by simp only [gt_iff_lt, eq_iff_iff, iff_true]; omega
          have j4 : ((0 : Int) < ((qb + 1 : Nat) : Int)) = True := by simp only [eq_iff_iff, iff_true]; omega
          have hwq : wrap64 (((qb + 1 : Nat) : Int) - 1) = (qb : Int) := by have := HLEN.out; unfold wrap64; omega
          by_cases hpv : letter l[qb] = true
          · have HPV : Hid (letter l[qb] = true) := Lib.hid (hpv)
            have HSTEP : Hid (backN l letter qb = backN l letter qa) := Lib.hid ((backN_step hql hpv).symm.trans heq)
            have HQN := Lib.hid hql
            generalize l[qb] = x at *
            clear hpv heq hb2 hq hql hlt
            generalize hq1 : qb + 1 = zqb at *
            have j5 : (0 < zqb) = True := by simp only [eq_iff_iff, iff_true]; omega
            have HQ1 := Lib.hid hq1
            clear hq1
            go_wp2_with (go_at_call 70; refine (refLetter1_any x _).mono ?_; rintro e w2 ⟨rfl, hb3⟩; have Bb := Lib.hid (BI.out.trans (hb3.mono BI.out.size)); rw [HPV.out]; clear hb3)
            go_roundw
            case rel => exact ⟨qb, ⟨Nat.le_of_lt HQN.out, by rw [hwq], HSTEP.out, Bb.out⟩⟩
            case measure => rw [hwq]; clear hwq; have := HQ1.out; simp [RowKit.intOf]; omega
          · have hpv' : letter l[qb] = false := by simpa using hpv
            have HPV : Hid (letter l[qb] = false) := Lib.hid (hpv')
            have HSb : Hid (backN l letter qa = qb + 1) := Lib.hid (heq.symm.trans (backN_stop hql hpv'))
            have HQb : Hid (qb + 1 ≤ l.length) := Lib.hid hq
            generalize l[qb] = x at *
            clear hpv hpv' heq hb2 hq hql hlt HE
            generalize hq1 : qb + 1 = zqb at *
            have j5 : (0 < zqb) = True := by simp only [eq_iff_iff, iff_true]; omega
            have HQ1 := Lib.hid hq1
            clear hq1
            go_wp2_with (go_at_call 70; refine (refLetter1_any x _).mono ?_; rintro e w2 ⟨rfl, hb3⟩; have Bb := Lib.hid (BI.out.trans (hb3.mono BI.out.size)); rw [HPV.out]; clear hb3)
            go_wp2
            go_ret
            exact ⟨by rw [HFIN.out, HSa.out, HSb.out]; rfl, Bb.out⟩
        · have j2 : (((qb : Nat) : Int) > 0) = False := by simp; omega
          have j3 : ((0 : Int) < ((qb : Nat) : Int)) = False := by simp; omega
          have j4 : (0 < qb) = False := by simp; omega
          have HSb : Hid (backN l letter qa = qb) := Lib.hid (heq.symm.trans (by rw [hz]; rfl))
          have HQb : Hid (qb ≤ l.length) := Lib.hid hq
          have Bb := BI
          clear heq hb2 hq HE hz
          go_wp2
          go_wp2
          go_ret
          exact ⟨by rw [HFIN.out, HSa.out, HSb.out]; rfl, Bb.out⟩
set_option maxRecDepth 1000000 in
set_option maxHeartbeats 8000000 in
theorem refBlankEnd_any (w : World) (l : List Int) (A : Option Addr) (c : Nat) (hl : Holds1 w (.slice A l.length c) (runeVals l)) (hlen : l.length ≤ 140737488355328) (k : Int) :
    Calls Tryd.prog 32 #[.slice A l.length c, .int .i64 k] w fun e w' => e = .returned (.int .i64 (blankEndP l k : Int)) ∧ Below w.heap.size w w' := by
  have CP := Lib.hid (cut_any w A l.length c k)
  have HQs := Lib.hid (placeN_le l.length k)
  have HFIN0 : blankEndP l k = (aheadN l (fun r => !blankP r) (aheadN l blankP (placeN l.length k))) := rfl
  generalize placeN l.length k = q0 at *
  have HFIN := Lib.hid HFIN0
  have HL := Lib.hid hl
  have HLEN := Lib.hid hlen
  have Bs := Lib.hid (Below.refl w.heap.size w)
  clear hl hlen HFIN0
  go_enter Tryd.func32, Tryd.ntmps32
  go_wp2_with (go_at_call 65; refine (CP.out).mono ?_; rintro e w1 ⟨rfl, rfl⟩)
  go_loopw [1] (fun v1 wr => ∃ qa, In2 w l blankP q0 v1 wr qa) (fun v1 _ => l.length - (RowKit.intOf v1).toNat)
  case atStart => exact ⟨q0, ⟨HQs.out, rfl, rfl, Bs.out⟩⟩
  case round =>
    obtain ⟨qa, hJ⟩ := hrel
    obtain ⟨hq, rfl, heq, hb2⟩ := hJ
    have HE := Lib.hid heq
    have BI := Lib.hid hb2
    by_cases hql : qa < l.length
    · obtain ⟨rb, off, rfl, hlt, hcr⟩ := rune_cell (HL.out.below hb2) hql
      have j1 : (0 : Int) ≤ (qa : Int) := by omega
      have j2 : ((qa : Int) < (l.length : Int)) = True := by simp; exact hql
      have hwq : wrap64 ((qa : Int) + 1) = (qa : Int) + 1 := by have := HLEN.out; unfold wrap64; omega
      by_cases hpv : blankP l[qa] = true
      · have HPV : Hid (blankP l[qa] = true) := Lib.hid (hpv)
        have HSTEP : Hid (aheadN l blankP (qa + 1) = aheadN l blankP q0) := Lib.hid ((aheadN_step hql hpv).symm.trans heq)
        have HQN := Lib.hid hql
        generalize l[qa] = x at *
        clear hpv heq hb2 hq hql hlt
        go_wp2_with (go_at_call 72; refine (refBlank_any x _).mono ?_; rintro e w2 ⟨rfl, hb3⟩; have Ba := Lib.hid (BI.out.trans (hb3.mono BI.out.size)); rw [HPV.out]; clear hb3)
        go_roundw
        case rel => exact ⟨qa + 1, ⟨HQN.out, next_val hwq, HSTEP.out, Ba.out⟩⟩
        case measure => exact measure_lt HQN.out hwq
      · have hpv' : blankP l[qa] = false := by simpa using hpv
        have HPV : Hid (blankP l[qa] = false) := Lib.hid (hpv')
        have HSa : Hid (aheadN l blankP q0 = qa) := Lib.hid (heq.symm.trans (aheadN_stop hql hpv'))
        have HQa : Hid (qa ≤ l.length) := Lib.hid hq
        generalize l[qa] = x at *
        clear hpv hpv' heq hb2 hq hql hlt HE
        go_wp2_with (go_at_call 72; refine (refBlank_any x _).mono ?_; rintro e w2 ⟨rfl, hb3⟩; have Ba := Lib.hid (BI.out.trans (hb3.mono BI.out.size)); rw [HPV.out]; clear hb3)
        go_loopw [1] (fun v1 wr => ∃ qb, In2 w l (fun r => !blankP r) qa v1 wr qb) (fun v1 _ => l.length - (RowKit.intOf v1).toNat)
        case atStart => exact ⟨qa, ⟨HQa.out, rfl, rfl, Ba.out⟩⟩
        case round =>
          obtain ⟨qb, hJ⟩ := hrel
          obtain ⟨hq, rfl, heq, hb2⟩ := hJ
          have HE := Lib.hid heq
          have BI := Lib.hid hb2
          by_cases hql : qb < l.length
          · obtain ⟨rb2, off2, hA, hlt, hcr⟩ := rune_cell (HL.out.below hb2) hql
            obtain ⟨rfl, rfl⟩ : rb = rb2 ∧ off = off2 := by simpa using hA
            have j1 : (0 : Int) ≤ (qb : Int) := by omega
            have j2 : ((qb : Int) < (l.length : Int)) = True := by simp; exact hql
            have hwq : wrap64 ((qb : Int) + 1) = (qb : Int) + 1 := by have := HLEN.out; unfold wrap64; omega
            by_cases hpv : (fun r => !blankP r) l[qb] = true
            · have HPV : Hid (blankP l[qb] = false) := Lib.hid (by simpa [NotP] using hpv)
              have HSTEP : Hid (aheadN l (fun r => !blankP r) (qb + 1) = aheadN l (fun r => !blankP r) qa) := Lib.hid ((aheadN_step hql hpv).symm.trans heq)
              have HQN := Lib.hid hql
              generalize l[qb] = x at *
              clear hpv heq hb2 hq hql hlt
              go_wp2_with (go_at_call 72; refine (refBlank_any x _).mono ?_; rintro e w2 ⟨rfl, hb3⟩; have Bb := Lib.hid (BI.out.trans (hb3.mono BI.out.size)); rw [HPV.out]; clear hb3)
              go_roundw
              case rel => exact ⟨qb + 1, ⟨HQN.out, next_val hwq, HSTEP.out, Bb.out⟩⟩
              case measure => exact measure_lt HQN.out hwq
            · have hpv' : (fun r => !blankP r) l[qb] = false := by simpa using hpv
              have HPV : Hid (blankP l[qb] = true) := Lib.hid (by simpa [NotP] using hpv')
              have HSb : Hid (aheadN l (fun r => !blankP r) qa = qb) := Lib.hid (heq.symm.trans (aheadN_stop hql hpv'))
              have HQb : Hid (qb ≤ l.length) := Lib.hid hq
              generalize l[qb] = x at *
              clear hpv hpv' heq hb2 hq hql hlt HE
              go_wp2_with (go_at_call 72; refine (refBlank_any x _).mono ?_; rintro e w2 ⟨rfl, hb3⟩; have Bb := Lib.hid (BI.out.trans (hb3.mono BI.out.size)); rw [HPV.out]; clear hb3)
              go_wp2
              go_ret
              exact ⟨by rw [HFIN.out, HSa.out, HSb.out]; rfl, Bb.out⟩
          · obtain rfl : qb = l.length := by omega
            have j2 : ((l.length : Int) < (l.length : Int)) = False := by simp
            have HSb : Hid (aheadN l (fun r => !blankP r) qa = l.length) := Lib.hid (heq.symm.trans (aheadN_end (Nat.le_refl _)))
            have HQb : Hid (l.length ≤ l.length) := Lib.hid (Nat.le_refl _)
            have Bb := BI
            clear heq hb2 hq hql HE
            go_wp2
            go_wp2
            go_ret
            exact ⟨by rw [HFIN.out, HSa.out, HSb.out]; rfl, Bb.out⟩
    · obtain rfl : qa = l.length := by omega
      have j2 : ((l.length : Int) < (l.length : Int)) = False := by simp
      have HSa : Hid (aheadN l blankP q0 = l.length) := Lib.hid (heq.symm.trans (aheadN_end (Nat.le_refl _)))
      have HQa : Hid (l.length ≤ l.length) := Lib.hid (Nat.le_refl _)
      have Ba := BI
      clear heq hb2 hq hql HE
      go_wp2
      go_loopw [1] (fun v1 wr => ∃ qb, In2 w l (fun r => !blankP r) l.length v1 wr qb) (fun v1 _ => l.length - (RowKit.intOf v1).toNat)
      case atStart => exact ⟨l.length, ⟨HQa.out, rfl, rfl, Ba.out⟩⟩
      case round =>
        obtain ⟨qb, hJ⟩ := hrel
        obtain ⟨hq, rfl, heq, hb2⟩ := hJ
        have HE := Lib.hid heq
        have BI := Lib.hid hb2
        by_cases hql : qb < l.length
        · obtain ⟨rb, off, rfl, hlt, hcr⟩ := rune_cell (HL.out.below hb2) hql
          have j1 : (0 : Int) ≤ (qb : Int) := by omega
          have j2 : ((qb : Int) < (l.length : Int)) = True := by simp; exact hql
          have hwq : wrap64 ((qb : Int) + 1) = (qb : Int) + 1 := by have := HLEN.out; unfold wrap64; omega
          by_cases hpv : (fun r => !blankP r) l[qb] = true
          · have HPV : Hid (blankP l[qb] = false) := Lib.hid (by simpa [NotP] using hpv)
            have HSTEP : Hid (aheadN l (fun r => !blankP r) (qb + 1) = aheadN l (fun r => !blankP r) l.length) := Lib.hid ((aheadN_step hql hpv).symm.trans heq)
            have HQN := Lib.hid hql
            generalize l[qb] = x at *
            clear hpv heq hb2 hq hql hlt
            go_wp2_with (go_at_call 72; refine (refBlank_any x _).mono ?_; rintro e w2 ⟨rfl, hb3⟩; have Bb := Lib.hid (BI.out.trans (hb3.mono BI.out.size)); rw [HPV.out]; clear hb3)
            go_roundw
            case rel => exact ⟨qb + 1, ⟨HQN.out, next_val hwq, HSTEP.out, Bb.out⟩⟩
            case measure => exact measure_lt HQN.out hwq
          · have hpv' : (fun r => !blankP r) l[qb] = false := by simpa using hpv
            have HPV : Hid (blankP l[qb] = true) := Lib.hid (by simpa [NotP] using hpv')
            have HSb : Hid (aheadN l (fun r => !blankP r) l.length = qb) := Lib.hid (heq.symm.trans (aheadN_stop hql hpv'))
            have HQb : Hid (qb ≤ l.length) := Lib.hid hq
            generalize l[qb] = x at *
            clear hpv hpv' heq hb2 hq hql hlt HE
            go_wp2_with (go_at_call 72; refine (refBlank_any x _).mono ?_; rintro e w2 ⟨rfl, hb3⟩; have Bb := Lib.hid (BI.out.trans (hb3.mono BI.out.size)); rw [HPV.out]; clear hb3)
            go_wp2
            go_ret
            exact ⟨by rw [HFIN.out, HSa.out, HSb.out]; rfl, Bb.out⟩
        · obtain rfl : qb = l.length := by omega
          have j2 : ((l.length : Int) < (l.length : Int)) = False := by simp
          have HSb : Hid (aheadN l (fun r => !blankP r) l.length = l.length) := Lib.hid (heq.symm.trans (aheadN_end (Nat.le_refl _)))
          have HQb : Hid (l.length ≤ l.length) := Lib.hid (Nat.le_refl _)
          have Bb := BI
          clear heq hb2 hq hql HE
          go_wp2
          go_wp2
          go_ret
          exact ⟨by rw [HFIN.out, HSa.out, HSb.out]; rfl, Bb.out⟩
set_option maxRecDepth 1000000 in
set_option maxHeartbeats 8000000 in
theorem refBlankStart_any (w : World) (l : List Int) (A : Option Addr) (c : Nat) (hl : Holds1 w (.slice A l.length c) (runeVals l)) (hlen : l.length ≤ 140737488355328) (k : Int) :
    Calls Tryd.prog 30 #[.slice A l.length c, .int .i64 k] w fun e w' => e = .returned (.int .i64 (blankStartP l k : Int)) ∧ Below w.heap.size w w' := by
  have CP := Lib.hid (cut_any w A l.length c k)
  have HQs := Lib.hid (placeN_le l.length k)
  have HFIN0 : blankStartP l k = (backN l (fun r => !blankP r) (backN l blankP (placeN l.length k))) := rfl
  generalize placeN l.length k = q0 at *
  have HFIN := Lib.hid HFIN0
  have HL := Lib.hid hl
  have HLEN := Lib.hid hlen
  have Bs := Lib.hid (Below.refl w.heap.size w)
  clear hl hlen HFIN0
  go_enter Tryd.func30, Tryd.ntmps30
  go_wp2_with (go_at_call 65; refine (CP.out).mono ?_; rintro e w1 ⟨rfl, rfl⟩)
  go_loopw [1] (fun v1 wr => ∃ qa, In3 w l blankP q0 v1 wr qa) (fun v1 _ => (RowKit.intOf v1).toNat)
  case atStart => exact ⟨q0, ⟨HQs.out, rfl, rfl, Bs.out⟩⟩
  case round =>
    obtain ⟨qa, hJ⟩ := hrel
    obtain ⟨hq, rfl, heq, hb2⟩ := hJ
    have HE := Lib.hid heq
    have BI := Lib.hid hb2
    by_cases hz : qa = 0
    case neg =>
      obtain ⟨qa, rfl⟩ : ∃ m, qa = m + 1 := ⟨qa - 1, by omega⟩
      clear hz
      have hql : qa < l.length := by omega
      obtain ⟨rb, off, rfl, hlt, hcr⟩ := rune_cell (HL.out.below hb2) hql
      have j1 : (0 : Int) ≤ (qa : Int) := by omega
      have j2 : ((qa : Int) < (l.length : Int)) = True := by simp; exact hql
      have j3 : (((qa + 1 : Nat) : Int) > 0) = True := by simp only [gt_iff_lt, eq_iff_iff, iff_true]; omega
      have j4 : ((0 : Int) < ((qa + 1 : Nat) : Int)) = True := by simp only [eq_iff_iff, iff_true]; omega
      have hwq : wrap64 (((qa + 1 : Nat) : Int) - 1) = (qa : Int) := by have := HLEN.out; unfold wrap64; omega
      by_cases hpv : blankP l[qa] = true
      · have HPV : Hid (blankP l[qa] = true) := Lib.hid (hpv)
        have HSTEP : Hid (backN l blankP qa = backN l blankP q0) := Lib.hid ((backN_step hql hpv).symm.trans heq)
        have HQN := Lib.hid hql
        generalize l[qa] = x at *
        clear hpv heq hb2 hq hql hlt
        generalize hq1 : qa + 1 = zqa at *
        have j5 : (0 < zqa) = True := by simp only [eq_iff_iff, iff_true]; omega
        have HQ1 := Lib.hid hq1
        clear hq1
        go_wp2_with (go_at_call 72; refine (refBlank_any x _).mono ?_; rintro e w2 ⟨rfl, hb3⟩; have Ba := Lib.hid (BI.out.trans (hb3.mono BI.out.size)); rw [HPV.out]; clear hb3)
        go_roundw
        case rel => exact ⟨qa, ⟨Nat.le_of_lt HQN.out, by rw [hwq], HSTEP.out, Ba.out⟩⟩
        case measure => rw [hwq]; clear hwq; have := HQ1.out; simp [RowKit.intOf]; omega
      · have hpv' : blankP l[qa] = false := by simpa using hpv
        have HPV : Hid (blankP l[qa] = false) := Lib.hid (hpv')
        have HSa : Hid (backN l blankP q0 = qa + 1) := Lib.hid (heq.symm.trans (backN_stop hql hpv'))
        have HQa : Hid (qa + 1 ≤ l.length) := Lib.hid hq
        generalize l[qa] = x at *
        clear hpv hpv' heq hb2 hq hql hlt HE
        generalize hq1 : qa + 1 = zqa at *
        have j5 : (0 < zqa) = True := by simp only [eq_iff_iff, iff_true]; omega
        have HQ1 := Lib.hid hq1
        clear hq1
        go_wp2_with (go_at_call 72; refine (refBlank_any x _).mono ?_; rintro e w2 ⟨rfl, hb3⟩; have Ba := Lib.hid (BI.out.trans (hb3.mono BI.out.size)); rw [HPV.out]; clear hb3)
        go_loopw [1] (fun v1 wr => ∃ qb, In3 w l (fun r => !blankP r) zqa v1 wr qb) (fun v1 _ => (RowKit.intOf v1).toNat)
        case atStart => exact ⟨zqa, ⟨HQa.out, rfl, rfl, Ba.out⟩⟩
        case round =>
          obtain ⟨qb, hJ⟩ := hrel
          obtain ⟨hq, rfl, heq, hb2⟩ := hJ
          have HE := Lib.hid heq
          have BI := Lib.hid hb2
          by_cases hz : qb = 0
          case neg =>
            obtain ⟨qb, rfl⟩ : ∃ m, qb = m + 1 := ⟨qb - 1, by omega⟩
            clear hz
            have hql : qb < l.length := by omega
            obtain ⟨rb2, off2, hA, hlt, hcr⟩ := rune_cell (HL.out.below hb2) hql
            obtain ⟨rfl, rfl⟩ : rb = rb2 ∧ off = off2 := by simpa using hA
            have j1 : (0 : Int) ≤ (qb : Int) := by omega
            have j2 : ((qb : Int) < (l.length : Int)) = True := by simp; exact hql
            have j3 : (((qb + 1 : Nat) : Int) > 0) = True := by simp only [gt_iff_lt, eq_iff_iff, iff_true]; omega
            have j4 : ((0 : Int) < ((qb + 1 : Nat) : Int)) = True := by simp only [eq_iff_iff, iff_true]; omega
            have hwq : wrap64 (((qb + 1 : Nat) : Int) - 1) = (qb : Int) := by have := HLEN.out; unfold wrap64; omega
            by_cases hpv : (fun r => !blankP r) l[qb] = true
            · have HPV : Hid (blankP l[qb] = false) := Lib.hid (by simpa [NotP] using hpv)
              have HSTEP : Hid (backN l (fun r => !blankP r) qb = backN l (fun r => !blankP r) zqa) := Lib.hid ((backN_step hql hpv).symm.trans heq)
              have HQN := Lib.hid hql
              generalize l[qb] = x at *
              clear hpv heq hb2 hq hql hlt
              generalize hq1 : qb + 1 = zqb at *
              have j5 : (0 < zqb) = True := by simp only [eq_iff_iff, iff_true]; omega
              have HQ1 := Lib.hid hq1
              clear hq1
              go_wp2_with (go_at_call 72; refine (refBlank_any x _).mono ?_; rintro e w2 ⟨rfl, hb3⟩; have Bb := Lib.hid (BI.out.trans (hb3.mono BI.out.size)); rw [HPV.out]; clear hb3)
              go_roundw
              case rel => exact ⟨qb, ⟨Nat.le_of_lt HQN.out, by rw [hwq], HSTEP.out, Bb.out⟩⟩
              case measure => rw [hwq]; clear hwq; have := HQ1.out; simp [RowKit.intOf]; omega
            · have hpv' : (fun r => !blankP r) l[qb] = false := by simpa using hpv
              have HPV : Hid (blankP l[qb] = true) := Lib.hid (by simpa [NotP] using hpv')
              have HSb : Hid (backN l (fun r => !blankP r) zqa = qb + 1) := Lib.hid (heq.symm.trans (backN_stop hql hpv'))
              have HQb : Hid (qb + 1 ≤ l.length) := Lib.hid hq
              generalize l[qb] = x at *
              clear hpv hpv' heq hb2 hq hql hlt HE
              generalize hq1 : qb + 1 = zqb at *
              have j5 : (0 < zqb) = True := by simp only [eq_iff_iff, iff_true]; omega
              have HQ1 := Lib.hid hq1
              clear hq1
              go_wp2_with (go_at_call 72; refine (refBlank_any x _).mono ?_; rintro e w2 ⟨rfl, hb3⟩; have Bb := Lib.hid (BI.out.trans (hb3.mono BI.out.size)); rw [HPV.out]; clear hb3)
              go_wp2
              go_ret
              exact ⟨by rw [HFIN.out, HSa.out, HSb.out]; rfl, Bb.out⟩
          · have j2 : (((qb : Nat) : Int) > 0) = False := by simp; omega
            have j3 : ((0 : Int) < ((qb : Nat) : Int)) = False := by simp; omega
            have j4 : (0 < qb) = False := by simp; omega
            have HSb : Hid (backN l (fun r => !blankP r) zqa = qb) := Lib.hid (heq.symm.trans (by rw [hz]; rfl))
            have HQb : Hid (qb ≤ l.length) := Lib.hid hq
            have Bb := BI
            clear heq hb2 hq HE hz
            go_wp2
            go_wp2
            go_ret
            exact ⟨by rw [HFIN.out, HSa.out, HSb.out]; rfl, Bb.out⟩
    · have j2 : (((qa : Nat) : Int) > 0) = False := by simp; omega
      have j3 : ((0 : Int) < ((qa : Nat) : Int)) = False := by simp; omega
      have j4 : (0 < qa) = False := by simp; omega
      have HSa : Hid (backN l blankP q0 = qa) := Lib.hid (heq.symm.trans (by rw [hz]; rfl))
      have HQa : Hid (qa ≤ l.length) := Lib.hid hq
      have Ba := BI
      clear heq hb2 hq HE hz
      go_wp2
      go_loopw [1] (fun v1 wr => ∃ qb, In3 w l (fun r => !blankP r) qa v1 wr qb) (fun v1 _ => (RowKit.intOf v1).toNat)
      case atStart => exact ⟨qa, ⟨HQa.out, rfl, rfl, Ba.out⟩⟩
      case round =>
        obtain ⟨qb, hJ⟩ := hrel
        obtain ⟨hq, rfl, heq, hb2⟩ := hJ
        have HE := Lib.hid heq
        have BI := Lib.hid hb2
        by_cases hz : qb = 0
        case neg =>
          obtain ⟨qb, rfl⟩ : ∃ m, qb = m + 1 := ⟨qb - 1, by omega⟩
          clear hz
          have hql : qb < l.length := by omega
          obtain ⟨rb, off, rfl, hlt, hcr⟩ := rune_cell (HL.out.below hb2) hql
          have j1 : (0 : Int) ≤ (qb : Int) := by omega
          have j2 : ((qb : Int) < (l.length : Int)) = True := by simp; exact hql
          have j3 : (((qb + 1 : Nat) : Int) > 0) = True := by simp only [gt_iff_lt, eq_iff_iff, iff_true]; omega
          have j4 : ((0 : Int) < ((qb + 1 : Nat) : Int)) = True := by simp only [eq_iff_iff, iff_true]; omega
          have hwq : wrap64 (((qb + 1 : Nat) : Int) - 1) = (qb : Int) := by have := HLEN.out; unfold wrap64; omega
          by_cases hpv : (fun r => !blankP r) l[qb] = true
          · have HPV : Hid (blankP l[qb] = false) := Lib.hid (by simpa [NotP] using hpv)
            have HSTEP : Hid (backN l (fun r => !blankP r) qb = backN l (fun r => !blankP r) qa) := Lib.hid ((backN_step hql hpv).symm.trans heq)
            have HQN := Lib.hid hql
            generalize l[qb] = x at *
            clear hpv heq hb2 hq hql hlt
            generalize hq1 : qb + 1 = zqb at *
            have j5 : (0 < zqb) = True := by simp only [eq_iff_iff, iff_true]; omega
            have HQ1 := Lib.hid hq1
            clear hq1
            go_wp2_with (go_at_call 72; refine (refBlank_any x _).mono ?_; rintro e w2 ⟨rfl, hb3⟩; have Bb := Lib.hid (BI.out.trans (hb3.mono BI.out.size)); rw [HPV.out]; clear hb3)
            go_roundw
            case rel => exact ⟨qb, ⟨Nat.le_of_lt HQN.out, by rw [hwq], HSTEP.out, Bb.out⟩⟩
            case measure => rw [hwq]; clear hwq; have := HQ1.out; simp [RowKit.intOf]; omega
          · have hpv' : (fun r => !blankP r) l[qb] = false := by simpa using hpv
            have HPV : Hid (blankP l[qb] = true) := Lib.hid (by simpa [NotP] using hpv')
            have HSb : Hid (backN l (fun r => !blankP r) qa = qb + 1) := Lib.hid (heq.symm.trans (backN_stop hql hpv'))
            have HQb : Hid (qb + 1 ≤ l.length) := Lib.hid hq
            generalize l[qb] = x at *
            clear hpv hpv' heq hb2 hq hql hlt HE
            generalize hq1 : qb + 1 = zqb at *
            have j5 : (0 < zqb) = True := by simp only [eq_iff_iff, iff_true]; omega
            have HQ1 := Lib.hid hq1
            clear hq1
            go_wp2_with (go_at_call 72; refine (refBlank_any x _).mono ?_; rintro e w2 ⟨rfl, hb3⟩; have Bb := Lib.hid (BI.out.trans (hb3.mono BI.out.size)); rw [HPV.out]; clear hb3)
            go_wp2
            go_ret
            exact ⟨by rw [HFIN.out, HSa.out, HSb.out]; rfl, Bb.out⟩
        · have j2 : (((qb : Nat) : Int) > 0) = False := by simp; omega
          have j3 : ((0 : Int) < ((qb : Nat) : Int)) = False := by simp; omega
          have j4 : (0 < qb) = False := by simp; omega
          have HSb : Hid (backN l (fun r => !blankP r) qa = qb) := Lib.hid (heq.symm.trans (by rw [hz]; rfl))
          have HQb : Hid (qb ≤ l.length) := Lib.hid hq
          have Bb := BI
          clear heq hb2 hq HE hz
          go_wp2
          go_wp2
          go_ret
          exact ⟨by rw [HFIN.out, HSa.out, HSb.out]; rfl, Bb.out⟩
set_option maxRecDepth 1000000 in
theorem refOwn_any (r : Int) (w : World) : Calls Tryd.prog 68 #[.int .i32 r] w fun e w' => e = .returned (.bool (beginsP r)) ∧ Below w.heap.size w w' := by
  have CC := Lib.hid (refControl_any r w)
  have CW := Lib.hid fun W => refWidth_any r W
  have hP : Hid (beginsP r = (decide (wid r ≠ 0) || ctl r)) := Lib.hid rfl
  generalize wid r = q at *
  generalize ctl r = d at *
  cases d with
  | true =>
    go_enter Tryd.func68, Tryd.ntmps68
    go_wp2_with (first
      | (go_at_call 81; refine (CC.out).mono ?_; rintro e w1 ⟨rfl, rfl⟩)
      | (go_at_call 82; refine (CW.out _).mono ?_; rintro e w2 ⟨rfl, hb⟩))
    go_ret
    exact ⟨by rw [hP.out, Bool.or_true]; rfl, Below.refl _ _⟩
  | false =>
    by_cases hq : q = 0
    · subst hq
      go_enter Tryd.func68, Tryd.ntmps68
      go_wp2_with (first
        | (go_at_call 81; refine (CC.out).mono ?_; rintro e w1 ⟨rfl, rfl⟩)
        | (go_at_call 82; refine (CW.out _).mono ?_; rintro e w2 ⟨rfl, hb⟩))
      go_ret
      exact ⟨by rw [hP.out]; rfl, hb⟩
    · have i0 : (q == 0) = false := by simpa using hq
      have i1 : (q = 0) = False := by simpa using hq
      go_enter Tryd.func68, Tryd.ntmps68
      go_wp2_with (first
        | (go_at_call 81; refine (CC.out).mono ?_; rintro e w1 ⟨rfl, rfl⟩)
        | (go_at_call 82; refine (CW.out _).mono ?_; rintro e w2 ⟨rfl, hb⟩))
      go_ret
      exact ⟨by rw [hP.out]; simp [hq], hb⟩
set_option maxRecDepth 1000000 in
set_option maxHeartbeats 8000000 in
theorem refNext_any (w : World) (l : List Int) (A : Option Addr) (c : Nat) (hl : Holds1 w (.slice A l.length c) (runeVals l)) (hlen : l.length ≤ 140737488355328) (k : Int) :
    Calls Tryd.prog 22 #[.slice A l.length c, .int .i64 k] w fun e w' => e = .returned (.int .i64 (nextP l k : Int)) ∧ Below w.heap.size w w' := by
  have CP := Lib.hid (cut_any w A l.length c k)
  have hqs := placeN_le l.length k
  obtain ⟨q1, hq1⟩ : ∃ q1, q1 = placeN l.length ((placeN l.length k + 1 : Nat) : Int) := ⟨_, rfl⟩
  have HFIN0 : nextP l k = aheadN l (fun r => !beginsP r) q1 := by rw [hq1]; rfl
  generalize placeN l.length k = q0 at *
  have hq1' : q1 = if q0 < l.length then q0 + 1 else q0 := by rw [hq1]; unfold placeN; split <;> omega
  have HFIN := Lib.hid HFIN0
  have HL := Lib.hid hl
  have HLEN := Lib.hid hlen
  have Bs := Lib.hid (Below.refl w.heap.size w)
  clear hl HFIN0 hq1
  by_cases hc : q0 < l.length
  · rw [if_pos hc] at hq1'
    have HQs : Hid (q1 ≤ l.length) := Lib.hid (by omega)
    have i1 : IntKind.i64.wrap ((q0 : Int) + 1) = (q1 : Int) := by rw [IntWalk.i64_in _ (by omega)]; omega
    have i2 : wrap64 ((q0 : Int) + 1) = (q1 : Int) := by unfold wrap64; omega
    have i3 : ((q0 : Int) < (l.length : Int)) = True := by simp; exact hc
    have i4 : (q0 < l.length) = True := by simp; exact hc
    clear hc hqs hlen hq1'
    go_enter Tryd.func22, Tryd.ntmps22
    go_wp2_with (go_at_call 65; refine (CP.out).mono ?_; rintro e w1 ⟨rfl, rfl⟩)
    clear i1 i2 i3 i4
    go_loopw [1] (fun v1 wr => ∃ qa, In2 w l (fun r => !beginsP r) q1 v1 wr qa) (fun v1 _ => l.length - (RowKit.intOf v1).toNat)
    case atStart => exact ⟨q1, ⟨HQs.out, rfl, rfl, Bs.out⟩⟩
    case round =>
      obtain ⟨qa, hJ⟩ := hrel
      obtain ⟨hq, rfl, heq, hb2⟩ := hJ
      have HE := Lib.hid heq
      have BI := Lib.hid hb2
      by_cases hql : qa < l.length
      · obtain ⟨rb, off, rfl, hlt, hcr⟩ := rune_cell (HL.out.below hb2) hql
        have j1 : (0 : Int) ≤ (qa : Int) := by omega
        have j2 : ((qa : Int) < (l.length : Int)) = True := by simp; exact hql
        have hwq : wrap64 ((qa : Int) + 1) = (qa : Int) + 1 := by have := HLEN.out; unfold wrap64; omega
        by_cases hpv : (fun r => !beginsP r) l[qa] = true
        · have HPV : Hid (beginsP l[qa] = false) := Lib.hid (by simpa [NotP] using hpv)
          have HSTEP : Hid (aheadN l (fun r => !beginsP r) (qa + 1) = aheadN l (fun r => !beginsP r) q1) := Lib.hid ((aheadN_step hql hpv).symm.trans heq)
          have HQN := Lib.hid hql
          generalize l[qa] = x at *
          clear hpv heq hb2 hq hql hlt
          go_wp2_with (go_at_call 68; refine (refOwn_any x _).mono ?_; rintro e w2 ⟨rfl, hb3⟩; have Ba := Lib.hid (BI.out.trans (hb3.mono BI.out.size)); rw [HPV.out]; clear hb3)
          go_roundw
          case rel => exact ⟨qa + 1, ⟨HQN.out, next_val hwq, HSTEP.out, Ba.out⟩⟩
          case measure => exact measure_lt HQN.out hwq
        · have hpv' : (fun r => !beginsP r) l[qa] = false := by simpa using hpv
          have HPV : Hid (beginsP l[qa] = true) := Lib.hid (by simpa [NotP] using hpv')
          have HSa : Hid (aheadN l (fun r => !beginsP r) q1 = qa) := Lib.hid (heq.symm.trans (aheadN_stop hql hpv'))
          have HQa : Hid (qa ≤ l.length) := Lib.hid hq
          generalize l[qa] = x at *
          clear hpv hpv' heq hb2 hq hql hlt HE
          go_wp2_with (go_at_call 68; refine (refOwn_any x _).mono ?_; rintro e w2 ⟨rfl, hb3⟩; have Ba := Lib.hid (BI.out.trans (hb3.mono BI.out.size)); rw [HPV.out]; clear hb3)
          go_wp2
          go_ret
          exact ⟨by rw [HFIN.out, HSa.out]; rfl, Ba.out⟩
      · obtain rfl : qa = l.length := by omega
        have j2 : ((l.length : Int) < (l.length : Int)) = False := by simp
        have HSa : Hid (aheadN l (fun r => !beginsP r) q1 = l.length) := Lib.hid (heq.symm.trans (aheadN_end (Nat.le_refl _)))
        have HQa : Hid (l.length ≤ l.length) := Lib.hid (Nat.le_refl _)
        have Ba := BI
        clear heq hb2 hq hql HE
        go_wp2
        go_wp2
        go_ret
        exact ⟨by rw [HFIN.out, HSa.out]; rfl, Ba.out⟩
  · rw [if_neg hc] at hq1'
    subst hq1'
    have HQs : Hid (q1 ≤ l.length) := Lib.hid hqs
    have i3 : ((q1 : Int) < (l.length : Int)) = False := by simp; omega
    have i4 : (q1 < l.length) = False := by simp; omega
    clear hc hqs hlen
    go_enter Tryd.func22, Tryd.ntmps22
    go_wp2_with (go_at_call 65; refine (CP.out).mono ?_; rintro e w1 ⟨rfl, rfl⟩)
    clear i3 i4
    go_loopw [1] (fun v1 wr => ∃ qa, In2 w l (fun r => !beginsP r) q1 v1 wr qa) (fun v1 _ => l.length - (RowKit.intOf v1).toNat)
    case atStart => exact ⟨q1, ⟨HQs.out, rfl, rfl, Bs.out⟩⟩
    case round =>
      obtain ⟨qa, hJ⟩ := hrel
      obtain ⟨hq, rfl, heq, hb2⟩ := hJ
      have HE := Lib.hid heq
      have BI := Lib.hid hb2
      by_cases hql : qa < l.length
      · obtain ⟨rb, off, rfl, hlt, hcr⟩ := rune_cell (HL.out.below hb2) hql
        have j1 : (0 : Int) ≤ (qa : Int) := by omega
        have j2 : ((qa : Int) < (l.length : Int)) = True := by simp; exact hql
        have hwq : wrap64 ((qa : Int) + 1) = (qa : Int) + 1 := by have := HLEN.out; unfold wrap64; omega
        by_cases hpv : (fun r => !beginsP r) l[qa] = true
        · have HPV : Hid (beginsP l[qa] = false) := Lib.hid (by simpa [NotP] using hpv)
          have HSTEP : Hid (aheadN l (fun r => !beginsP r) (qa + 1) = aheadN l (fun r => !beginsP r) q1) := Lib.hid ((aheadN_step hql hpv).symm.trans heq)
          have HQN := Lib.hid hql
          generalize l[qa] = x at *
          clear hpv heq hb2 hq hql hlt
          go_wp2_with (go_at_call 68; refine (refOwn_any x _).mono ?_; rintro e w2 ⟨rfl, hb3⟩; have Ba := Lib.hid (BI.out.trans (hb3.mono BI.out.size)); rw [HPV.out]; clear hb3)
          go_roundw
          case rel => exact ⟨qa + 1, ⟨HQN.out, next_val hwq, HSTEP.out, Ba.out⟩⟩
          case measure => exact measure_lt HQN.out hwq
        · have hpv' : (fun r => !beginsP r) l[qa] = false := by simpa using hpv
          have HPV : Hid (beginsP l[qa] = true) := Lib.hid (by simpa [NotP] using hpv')
          have HSa : Hid (aheadN l (fun r => !beginsP r) q1 = qa) := Lib.hid (heq.symm.trans (aheadN_stop hql hpv'))
          have HQa : Hid (qa ≤ l.length) := Lib.hid hq
          generalize l[qa] = x at *
          clear hpv hpv' heq hb2 hq hql hlt HE
          go_wp2_with (go_at_call 68; refine (refOwn_any x _).mono ?_; rintro e w2 ⟨rfl, hb3⟩; have Ba := Lib.hid (BI.out.trans (hb3.mono BI.out.size)); rw [HPV.out]; clear hb3)
          go_wp2
          go_ret
          exact ⟨by rw [HFIN.out, HSa.out]; rfl, Ba.out⟩
      · obtain rfl : qa = l.length := by omega
        have j2 : ((l.length : Int) < (l.length : Int)) = False := by simp
        have HSa : Hid (aheadN l (fun r => !beginsP r) q1 = l.length) := Lib.hid (heq.symm.trans (aheadN_end (Nat.le_refl _)))
        have HQa : Hid (l.length ≤ l.length) := Lib.hid (Nat.le_refl _)
        have Ba := BI
        clear heq hb2 hq hql HE
        go_wp2
        go_wp2
        go_ret
        exact ⟨by rw [HFIN.out, HSa.out]; rfl, Ba.out⟩
set_option maxRecDepth 1000000 in
set_option maxHeartbeats 8000000 in
theorem refPrevious_any (w : World) (l : List Int) (A : Option Addr) (c : Nat) (hl : Holds1 w (.slice A l.length c) (runeVals l)) (hlen : l.length ≤ 140737488355328) (k : Int) :
    Calls Tryd.prog 24 #[.slice A l.length c, .int .i64 k] w fun e w' => e = .returned (.int .i64 (prevP l k : Int)) ∧ Below w.heap.size w w' := by
  have CP := Lib.hid (cut_any w A l.length c k)
  have hqs := placeN_le l.length k
  have HFIN0 : prevP l k = backN l (fun r => !beginsP r) (placeN l.length k) - 1 := rfl
  generalize placeN l.length k = q0 at *
  have HL := Lib.hid hl
  have HLEN := Lib.hid hlen
  have Bs := Lib.hid (Below.refl w.heap.size w)
  clear hl
  by_cases h0 : q0 = 0
  · have HF : Hid (prevP l k = q0) := Lib.hid (by rw [HFIN0, h0]; rfl)
    have i1 : ((q0 : Int) > 0) = False := by simp; omega
    have i2 : ((0 : Int) < (q0 : Int)) = False := by simp; omega
    have i3 : (0 < q0) = False := by simp; omega
    clear HFIN0 hqs hlen h0
    go_enter Tryd.func24, Tryd.ntmps24
    go_wp2_with (go_at_call 65; refine (CP.out).mono ?_; rintro e w1 ⟨rfl, rfl⟩)
    go_loopw [1] (fun v1 wr => v1 = .int .i64 (q0 : Int) ∧ Below w.heap.size w wr) (fun v1 _ => (RowKit.intOf v1).toNat)
    case atStart => exact ⟨rfl, Bs.out⟩
    case round =>
      obtain ⟨rfl, hb⟩ := hrel
      have B := Lib.hid hb
      clear hb
      go_wp2
      go_ret
      exact ⟨by rw [HF.out]; rfl, B.out⟩
  · obtain ⟨m, rfl⟩ : ∃ m, q0 = m + 1 := ⟨q0 - 1, by omega⟩
    have HFIN := Lib.hid HFIN0
    have hm : m < l.length := by omega
    have HM := Lib.hid hm
    obtain ⟨q0, hq0⟩ : ∃ q0, q0 = m + 1 := ⟨_, rfl⟩
    have HQ0 := Lib.hid hq0
    rw [← hq0] at CP
    have i1 : ((q0 : Int) > 0) = True := by simp only [gt_iff_lt, eq_iff_iff, iff_true]; omega
    have i2 : ((0 : Int) < (q0 : Int)) = True := by simp only [eq_iff_iff, iff_true]; omega
    have i3 : (0 < q0) = True := by simp only [eq_iff_iff, iff_true]; omega
    have i4 : wrap64 ((q0 : Int) - 1) = (m : Int) := by unfold wrap64; omega
    have i5 : IntKind.i64.wrap ((q0 : Int) - 1) = (m : Int) := by rw [IntWalk.i64_in _ (by omega)]; omega
    clear HFIN0 hqs hm h0 hlen hq0
    go_enter Tryd.func24, Tryd.ntmps24
    go_wp2_with (go_at_call 65; refine (CP.out).mono ?_; rintro e w1 ⟨rfl, rfl⟩)
    clear i1 i2 i3 i4 i5
    go_loopw [1] (fun v1 wr => ∃ q : Nat, q < l.length ∧ v1 = .int .i64 (q : Int) ∧ backN l (fun r => !beginsP r) (q + 1) = backN l (fun r => !beginsP r) (m + 1) ∧ Below w.heap.size w wr) (fun v1 _ => (RowKit.intOf v1).toNat)
    case atStart => exact ⟨m, HM.out, rfl, rfl, Bs.out⟩
    case round =>
      obtain ⟨q, hq, rfl, heq, hb⟩ := hrel
      have BI := Lib.hid hb
      by_cases hz : q = 0
      · have HF : Hid (prevP l k = q) := Lib.hid (by
          have := backN_le l (fun r => !beginsP r) (q + 1)
          rw [HFIN.out, ← heq]
          omega)
        have j2 : ((q : Int) > 0) = False := by simp; omega
        have j3 : ((0 : Int) < (q : Int)) = False := by simp; omega
        have j4 : (0 < q) = False := by simp; omega
        clear heq hb hq hz
        go_wp2
        go_ret
        exact ⟨by rw [HF.out]; rfl, BI.out⟩
      · obtain ⟨n, hn⟩ : ∃ n, q = n + 1 := ⟨q - 1, by omega⟩
        obtain ⟨rb, off, rfl, hlt, hcr⟩ := rune_cell (HL.out.below hb) hq
        have j1 : (0 : Int) ≤ (q : Int) := by omega
        have j2 : ((q : Int) < (l.length : Int)) = True := by simp; exact hq
        have j3 : ((q : Int) > 0) = True := by simp only [gt_iff_lt, eq_iff_iff, iff_true]; omega
        have j4 : ((0 : Int) < (q : Int)) = True := by simp only [eq_iff_iff, iff_true]; omega
        have j5 : (0 < q) = True := by simp only [eq_iff_iff, iff_true]; omega
        have hwq : wrap64 ((q : Int) - 1) = (n : Int) := by have := HLEN.out; unfold wrap64; omega
        have HNQ : Hid (q = n + 1 ∧ n < l.length) := Lib.hid ⟨hn, by omega⟩
        by_cases hpv : (fun r => !beginsP r) l[q] = true
        · have HPV : Hid (beginsP l[q] = false) := Lib.hid (by simpa using hpv)
          have HSTEP : Hid (backN l (fun r => !beginsP r) (n + 1) = backN l (fun r => !beginsP r) (m + 1)) := Lib.hid (by rw [← hn, ← backN_step hq hpv]; exact heq)
          generalize l[q] = x at *
          clear hpv heq hb hq hlt hz hn
          go_wp2_with (go_at_call 68; refine (refOwn_any x _).mono ?_; rintro e w2 ⟨rfl, hb3⟩; have B2 := Lib.hid (BI.out.trans (hb3.mono BI.out.size)); rw [HPV.out]; clear hb3)
          go_roundw
          case rel => exact ⟨n, HNQ.out.2, by rw [hwq], HSTEP.out, B2.out⟩
          case measure => rw [hwq]; clear hwq; have := HNQ.out.1; simp [RowKit.intOf]; omega
        · have hpv' : (fun r => !beginsP r) l[q] = false := by simpa using hpv
          have HPV : Hid (beginsP l[q] = true) := Lib.hid (by simpa using hpv')
          have HF : Hid (prevP l k = q) := Lib.hid (by rw [HFIN.out, ← heq, backN_stop hq hpv']; rfl)
          generalize l[q] = x at *
          clear hpv hpv' heq hb hq hlt hz hn hwq
          go_wp2_with (go_at_call 68; refine (refOwn_any x _).mono ?_; rintro e w2 ⟨rfl, hb3⟩; have B2 := Lib.hid (BI.out.trans (hb3.mono BI.out.size)); rw [HPV.out]; clear hb3)
          go_ret
          exact ⟨by rw [HF.out]; rfl, B2.out⟩
end Go.Proofs.YtepbhmebidmnbaaDoor
