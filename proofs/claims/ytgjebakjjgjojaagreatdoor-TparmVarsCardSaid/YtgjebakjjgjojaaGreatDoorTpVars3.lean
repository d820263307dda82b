/-
  The law's pairs of variables: how they come to be, and that both are the same.
-/
import Derived.Test.YtgjebakjjgjojaaGreatDoorTpVars2
namespace Go.Proofs.YtgjebakjjgjojaaGreatDoor
open Go.RowKit Go.Shelf Go.Lib Go.Maps
attribute [local go_sem] Oper.semAt_some

/-- the letter of a place in the list -/
def letterAt (i : Nat) : UInt8 := if i % 2 = 1 then UInt8.ofNat (65 + i % 26) else UInt8.ofNat (97 + i % 26)
theorem letterAt_val (i : Nat) : ((letterAt i).toNat : Int) = if i % 2 = 1 then 65 + ((i % 26 : Nat) : Int) else 97 + ((i % 26 : Nat) : Int) := by
  have h := Nat.mod_lt i (show 0 < 26 by decide)
  unfold letterAt
  split
  · simp only [UInt8.toNat_ofNat']; omega
  · simp only [UInt8.toNat_ofNat']; omega
def vGo : List PrmD → Nat → List VE × (Nat → PrmD) → List VE × (Nat → PrmD)
  | [], _, s => s
  | p :: r, i, s => vGo r (i + 1) (setEs (letterAt i) p s.1, setR (letterAt i) p s.2)
def vInit : List VE × (Nat → PrmD) := ([], fun _ => prm0)
/-- both have all the same values -/
def Agree (es : List VE) (a : Nat → PrmD) : Prop := ∀ c, valV es c = refVal a c
theorem letter_iff (c : UInt8) : isLetterP c = false ↔ letterI c < 0 := by
  have := letterI_neg c
  cases h : isLetterP c with
  | true => rw [h] at this; simp at this; simp; omega
  | false => rw [h] at this; simp at this; simp; omega
theorem may_iff (p : PrmD) : mayP p = false ↔ noValP p = true := by unfold mayP; cases noValP p <;> simp
theorem setE_same (c : UInt8) (p : PrmD) : setE c p = setRE c p := by
  unfold setE setRE
  by_cases hc : isLetterP c = false ∨ noValP p = true
  · have hc' : letterI c < 0 ∨ mayP p = false := by rwa [← letter_iff, may_iff]
    rw [if_pos hc, if_pos hc']
  · have hc' : ¬ (letterI c < 0 ∨ mayP p = false) := by rwa [← letter_iff, may_iff]
    rw [if_neg hc, if_neg hc']
theorem Agree.set {es : List VE} {a : Nat → PrmD} (h : Agree es a) (c : UInt8) (p : PrmD) : Agree (setEs c p es) (setR c p a) := by
  unfold setEs setR
  by_cases hc : isLetterP c = false ∨ noValP p = true
  · have hc' : letterI c < 0 ∨ mayP p = false := by rwa [← letter_iff, may_iff]
    rw [if_pos hc, if_pos hc']
    exact h
  · have hc' : ¬ (letterI c < 0 ∨ mayP p = false) := by rwa [← letter_iff, may_iff]
    rw [if_neg hc, if_neg hc']
    intro d
    rw [val_put]
    have hd := h d
    unfold refVal at hd ⊢
    simp only [setV]
    have hc0 : 0 ≤ letterI c := by have := fun h => hc' (.inl h); omega
    by_cases e : c = d
    · subst e
      rw [if_pos rfl, if_neg (by omega), if_pos rfl]
    · rw [if_neg e]
      by_cases hn : letterI d < 0
      · rw [if_pos hn] at hd ⊢; exact hd
      · rw [if_neg hn] at hd ⊢
        rw [if_neg fun e' => e (letterI_inj (by omega) hc0)]
        exact hd
theorem agree_go (l : List PrmD) (i : Nat) (s : List VE × (Nat → PrmD)) (h : Agree s.1 s.2) : Agree (vGo l i s).1 (vGo l i s).2 := by
  induction l generalizing i s with
  | nil => exact h
  | cons p r ih => exact ih _ _ (h.set _ _)
theorem agree_init : Agree vInit.1 vInit.2 := fun c => by
  show prm0 = refVal (fun _ => prm0) c
  unfold refVal
  split <;> rfl

/-- a slice of values that is read -/
structure ArgP (W : World) (A : Option Addr) (cap : Nat) (l : List PrmD) : Prop where
  cap : l.length ≤ cap
  small : l.length ≤ 140737488351232
  cells : 0 < l.length → ∃ b off, A = some ⟨b, off, none⟩ ∧ b < W.heap.size ∧ ∀ i o, l[i]? = some o → ∀ j u, (prmCells o)[j]? = some u → W.cell? ⟨b, off + (i * 3 + j), none⟩ = some u
theorem ArgP.below {W W' : World} {A : Option Addr} {cap : Nat} {l : List PrmD} (h : ArgP W A cap l) (hb : Below W.heap.size W W') : ArgP W' A cap l := by
  refine ⟨h.cap, h.small, fun h0 => ?_⟩
  obtain ⟨b, off, e, hl, hc⟩ := h.cells h0
  exact ⟨b, off, e, Nat.lt_of_lt_of_le hl hb.size, fun i o hi j u hj => (hb.cell (p := ⟨b, off + (i * 3 + j), none⟩) hl).trans (hc i o hi j u hj)⟩

/-- between two values -/
def VarsI (w : World) (vb bm rb : Nat) (l : List PrmD) (x : Value) (W : World) : Prop := ∃ (i : Nat) (s : List VE × (Nat → PrmD)), x = .int .i64 i ∧ i ≤ l.length ∧ VarsS W vb bm s.1 ∧ RefAt W rb s.2 ∧ Below w.heap.size w W ∧ vGo (l.drop i) i s = vGo l 0 vInit
def VarsPost (w : World) (l : List PrmD) (e : Ending) (w' : World) : Prop := ∃ rb, w.heap.size + 2 ≤ rb ∧ e = .returned (.tuple #[.pointer (some ⟨w.heap.size + 1, 0, none⟩), .pointer (some ⟨rb, 0, none⟩)]) ∧ VarsS w' (w.heap.size + 1) w.heap.size (vGo l 0 vInit).1 ∧ RefAt w' rb (vGo l 0 vInit).2 ∧ Below w.heap.size w w'
theorem ref_new (w : World) : RefAt (w.alloc (.cells Tryz.zeroCells60 60)) w.heap.size (fun _ => prm0) := by
  have hz : Tryz.zeroCells60.toList = prmVals (List.replicate 52 prm0) := by kernel_rfl
  refine ⟨_, alloc_new _ _, ?_, fun i j hi hj => ?_⟩
  · rw [← Array.length_toList, hz, prmVals_length, List.length_replicate]
  · rw [← Array.getElem?_toList, hz]
    exact prmVals_at (by rw [List.getElem?_replicate, if_pos hi]) j hj
theorem ref_mid {wr w2 : World} {o : Obj} {rb bm : Nat} {a : Nat → PrmD} (hR : RefAt wr rb a) (hT : Touch (fun k => k = bm) (wr.alloc o) w2) (hne : rb ≠ bm) : RefAt w2 rb a :=
  (hR.below ((Below.refl _ _).alloc (Nat.le_refl _) o)).same (hT.block _ (by have := hR.lt; simp; omega) hne)
theorem vars_last {w2 w3 : World} {vb bm rb : Nat} {es : List VE} (hS : VarsS w2 vb bm es) (hT : Touch (fun k => k = rb) w2 w3) (hv : vb ≠ rb) (hb : bm ≠ rb) : VarsS w3 vb bm es :=
  hS.same (hT.block _ hS.at.lt.1 hv) (hT.block _ hS.at.lt.2 hb)
theorem box_mid {wr w2 : World} {bm : Nat} {n : Int} {t : List UInt8} {b : Bool} (hbm : bm < wr.heap.size) (hT : Touch (fun k => k = bm) (wr.alloc (.cells #[.int .i32 n, str t, .bool b] 24)) w2) : w2.cell? ⟨wr.heap.size, 0, none⟩ = some (.int .i32 n) ∧ w2.cell? ⟨wr.heap.size, 1, none⟩ = some (str t) ∧ w2.cell? ⟨wr.heap.size, 2, none⟩ = some (.bool b) := by
  have hk : w2.heap[wr.heap.size]? = some (.cells #[.int .i32 n, str t, .bool b] 24 (0, 0)) := (hT.block _ (by simp) (fun e => by omega)).trans (alloc_new wr _)
  exact ⟨cell_of_row _ _ 0 _ _ _ hk, cell_of_row _ _ 1 _ _ _ hk, cell_of_row _ _ 2 _ _ _ hk⟩
theorem below_round {w wr w2 w3 : World} {o : Obj} {bm rb : Nat} (hB : Below w.heap.size w wr) (h2 : Touch (fun k => k = bm) (wr.alloc o) w2) (h3 : Touch (fun k => k = rb) w2 w3) (hbm : w.heap.size ≤ bm) (hrb : w.heap.size ≤ rb) : Below w.heap.size w w3 := by
  have s1 : w.heap.size ≤ (wr.alloc o).heap.size := Nat.le_trans hB.size (by simp)
  have b2 : Below w.heap.size (wr.alloc o) w2 := h2.below s1 fun k hk => hk ▸ hbm
  have b3 : Below w.heap.size w2 w3 := h3.below (Nat.le_trans s1 h2.size) fun k hk => hk ▸ hrb
  exact ((hB.alloc hB.size o).trans b2).trans b3
set_option maxRecDepth 100000 in
set_option maxHeartbeats 2000000 in
theorem vars_any (w : World) (A : Option Addr) (cap : Nat) (l : List PrmD) (h : ArgP w A cap l) :
    Calls Tryz.prog 7 #[.slice A l.length cap] w (VarsPost w l) := by
  have CN := Lib.hid (newVarsS_any w)
  have HA := Lib.hid h
  have HS := Lib.hid h.small
  clear h
  go_enter Tryz.func7, Tryz.ntmps7
  go_wp2_with (go_at_call 16; refine (CN.out).mono ?_; rintro e w1 ⟨rfl, hv1, hb1⟩; have HV1 := Lib.hid hv1; have HB1 := Lib.hid hb1; clear hv1 hb1)
  have HRB := Lib.hid (show w.heap.size + 2 ≤ w1.heap.size from HV1.out.at.lt.1)
  go_loopw [16] (fun x W => VarsI w (w.heap.size + 1) w.heap.size w1.heap.size l x W) (fun x _ => l.length - (RowKit.intOf x).toNat)
  case atStart => exact ⟨0, vInit, rfl, Nat.zero_le _, HV1.out.below ((Below.refl _ _).alloc (Nat.le_refl _) _), ref_new w1, HB1.out.alloc HB1.out.size _, rfl⟩
  case round =>
    obtain ⟨i, s, rfl, hi, hv, hr, hb, hg⟩ := hrel
    have HV := Lib.hid hv
    have HR := Lib.hid hr
    have HB := Lib.hid hb
    have HG := Lib.hid hg
    clear hv hr hb hg
    by_cases hlt : i < l.length
    · obtain ⟨p, hp⟩ : ∃ p, l[i]? = some p := ⟨l[i], by simp [hlt]⟩
      obtain ⟨b, off, rfl, hbk, hc⟩ := (HA.out.below HB.out).cells (by omega)
      have d0 : wr.cell? ⟨b, off + i * 3, none⟩ = some (.int .i32 p.num) := hc i p hp 0 _ rfl
      have d1 : wr.cell? ⟨b, off + i * 3 + 1, none⟩ = some (str p.text) := by have := hc i p hp 1 _ rfl; rwa [← Nat.add_assoc] at this
      have d2 : wr.cell? ⟨b, off + i * 3 + 2, none⟩ = some (.bool p.is) := by have := hc i p hp 2 _ rfl; rwa [← Nat.add_assoc] at this
      have hdrop : l.drop i = p :: l.drop (i + 1) := by rw [List.drop_eq_getElem_cons hlt]; congr 1; rw [List.getElem?_eq_getElem hlt] at hp; exact Option.some.inj hp
      have hg' := HG.out
      rw [hdrop] at hg'
      have HG2 := Lib.hid (show vGo (l.drop (i + 1)) (i + 1) (setEs (letterAt i) p s.1, setR (letterAt i) p s.2) = _ from hg')
      have hi1 : (i : Int) < (l.length : Int) := by omega
      have hi2 : (0 : Int) ≤ (i : Int) := by omega
      have hi3 : (i : Int) ≤ 140737488351232 := by have := HS.out; omega
      have HLT := Lib.hid hlt
      have CS := Lib.hid (fun (W : World) (hW : VarsS W (w.heap.size + 1) w.heap.size s.1) => varSet_any W _ _ s.1 (letterAt i) p hW)
      have CR := Lib.hid (fun (W : World) (hW : RefAt W w1.heap.size s.2) => refSet_any W _ s.2 (letterAt i) p hW)
      have hz := letterAt_val i
      have hzr : (0 : Int) ≤ ((letterAt i).toNat : Int) ∧ ((letterAt i).toNat : Int) < 256 := by have := (letterAt i).toNat_lt; omega
      have hm : (i : Int).tmod 26 = ((i % 26 : Nat) : Int) := by rw [Int.tmod_eq_emod_of_nonneg hi2]; omega
      have hm1 : ((i % 26 : Nat) : Int) < 26 := by omega
      have hm0 : (0 : Int) ≤ ((i % 26 : Nat) : Int) := by omega
      have hpar := Nat.mod_two_eq_zero_or_one i
      have h2 : (i : Int).tmod 2 = ((i % 2 : Nat) : Int) := by rw [Int.tmod_eq_emod_of_nonneg hi2]; omega
      obtain ⟨n, t, bb⟩ := p
      clear hc hp hdrop hg' hi hlt hbk
      unfold SetPost at CS
      unfold RSetPost at CR
      rcases hpar with hq | hq
      · rw [hq] at h2
        rw [hq, if_neg (by decide)] at hz
        generalize ((i % 26 : Nat) : Int) = m at *
        generalize ((letterAt i).toNat : Int) = z at *
        subst hz
        have wz : IntKind.u8.wrap (97 + m) = 97 + m := by rw [IntKind.wrap_u8]; omega
        have wm : wrap64 (97 + m) = 97 + m := by unfold wrap64; omega
        have wm2 : wrap64 m = m := by unfold wrap64; omega
        go_wp2_with (first
          | (go_at_call 11; refine (CS.out _ (HV.out.below ((Below.refl _ _).alloc (Nat.le_refl _) _))).mono ?_; rintro e w2 ⟨rfl, hS2, hT2⟩; have hr2 := ref_mid HR.out hT2 (by have := HRB.out; omega); obtain ⟨y0, y1, y2⟩ := box_mid HV.out.at.lt.2 hT2; have HS2 := Lib.hid hS2; have HT2 := Lib.hid hT2; have HR2 := Lib.hid hr2; clear hS2 hT2 hr2)
          | (go_at_call 12; refine (CR.out _ HR2.out).mono ?_; rintro e w3 ⟨rfl, hR3, hT3⟩; have HR3 := Lib.hid hR3; have HT3 := Lib.hid hT3; clear hR3 hT3))
        go_roundw
        case rel => exact ⟨i + 1, _, rfl, HLT.out, vars_last HS2.out HT3.out (by have := HRB.out; omega) (by have := HRB.out; omega), HR3.out, below_round HB.out HT2.out HT3.out (Nat.le_refl _) (by have := HRB.out; omega), HG2.out⟩
        case measure => have := HLT.out; simp [RowKit.intOf]; omega
      · rw [hq] at h2
        rw [hq, if_pos rfl] at hz
        generalize ((i % 26 : Nat) : Int) = m at *
        generalize ((letterAt i).toNat : Int) = z at *
        subst hz
        have wz : IntKind.u8.wrap (65 + m) = 65 + m := by rw [IntKind.wrap_u8]; omega
        have wm : wrap64 (65 + m) = 65 + m := by unfold wrap64; omega
        have wm2 : wrap64 m = m := by unfold wrap64; omega
        go_wp2_with (first
          | (go_at_call 11; refine (CS.out _ (HV.out.below ((Below.refl _ _).alloc (Nat.le_refl _) _))).mono ?_; rintro e w2 ⟨rfl, hS2, hT2⟩; have hr2 := ref_mid HR.out hT2 (by have := HRB.out; omega); obtain ⟨y0, y1, y2⟩ := box_mid HV.out.at.lt.2 hT2; have HS2 := Lib.hid hS2; have HT2 := Lib.hid hT2; have HR2 := Lib.hid hr2; clear hS2 hT2 hr2)
          | (go_at_call 12; refine (CR.out _ HR2.out).mono ?_; rintro e w3 ⟨rfl, hR3, hT3⟩; have HR3 := Lib.hid hR3; have HT3 := Lib.hid hT3; clear hR3 hT3))
        go_roundw
        case rel => exact ⟨i + 1, _, rfl, HLT.out, vars_last HS2.out HT3.out (by have := HRB.out; omega) (by have := HRB.out; omega), HR3.out, below_round HB.out HT2.out HT3.out (Nat.le_refl _) (by have := HRB.out; omega), HG2.out⟩
        case measure => have := HLT.out; simp [RowKit.intOf]; omega
    · obtain rfl : i = l.length := by omega
      go_wp2_with fail
      have hg := HG.out
      rw [List.drop_length] at hg
      have hg' : s = vGo l 0 vInit := hg
      refine bodyPost_ret (v := .tuple #[.pointer (some ⟨w.heap.size + 1, 0, none⟩), .pointer (some ⟨w1.heap.size, 0, none⟩)]) (by simp [results, Tryz.results7, go_sem]) rfl ⟨w1.heap.size, HRB.out, rfl, ?_, ?_, HB.out⟩
      · rw [← hg']; exact HV.out
      · rw [← hg']; exact HR.out

/-- values of variables that are equal -/
theorem neq_prm (p : PrmD) (w : World) : (binOp .neq 24 (prmVal p) (prmVal p)).run Tryz.prog w = .ok (.bool false) w := by
  obtain ⟨n, t, b⟩ := p
  simp [go_sem]
/-- between two bytes -/
def SameI (w : World) (x : Value) (W : World) : Prop := ∃ i : Nat, x = .int .i64 i ∧ i ≤ 256 ∧ Below w.heap.size w W
set_option maxRecDepth 100000 in
set_option maxHeartbeats 2000000 in
theorem same_any (w : World) (vb bm rb : Nat) (es : List VE) (a : Nat → PrmD) (hv : VarsS w vb bm es) (hr : RefAt w rb a) (hg : Agree es a) :
    Calls Tryz.prog 9 #[.pointer (some ⟨vb, 0, none⟩), .pointer (some ⟨rb, 0, none⟩)] w fun e w' => e = .returned (.bool true) ∧ Below w.heap.size w w' := by
  have CG := Lib.hid (fun (c : UInt8) (W : World) (hW : Below w.heap.size w W) => varGet_any W vb bm (valV es) c (hv.below hW).at)
  have CR := Lib.hid (fun (c : UInt8) (W : World) (hW : Below w.heap.size w W) => refGet_any W rb a c (hr.below hW))
  have HG := Lib.hid hg
  clear hv hr hg
  go_enter Tryz.func9, Tryz.ntmps9
  go_wp2_with fail
  go_loopw [6] (fun x W => SameI w x W) (fun x _ => 256 - (RowKit.intOf x).toNat)
  case atStart => exact ⟨0, rfl, by omega, Below.refl _ _⟩
  case round =>
    obtain ⟨i, rfl, hi, hb⟩ := hrel
    have HB := Lib.hid hb
    clear hb
    by_cases hlt : i < 256
    · have hi1 : (i : Int) < 256 := by omega
      have hi2 : (0 : Int) ≤ (i : Int) := by omega
      have hw8 : IntKind.u8.wrap (i : Int) = (i : Int) := by rw [IntKind.wrap_u8]; omega
      obtain ⟨c, hc⟩ : ∃ c : UInt8, (c.toNat : Int) = (i : Int) := ⟨UInt8.ofNat i, by simp only [UInt8.toNat_ofNat']; omega⟩
      have CG1 := Lib.hid (CG.out c)
      have CR1 := Lib.hid (CR.out c)
      rw [hc] at CG1 CR1
      rw [← HG.out c] at CR1
      generalize valV es c = p at *
      have hq := neq_prm p
      have HLT := Lib.hid hlt
      clear CG CR HG hc hlt hi
      go_wp2_with (first
        | (go_at_call 21; refine (CG1.out _ HB.out).mono ?_; rintro e w2 ⟨rfl, hb2⟩; have HB2 := Lib.hid (HB.out.trans (hb2.mono HB.out.size)); clear hb2)
        | (go_at_call 23; refine (CR1.out _ HB2.out).mono ?_; rintro e w3 ⟨rfl, hb3⟩; have HB3 := Lib.hid (HB2.out.trans (hb3.mono HB2.out.size)); clear hb3))
      go_roundw
      case rel => exact ⟨i + 1, rfl, HLT.out, HB3.out⟩
      case measure => have := HLT.out; simp [RowKit.intOf]; omega
    · obtain rfl : i = 256 := by omega
      go_wp2_with fail
      go_ret
      exact ⟨rfl, HB.out⟩
end Go.Proofs.YtgjebakjjgjojaaGreatDoor
