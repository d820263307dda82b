/-
  The reader of package tinfo: the counts of the extended part, and what is counted.
  The reader of package tinfo: the names of the extended part.
  The reader of package tinfo: the extended capabilities get their names.
  The reader of package tinfo: the extended part.
-/
import Derived.Test.YtcfgppjhgobboaaGreatDoorTiHead
import Derived.Test.YtcfgppjhgobboaaGreatDoorTmGet
import Derived.Deep.RegionLaw
import Derived.StillTailTactics
namespace Go.Proofs.YtcfgppjhgobboaaGreatDoor
section
open Go.RowKit Go.Shelf Go.Lib
attribute [local go_sem] Oper.semAt_some

/-- behind the head of the extended part -/
def ExtHeadPost (w : World) (rb : Nat) (v : Value) (b : List UInt8) (p size : Nat) (e : Ending) (w' : World) : Prop :=
  Touch (fun k => k = rb) w w' ∧
  if b.length < p + 10 then e = flawE b.length 31
  else match firstBad 5 (extBad b p) with
    | some i => e = flawE (p + 2 * i) 32
    | none => ∃ A cap, e = .returned (.slice A 5 cap) ∧ RobI (fun k => k < w.heap.size) w' (.slice A 5 cap) (shortsAt b p 5) ∧ RdAt w' rb v b (p + 10) size
theorem ExtHeadPost.short {w w' : World} {rb : Nat} {v : Value} {b : List UInt8} {p size : Nat} (h : b.length < p + 10) (ht : Touch (fun k => k = rb) w w') : ExtHeadPost w rb v b p size (flawE b.length 31) w' := ⟨ht, by rw [if_pos h]⟩
theorem ExtHeadPost.bad {w w' : World} {rb : Nat} {v : Value} {b : List UInt8} {p size k : Nat} (h : ¬ b.length < p + 10) (hk : k < 5) (hg : ∀ j, j < k → extBad b p j = false) (hb : extBad b p k = true) (ht : Touch (fun k => k = rb) w w') : ExtHeadPost w rb v b p size (flawE (p + 2 * k) 32) w' :=
  ⟨ht, by rw [if_neg h, firstBad_some hk hb hg]⟩
theorem ExtHeadPost.ok {w w' : World} {rb : Nat} {v : Value} {b : List UInt8} {p size : Nat} {A : Option Addr} {cap : Nat} (h : ¬ b.length < p + 10) (hg : ∀ j, j < 5 → extBad b p j = false) (ht : Touch (fun k => k = rb) w w')
    (hr : RobI (fun k => k < w.heap.size) w' (.slice A 5 cap) (shortsAt b p 5)) (hrd : RdAt w' rb v b (p + 10) size) : ExtHeadPost w rb v b p size (.returned (.slice A 5 cap)) w' :=
  ⟨ht, by rw [if_neg h, firstBad_none.2 hg]; exact ⟨A, cap, rfl, hr, hrd⟩⟩
def sumTo (b : List UInt8) (p : Nat) : Nat → Int
  | 0 => 0
  | k + 1 => sumTo b p k + shortAt b (p + 2 * k)
theorem sumTo_bd (b : List UInt8) (p k : Nat) : -32768 * (k : Int) ≤ sumTo b p k ∧ sumTo b p k ≤ 32768 * (k : Int) := by
  induction k with
  | zero => simp [sumTo]
  | succ k ih =>
    have := short_bd b (p + 2 * k)
    unfold sumTo
    omega
def ExtR (b : List UInt8) (p : Nat) (x i : Value) : Prop := ∃ k : Nat, i = .int .i64 k ∧ x = .int .i64 (sumTo b p k) ∧ k ≤ 5 ∧ ∀ j, j < k → extBad b p j = false
theorem ExtR.next {b : List UInt8} {p k : Nat} {s : Int} (hk : k < 5) (hs : s = sumTo b p (k + 1)) (hg : ∀ j, j < k → extBad b p j = false) (h : extBad b p k = false) : ExtR b p (.int .i64 s) (.int .i64 ((k : Int) + 1)) :=
  ⟨k + 1, by go_num, by rw [hs], hk, fun j hj => by
    rcases Nat.lt_or_ge j k with h1 | h1
    · exact hg j h1
    · obtain rfl : j = k := by omega
      exact h⟩
theorem extBad_two {b : List UInt8} {p k : Nat} (hk : k = 2) : extBad b p k = (decide (shortAt b (p + 2 * k) < 0) || decide (256 < sumTo b p (k + 1))) := by
  subst hk
  unfold extBad
  simp [sumTo]
theorem extBad_other {b : List UInt8} {p k : Nat} (hk : ¬ k = 2) : extBad b p k = decide (shortAt b (p + 2 * k) < 0) := by
  unfold extBad
  simp [hk]
theorem exth_short (w : World) (rb : Nat) (v : Value) (b : List UInt8) (p size : Nat) (h : RdAt w rb v b p size) (hl : b.length < p + 10) :
    Calls Tryz.prog 118 #[.pointer (some ⟨rb, 0, none⟩)] w (ExtHeadPost w rb v b p size) := by
  obtain ⟨c0, c1, c2, _, _, _⟩ := h.cells
  have CT := Lib.hid (shorts_bad w rb v b p size 5 h (by omega) (by omega))
  have HL := Lib.hid hl
  clear h hl
  go_enter Tryz.func118, Tryz.ntmps118
  go_wp2_with (go_at_call 68; (refine (CT.out).mono ?_); rintro e w' ⟨rfl, hs⟩; have HS := Lib.hid hs; clear hs)
  exact ⟨rfl, ExtHeadPost.short HL.out HS.out⟩
set_option maxRecDepth 100000 in
set_option maxHeartbeats 4000000 in
theorem exth_long (w : World) (rb : Nat) (A : Option Addr) (cap : Nat) (b : List UInt8) (p size : Nat) (h : RdAt w rb (.slice A b.length cap) b p size) (hl : ¬ b.length < p + 10) :
    Calls Tryz.prog 118 #[.pointer (some ⟨rb, 0, none⟩)] w (ExtHeadPost w rb (.slice A b.length cap) b p size) := by
  obtain ⟨c0, c1, c2, _, _, _⟩ := h.cells
  have CT := Lib.hid (shorts_ok w rb A cap b p size 5 h (by omega) (by omega))
  have HL := Lib.hid hl
  have HLT := Lib.hid h.lt
  have hpb : (p : Int) ≤ 140737488351232 := by have := h.pos; have := h.val.size; omega
  clear h hl
  go_enter Tryz.func118, Tryz.ntmps118
  go_wp2_with (go_at_call 68; (refine (CT.out).mono ?_); rintro e w2 ⟨u0, rfl, hr0, ho0, hs2⟩; have HROW := Lib.hid (RobI.of_row (T := fun k => k < w.heap.size) hr0 (fun k hk => by have := ho0 k hk; omega) (by rw [shorts_length]; omega)); obtain ⟨B1, bc1, hB1, hIN⟩ := hr0.reads_n (shorts_length _ _ _) (by omega); subst hB1; have HS := Lib.hid hs2; clear hs2 hIN hr0 ho0 c0 c1 c2)
  go_loop [5, 16] (ExtR b p) (fun _ i => 5 - (RowKit.intOf i).toNat)
  case atStart => exact ⟨0, rfl, rfl, by omega, fun j hj => by omega⟩
  case round =>
    obtain ⟨k, rfl, rfl, hk, hg⟩ := hrel
    have HG := Lib.hid hg
    by_cases hk5 : k < 5
    · have HLK := Lib.hid hk5
      obtain ⟨ka2, oa2, rfl, _, hc⟩ := HROW.out.val.cell (shorts_at b p 5 k hk5)
      have hb1 := sumTo_bd b p k
      have hb2 := short_bd b (p + 2 * k)
      have HSUM : Hid (sumTo b p k + shortAt b (p + 2 * k) = sumTo b p (k + 1)) := Lib.hid rfl
      have HB2 := Lib.hid (@extBad_two b p k)
      have HBO := Lib.hid (@extBad_other b p k)
      have CX := Lib.hid (fun W => fail_at W ((p : Int) + 2 * (k : Int)) (p + 2 * k) 32 (by omega))
      have i1 : (0 : Int) ≤ (k : Int) := by omega
      have i2 : (k : Int) < 5 := by omega
      generalize sumTo b p k = s at *
      generalize shortAt b (p + 2 * k) = z at *
      have hb3 : -163840 ≤ s := by omega
      have hb4 : s ≤ 163840 := by omega
      have hb5 : -32768 ≤ z := hb2.1
      have hb6 : z ≤ 32767 := hb2.2
      clear hk hg hk5 hb1 hb2
      by_cases h1 : z < 0
      · have HBad : Hid (extBad b p k = true) := Lib.hid (by
          by_cases h2 : k = 2
          · rw [HB2.out h2]; simp [h1]
          · rw [HBO.out h2]; simp [h1])
        go_wp2_with (go_at_call 72; refine (CX.out _).mono ?_; rintro e w' ⟨rfl, rfl⟩)
        exact ⟨rfl, ExtHeadPost.bad HL.out HLK.out HG.out HBad.out HS.out.2⟩
      · have h1' : 0 ≤ z := by omega
        by_cases h2 : k = 2
        · have hkb : ((k : Int) == 2) = true := by simp; omega
          by_cases h3 : 256 < s + z
          · have HBad : Hid (extBad b p k = true) := Lib.hid (by rw [HB2.out h2, ← HSUM.out]; simp [h3])
            clear h2
            go_wp2_with (go_at_call 72; refine (CX.out _).mono ?_; rintro e w' ⟨rfl, rfl⟩)
            exact ⟨rfl, ExtHeadPost.bad HL.out HLK.out HG.out HBad.out HS.out.2⟩
          · have HOk : Hid (extBad b p k = false) := Lib.hid (by rw [HB2.out h2, ← HSUM.out]; simp [h3, h1])
            clear h2
            have h3' : s + z ≤ 256 := by omega
            go_wp2_with fail
            go_round
            case rel => exact ExtR.next HLK.out HSUM.out HG.out HOk.out
            case measure => have := HLK.out; simp [RowKit.intOf]; omega
        · have hkb : ((k : Int) == 2) = false := by simp; omega
          have HOk : Hid (extBad b p k = false) := Lib.hid (by rw [HBO.out h2]; simp [h1])
          clear h2
          go_wp2_with fail
          go_round
          case rel => exact ExtR.next HLK.out HSUM.out HG.out HOk.out
          case measure => have := HLK.out; simp [RowKit.intOf]; omega
    · obtain rfl : k = 5 := by omega
      clear hk hg
      go_wp2_with fail
      go_ret
      exact ExtHeadPost.ok HL.out HG.out HS.out.2 HROW.out HS.out.1

set_option maxRecDepth 100000 in
theorem countPresent_any (w : World) (A : Option Addr) (n cap : Nat) (is : List Int) (h : IntsV w (.slice A n cap) is) :
    Calls Tryz.prog 119 #[.slice A n cap] w fun e w' => e = .returned (.int .i64 (presentP is : Nat)) ∧ w = w' := by
  obtain ⟨hnl, hcap⟩ : is.length = n ∧ n ≤ 100000 := by obtain ⟨_, _, e, _, h2, _⟩ := h; injection e with _ e; exact ⟨e.symm, by omega⟩
  have HLL := Lib.hid hnl
  have HIN := Lib.hid h
  clear h hnl
  go_enter Tryz.func119, Tryz.ntmps119
  go_wp2_with fail
  go_loop [3, 8] (fun c i => ∃ k : Nat, i = .int .i64 k ∧ k ≤ n ∧ c = .int .i64 (presentP (is.take k) : Nat)) (fun _ i => n - (RowKit.intOf i).toNat)
  case atStart => exact ⟨0, rfl, Nat.zero_le _, rfl⟩
  case round =>
    obtain ⟨k, rfl, hk, rfl⟩ := hrel
    by_cases hlt : k < n
    · obtain ⟨z, hz⟩ : ∃ z, is[k]? = some z := ⟨_, List.getElem?_eq_getElem (by rw [HLL.out]; exact hlt)⟩
      obtain ⟨ka, oa, rfl, hka, hcell⟩ := HIN.out.cell hz
      have i1 : (0 : Int) ≤ (k : Int) := by omega
      have i2 : (k : Int) < (n : Int) := by omega
      have hle : presentP (is.take k) ≤ k := Nat.le_trans (List.countP_le_length) (List.length_take_le _ _)
      have HN : Hid (presentP (is.take (k + 1)) = presentP (is.take k) + if 0 ≤ z then 1 else 0) := Lib.hid (by
        unfold presentP
        rw [List.take_add_one, hz, List.countP_append]
        simp)
      have HLK := Lib.hid hlt
      have CF := Lib.hid (fun W => valueState_any W z)
      generalize presentP (is.take k) = c at *
      have i3 : (c : Int) ≤ 100000 := by omega
      have i4 : (0 : Int) ≤ (c : Int) := by omega
      clear hk hz hle
      by_cases h0 : 0 ≤ z
      · have hst : stateOf z = 1 := by unfold stateOf; rw [if_pos h0]
        rw [hst] at CF
        have HN1 : Hid (presentP (is.take (k + 1)) = c + 1) := Lib.hid (by rw [HN.out, if_pos h0])
        clear hst h0
        go_wp2_with (go_at_call 115; (with_reducible refine (CF.out _).mono ?_); rintro e w' ⟨rfl, rfl⟩)
        go_round
        case rel => exact ⟨k + 1, by go_num, HLK.out, by rw [HN1.out]; go_num⟩
        case measure => have := HLK.out; simp [RowKit.intOf]; omega
      · have hst : (stateOf z == 1) = false := by unfold stateOf; rw [if_neg h0]; split <;> rfl
        have HN1 : Hid (presentP (is.take (k + 1)) = c) := Lib.hid (by rw [HN.out, if_neg h0]; rfl)
        generalize stateOf z = st at *
        clear h0
        go_wp2_with (go_at_call 115; (with_reducible refine (CF.out _).mono ?_); rintro e w' ⟨rfl, rfl⟩)
        go_round
        case rel => exact ⟨k + 1, by go_num, HLK.out, by rw [HN1.out]⟩
        case measure => have := HLK.out; simp [RowKit.intOf]; omega
    · obtain rfl : k = n := by omega
      have HALL : Hid (is.take k = is) := Lib.hid (List.take_of_length_le (by rw [HLL.out]; exact Nat.le_refl _))
      clear hk
      go_wp2_with fail
      go_ret
      exact ⟨ret_int (by rw [HALL.out]), rfl⟩

/-- while the end of the texts is looked for -/
def EndR (w : World) (is : List Int) (caps : List CapD) (n : Nat) (l e i : Value) (W : World) : Prop :=
  ∃ (k : Nat) (x y : Int), i = .int .i64 k ∧ l = .int .i64 x ∧ e = .int .i64 y ∧ k ≤ n ∧ endOf is caps (-1, 0) = endOf (is.drop k) (caps.drop k) (x, y) ∧ ∃ N, W = w.drewN N
theorem endOf_step {is : List Int} {caps : List CapD} {k : Nat} {z : Int} {c : CapD} (hz : is[k]? = some z) (hc : caps[k]? = some c) (x y : Int) : endOf (is.drop k) (caps.drop k) (x, y) = endOf (is.drop (k + 1)) (caps.drop (k + 1)) (if x < z then (z, z + c.text.length + 1) else (x, y)) := by
  have h1 := (List.getElem?_eq_some_iff.1 hz)
  have h2 := (List.getElem?_eq_some_iff.1 hc)
  obtain ⟨h1, e1⟩ := h1
  obtain ⟨h2, e2⟩ := h2
  rw [List.drop_eq_getElem_cons h1, List.drop_eq_getElem_cons h2, e1, e2]
  rfl
set_option maxRecDepth 100000 in
set_option maxHeartbeats 2000000 in
theorem endOfTexts_any (w : World) (A : Option Addr) (n cap : Nat) (is : List Int) (B : Option Addr) (m bc : Nat) (caps : List CapD) (h : IntsV w (.slice A n cap) is) (h2 : CapsV w (.slice B m bc) caps) (hm : m = n)
    (hz : ∀ z ∈ is, -32768 ≤ z ∧ z ≤ 32767) (hc : ∀ c ∈ caps, c.text.length ≤ 1000) :
    Calls Tryz.prog 121 #[.slice A n cap, .slice B m bc] w fun e w' => e = .returned (.int .i64 (endOf is caps (-1, 0)).2) ∧ ∃ N, w' = w.drewN N := by
  subst hm
  obtain ⟨hnl, hcap⟩ : is.length = m ∧ m ≤ 100000 := by obtain ⟨_, _, e, _, h2, _⟩ := h; injection e with _ e; exact ⟨e.symm, by omega⟩
  have hml : caps.length = m := by obtain ⟨_, _, e, _⟩ := h2; injection e with _ e; exact e.symm
  have HLL := Lib.hid (And.intro hnl hml)
  have HIN := Lib.hid h
  have HCV := Lib.hid h2
  have HZ := Lib.hid (And.intro hz hc)
  have HI := Lib.hid (show EndR w is caps m (.int .i64 (-1)) (.int .i64 0) (.int .i64 0) w from ⟨0, -1, 0, rfl, rfl, rfl, Nat.zero_le _, rfl, 0, rfl⟩)
  clear h h2 hz hc hnl hml
  go_enter Tryz.func121, Tryz.ntmps121
  go_wp2_with fail
  go_loopw [5, 6, 11] (fun l e i wr => EndR w is caps m l e i wr) (fun _ _ i _ => m - (RowKit.intOf i).toNat)
  case atStart => exact HI.out
  case round =>
    obtain ⟨k, x, y, rfl, rfl, rfl, hk, he, N, hW⟩ := hrel
    have HW := Lib.hid hW
    by_cases hlt : k < m
    · obtain ⟨z, hz⟩ : ∃ z, is[k]? = some z := ⟨_, List.getElem?_eq_getElem (by rw [HLL.out.1]; exact hlt)⟩
      obtain ⟨c, hc⟩ : ∃ c, caps[k]? = some c := ⟨_, List.getElem?_eq_getElem (by rw [HLL.out.2]; exact hlt)⟩
      obtain ⟨ka, oa, rfl, hka, hcell⟩ := (HIN.out.below (hW ▸ drewN_below w N : Below w.heap.size w wr)).cell hz
      obtain ⟨kb, ob, rfl, hkb, g0, g1, g2⟩ := (HCV.out.below (hW ▸ drewN_below w N : Below w.heap.size w wr)).cells hc
      have i1 : (0 : Int) ≤ (k : Int) := by omega
      have i2 : (k : Int) < (m : Int) := by omega
      obtain ⟨b1, b2⟩ := HZ.out.1 z (List.mem_of_getElem? hz)
      have b3 := HZ.out.2 c (List.mem_of_getElem? hc)
      have b4 : (c.text.length : Int) ≤ 1000 := by omega
      have HE := Lib.hid (he.trans (endOf_step hz hc x y))
      have HLK := Lib.hid hlt
      clear hk hz hc hka hkb he b3 hW
      by_cases h0 : x < z
      · have HE1 := Lib.hid (HE.out.trans (by rw [if_pos h0]))
        go_wp2_with fail
        go_quiet (fail)
        go_wp2_with fail
        go_roundw
        case rel => exact ⟨k + 1, z, _, by go_num, rfl, rfl, HLK.out, HE1.out, by rw [HW.out]; exact drewN_two' w _ _⟩
        case measure => have := HLK.out; simp [RowKit.intOf]; omega
      · have HE1 := Lib.hid (HE.out.trans (by rw [if_neg h0]))
        go_wp2_with fail
        go_roundw
        case rel => exact ⟨k + 1, x, y, by go_num, rfl, rfl, HLK.out, HE1.out, N, HW.out⟩
        case measure => have := HLK.out; simp [RowKit.intOf]; omega
    · obtain rfl : k = m := by omega
      have HE1 : Hid (endOf is caps (-1, 0) = (x, y)) := Lib.hid (by rw [he, List.drop_of_length_le (by rw [HLL.out.1]; exact Nat.le_refl _)]; rfl)
      clear hk he hW
      go_wp2_with fail
      go_ret
      exact ⟨ret_int (by rw [HE1.out]), N, HW.out⟩
end

section
open Go.RowKit Go.Shelf Go.Lib Go.Maps
attribute [local go_sem] Oper.semAt_some

def strVals (l : List (List UInt8)) : List Value := l.map str
/-- a row of texts of its own -/
def StrRow (W : World) (v : Value) (l : List (List UInt8)) : Prop := W.ownsRow 0 9 1 v l.length (strVals l)
/-- a slice that reads as texts -/
def StrsV (W : World) (v : Value) (l : List (List UInt8)) : Prop := ∃ A cap, v = .slice A l.length cap ∧ l.length ≤ cap ∧ l.length ≤ 100000 ∧ Src W 1 A cap l.length (strVals l)
theorem StrsV.below {W W' : World} {v : Value} {l : List (List UInt8)} (h : StrsV W v l) (hb : Below W.heap.size W W') : StrsV W' v l := by
  obtain ⟨A, cap, e, h1, h2, h3⟩ := h
  exact ⟨A, cap, e, h1, h2, h3.below hb⟩
theorem StrsV.form {W : World} {v : Value} {l : List (List UInt8)} (h : StrsV W v l) : ∃ A cap, v = .slice A l.length cap ∧ l.length ≤ cap ∧ l.length ≤ 100000 := by
  obtain ⟨A, cap, e, h1, h2, _⟩ := h
  exact ⟨A, cap, e, h1, h2⟩
theorem StrsV.cell {W : World} {A : Option Addr} {n cap : Nat} {l : List (List UInt8)} (h : StrsV W (.slice A n cap) l) {i : Nat} {s : List UInt8} (hi : l[i]? = some s) : ∃ k off, A = some ⟨k, off, none⟩ ∧ k < W.heap.size ∧ W.cell? ⟨k, off + i, none⟩ = some (str s) := by
  obtain ⟨A', cap', e, _, _, h3⟩ := h
  injection e with e1 e2 e3
  subst e1
  have hlt := (List.getElem?_eq_some_iff.1 hi).1
  obtain ⟨k, off, e, hk, hc⟩ := h3.cells (by omega)
  exact ⟨k, off, e, hk, hc i _ (by simp [strVals, hi])⟩
theorem StrRow.reads {w : World} {v : Value} {l : List (List UInt8)} (h : StrRow w v l) (hl : l.length ≤ 100000) : StrsV w v l := by
  obtain ⟨A, cap, e, h1, h2⟩ := own_src h
  exact ⟨A, cap, e, h1, hl, h2⟩
theorem StrRow.form {w : World} {v : Value} {l : List (List UInt8)} (h : StrRow w v l) : ∃ A cap, v = .slice A l.length cap := by
  obtain ⟨A, cap, e, _⟩ := own_form h
  exact ⟨A, cap, e⟩
theorem run_append_str (w : World) (ty : TypeId) (v : Value) (l : List (List UInt8)) (hrow : StrRow w v l) (z : List UInt8) {A : Addr} {cp : Nat} (h0 : w.cell? A = some (str z)) (hl : l.length ≤ 100000) :
    ∃ v' w', (Builtin.append_ #[141, 141] ty #[v, .slice (some A) 1 cp]).run Tryz.prog w = .ok v' w' ∧ StrRow w' v' (l ++ [z]) ∧ w.grownBy w' v.ownBlock ∧ (v'.ownBlock = v.ownBlock ∨ v'.ownBlock = some w.heap.size) := by
  obtain ⟨i, hi, hz, hs2, hby⟩ := info_parts info_str
  obtain ⟨ab, ao, asp⟩ := A
  obtain rfl : asp = none := World.cell?_spot h0
  have hk : ab < w.heap.size := World.block_lt_of_cell? _ _ h0
  have hs : Src w 1 (some ⟨ab, ao, none⟩) cp 1 [str z] := ⟨rfl, (fun e => by cases e), fun _ => ⟨ab, ao, rfl, hk, fun j u hu => by
    match j with
    | 0 => simp at hu; subst hu; exact h0
    | j + 1 => simp at hu⟩⟩
  obtain ⟨v', w', hr, h2, h3, h4⟩ := run_append_src (P := Tryz.prog) w 0 141 ty 9 i _ 1 16 Tryz.underlying141 hi hz hs2 hby rfl (by decide) v l.length (strVals l) hrow hs (fun u hu => by simp at hu; subst hu; rfl) (by unfold maxLen; omega) (by omega) (Nat.zero_le _)
  refine ⟨v', w', hr, ?_, h3, h4⟩
  unfold StrRow
  rw [List.length_append, show strVals (l ++ [z]) = strVals l ++ [str z] by simp [strVals]]
  exact h2
theorem wpList_append_str {ops : Array Oper} {rest : List Oper} {o : Oper} {a : Act} {w : World} {Q : Exit → Act → World → Prop} (hgd : o.guard = none) (s x : Operand)
    (ho : o.op = .call { callee := .builtin .append, args := #[s, x], argTypes := #[141, 141] }) (v : Value) (l : List (List UInt8)) (hs : a.eval s = v) (hrow : StrRow w v l) (z : List UInt8) {A : Addr} {cp : Nat} (hx : a.eval x = .slice (some A) 1 cp)
    (h0 : w.cell? A = some (str z)) (hl : l.length ≤ 100000)
    (h : ∀ v' w', StrRow w' v' (l ++ [z]) → w.grownBy w' v.ownBlock → (v'.ownBlock = v.ownBlock ∨ v'.ownBlock = some w.heap.size) → wpList Tryz.prog ops Q rest (a.put o.dst v') w') : wpList Tryz.prog ops Q (o :: rest) a w := by
  refine wpList_plain hgd fun K hK => ?_
  obtain ⟨v', w', hrun, r1, r2, r3⟩ := run_append_str w o.type v l hrow z (cp := cp) h0 hl
  unfold Oper.wp
  simp [execOp, ho, resolve, invoke, builtin, hs, hx, hrun, Result.andThen]
  exact hK _ _ (h v' w' r1 r2 r3)

/-- behind the reading of the names -/
def NamesAtPost (w : World) (start : Nat) (tab : List UInt8) (is : List Int) (e : Ending) (w' : World) : Prop :=
  Below w.heap.size w w' ∧ match firstBad is.length (nameBad tab is) with
    | some i => e = flawE (start + 2 * i) 33
    | none => ∃ u, e = .returned u ∧ StrRow w' u (is.map (nameOf tab)) ∧ ∀ k, u.ownBlock = some k → w.heap.size ≤ k
theorem NamesAtPost.bad {w w' : World} {start : Nat} {tab : List UInt8} {is : List Int} {k : Nat} (hk : k < is.length) (hg : ∀ j, j < k → nameBad tab is j = false) (hb : nameBad tab is k = true) (hB : Below w.heap.size w w') : NamesAtPost w start tab is (flawE (start + 2 * k) 33) w' := by
  refine ⟨hB, ?_⟩
  rw [firstBad_some hk hb hg]
theorem NamesAtPost.ok {w w' : World} {start : Nat} {tab : List UInt8} {is : List Int} {u : Value} (hg : ∀ j, j < is.length → nameBad tab is j = false) (hr : StrRow w' u (is.map (nameOf tab))) (ho : ∀ k, u.ownBlock = some k → w.heap.size ≤ k) (hB : Below w.heap.size w w') : NamesAtPost w start tab is (.returned u) w' := by
  refine ⟨hB, ?_⟩
  rw [firstBad_none.2 hg]
  exact ⟨u, rfl, hr, ho⟩
/-- while names are read -/
def NamesR (w : World) (bm : Nat) (tab : List UInt8) (is : List Int) (n : Nat) (u i : Value) (W : World) : Prop :=
  ∃ k : Nat, i = .int .i64 k ∧ k ≤ n ∧ StrRow W u ((is.map (nameOf tab)).take k) ∧ (∀ j, u.ownBlock = some j → bm < j) ∧ NameSet W bm ((is.take k).map (nameOf tab)) ∧ Below w.heap.size w W ∧ ∀ j, j < k → nameBad tab is j = false
theorem textP_len {tab t : List UInt8} {z : Int} (h : textP tab z = some t) : t.length ≤ 1000 := by
  unfold textP at h
  split at h
  · cases h
  · simp only at h
    split at h
    · next hx => injection h with h; rw [← h]; exact hx.2
    · cases h
theorem NamesR.next {w : World} {bm n k : Nat} {tab : List UInt8} {is : List Int} {W3 W4 W' : World} {u v' : Value} {t : List UInt8} {z : Int} (hbm : bm = w.heap.size) (hk : k < n) (hz : is[k]? = some z) (ht : textP tab z = some t)
    (ho : ∀ j, u.ownBlock = some j → bm < j) (h3 : NameSet W3 bm ((is.take k).map (nameOf tab) ++ [t])) (hB : Below w.heap.size w W3) (hW4 : Below W3.heap.size W3 W4)
    (hr : StrRow W' v' ((is.map (nameOf tab)).take k ++ [t])) (hg : W4.grownBy W' u.ownBlock) (hv : v'.ownBlock = u.ownBlock ∨ v'.ownBlock = some W4.heap.size) (hgd : ∀ j, j < k → nameBad tab is j = false) (hok : nameBad tab is k = false) : NamesR w bm tab is n v' (.int .i64 ((k : Int) + 1)) W' := by
  have hnm : nameOf tab z = t := by unfold nameOf; rw [ht]; rfl
  have hB4 := hB.trans (hW4.mono hB.size)
  have hlt := h3.lt
  have hlt4 : bm < W4.heap.size := Nat.lt_of_lt_of_le hlt hW4.size
  refine ⟨k + 1, by go_num, hk, ?_, fun j hj => ?_, ?_, ?_, fun j hj => ?_⟩
  · rw [map_take _ hz, hnm]; exact hr
  · rcases hv with hv | hv
    · exact ho j (hv ▸ hj)
    · rw [hv] at hj; injection hj with hj; omega
  · have e : (is.take (k + 1)).map (nameOf tab) = (is.take k).map (nameOf tab) ++ [t] := by rw [List.take_add_one, hz]; simp [hnm]
    rw [e]
    refine h3.same ?_
    rw [hg.block bm hlt4 (fun e => by have := ho bm e.symm; omega)]
    exact hW4.block bm hlt
  · exact hB4.trans (grown_below hg hB4.size fun j hj => by have := ho j hj; omega)
  · rcases Nat.lt_or_ge j k with h1 | h1
    · exact hgd j h1
    · obtain rfl : j = k := by omega
      exact hok

set_option maxRecDepth 100000 in
set_option maxHeartbeats 4000000 in
theorem namesAt_any (w : World) (start : Nat) (hst : start ≤ 140737488351232) (A : Option Addr) (n cap : Nat) (B : Option Addr) (m bc : Nat) (is : List Int) (tab : List UInt8) (hi : IntsV w (.slice A n cap) is) (ht : BytesV w (.slice B m bc) tab) (hb : tab.length ≤ 4000000) (hn : n ≤ 1000) (hTb : Tabs w) :
    Calls Tryz.prog 120 #[.int .i64 start, .slice A n cap, .slice B m bc] w (NamesAtPost w start tab is) := by
  have hnl : is.length = n := by obtain ⟨_, _, e, _⟩ := hi; injection e with _ e; exact e.symm
  have HLL := Lib.hid hnl
  have HIN := Lib.hid hi
  have HT := Lib.hid ht
  have HTb := Lib.hid hTb
  have HBT := Lib.hid hb
  have HL2 : Hid ((is.map (nameOf tab)).length = n) := Lib.hid (by rw [List.length_map, hnl])
  have hmm := @run_makeMap Tryz.prog
  have hset0 : NameSet (w.alloc (.map #[] 0)) w.heap.size [] := World.ownsMap_made _ _ _ _
  have HI := Lib.hid (show NamesR w w.heap.size tab is n (.slice none 0 0) (.int .i64 0) (w.alloc (.map #[] 0)) from ⟨0, rfl, Nat.zero_le _, World.ownsRow_nil _ _ _ _, (fun j hj => by cases hj), hset0, (Below.refl _ w).alloc (Nat.le_refl _) _, fun j hj => by omega⟩)
  clear hi ht hb hnl hset0 hTb
  go_enter Tryz.func120, Tryz.ntmps120
  go_wp2_with fail
  go_loopw [7, 16] (fun u i wr => NamesR w w.heap.size tab is n u i wr) (fun _ i _ => n - (RowKit.intOf i).toNat)
  case atStart => exact HI.out
  case round =>
    obtain ⟨k, rfl, hk, hrow, hown, hset, hbel, hgood⟩ := hrel
    obtain ⟨B0, bc0, rfl⟩ := hrow.form
    have HR := Lib.hid (And.intro hrow (And.intro hown hbel))
    have HSet := Lib.hid hset
    have HG := Lib.hid hgood
    have hlen : ((is.map (nameOf tab)).take k).length = k := by rw [List.length_take, HL2.out]; omega
    rw [hlen] at HR ⊢
    by_cases hlt : k < n
    · obtain ⟨z, hz⟩ : ∃ z, is[k]? = some z := ⟨_, List.getElem?_eq_getElem (by rw [HLL.out]; exact hlt)⟩
      have hgd : is.getD k 0 = z := by rw [List.getD_eq_getElem?_getD, hz]; rfl
      obtain ⟨ka, oa, rfl, hka, hcell⟩ := (HIN.out.below hbel).cell hz
      have i1 : (0 : Int) ≤ (k : Int) := by omega
      have i2 : (k : Int) < (n : Int) := by omega
      have HLK := Lib.hid (And.intro hlt hn)
      have HZ := Lib.hid (And.intro hz hgd)
      have CX := Lib.hid (fun W => fail_at W ((start : Int) + 2 * (k : Int)) (start + 2 * k) 33 (by push_cast; rfl))
      have CT0 := Lib.hid (textAt_any wr B m bc tab z (HT.out.below hbel) HBT.out)
      clear hrow hown hbel hlen hk hz hgood hgd hset
      cases hp : textP tab z with
      | none =>
        have HBad : Hid (nameBad tab is k = true) := Lib.hid (by unfold nameBad; rw [HZ.out.2, hp]; rfl)
        have CT := Lib.hid ((CT0.out).mono fun e w' (h : TextPost _ _ e w') => (show e = .returned (.tuple #[str [], .bool false]) ∧ Below _ _ w' from ⟨by rw [h.1, hp]; rfl, h.2⟩))
        clear CT0 hp
        go_wp2_with (first
          | (go_at_call 117; refine (CT.out).mono ?_; rintro e w2 ⟨rfl, hb2⟩; have HB2 := Lib.hid hb2; clear hb2)
          | (go_at_call 72; refine (CX.out _).mono ?_; rintro e w' ⟨rfl, rfl⟩))
        exact ⟨rfl, NamesAtPost.bad (by rw [HLL.out]; exact HLK.out.1) HG.out HBad.out (HR.out.2.2.trans (HB2.out.mono HR.out.2.2.size))⟩
      | some t =>
        have CT := Lib.hid ((CT0.out).mono fun e w' (h : TextPost _ _ e w') => (show e = .returned (.tuple #[str t, .bool true]) ∧ Below _ _ w' from ⟨by rw [h.1, hp]; rfl, h.2⟩))
        have hnm : nameOf tab z = t := by unfold nameOf; rw [hp]; rfl
        have HNB : Hid (nameBad tab is k = !addP ((is.take k).map (nameOf tab)) t) := Lib.hid (by unfold nameBad; rw [HZ.out.2, hp, hnm]; rfl)
        have CA0 := Lib.hid (fun W (hs : NameSet W w.heap.size ((is.take k).map (nameOf tab))) (hW : Tabs W) => add_any W w.heap.size ((is.take k).map (nameOf tab)) t hs hW (by rw [List.length_map, List.length_take]; have := HLK.out; omega) (Nat.le_trans (textP_len hp) (by unfold maxLen; omega)))
        have HP := Lib.hid hp
        clear CT0 hp hnm
        cases ha : addP ((is.take k).map (nameOf tab)) t with
        | false =>
          have HBad : Hid (nameBad tab is k = true) := Lib.hid (by rw [HNB.out, ha]; rfl)
          rw [ha] at CA0
          clear ha
          go_wp2_with (first
            | (go_at_call 117; refine (CT.out).mono ?_; rintro e w2 ⟨rfl, hb2⟩; have HB2 := Lib.hid hb2; clear hb2)
            | (go_at_call 140; refine (CA0.out _ (HSet.out.same (HB2.out.block _ HSet.out.lt)) (HTb.out.below (HR.out.2.2.trans (HB2.out.mono HR.out.2.2.size)))).mono ?_; rintro e w3 ⟨rfl, h3, h4⟩; have H4 := Lib.hid h4; clear h3 h4)
            | (go_at_call 72; refine (CX.out _).mono ?_; rintro e w' ⟨rfl, rfl⟩))
          exact ⟨rfl, NamesAtPost.bad (by rw [HLL.out]; exact HLK.out.1) HG.out HBad.out ((HR.out.2.2.trans (HB2.out.mono HR.out.2.2.size)).trans (H4.out.below (Nat.le_trans HR.out.2.2.size HB2.out.size) fun j hj => by omega))⟩
        | true =>
          have HOk : Hid (nameBad tab is k = false) := Lib.hid (by rw [HNB.out, ha]; rfl)
          rw [ha] at CA0
          clear ha
          go_wp2_with (first
            | (go_at_call 117; refine (CT.out).mono ?_; rintro e w2 ⟨rfl, hb2⟩; have HB2 := Lib.hid hb2; clear hb2)
            | (go_at_call 140; refine (CA0.out _ (HSet.out.same (HB2.out.block _ HSet.out.lt)) (HTb.out.below (HR.out.2.2.trans (HB2.out.mono HR.out.2.2.size)))).mono ?_; rintro e w3 ⟨rfl, h3, h4⟩; have H3 := Lib.hid h3; have H4 := Lib.hid h4; have HB3 := Lib.hid ((HR.out.2.2.trans (HB2.out.mono HR.out.2.2.size)).trans (h4.below (Nat.le_trans HR.out.2.2.size HB2.out.size) fun j hj => by omega)); have hx := World.alloc_heap_new w3 (.cells #[str t] 9); have HX := Lib.hid (cell_of_row _ _ 0 _ _ _ hx); clear h3 h4 hx hcell)
            | (at_builtin; refine wpList_append_str (by rfl) (.tmp 40) (.tmp 42) (by rfl) (.slice B0 k bc0) ((is.map (nameOf tab)).take k) (by rfl) (own_same HR.out.1 fun j hj => (Below.heap_alloc w3 _ _ (by have := (own_lt HR.out.1 j hj).2; have := HB2.out.size; have := H4.out.size; omega)).trans ((H4.out.block j (by have := (own_lt HR.out.1 j hj).2; have := HB2.out.size; omega) (by have := HR.out.2.1 j hj; omega)).trans (HB2.out.block j (own_lt HR.out.1 j hj).2))) t (by rfl) HX.out (by rw [List.length_take]; have := HLK.out; omega) ?_; intro v' w' hr' hg' hv'; have H1 := Lib.hid hr'; have H2 := Lib.hid hg'; have H5 := Lib.hid hv'; clear hr' hg' hv'))
          go_roundw
          case rel => exact NamesR.next rfl HLK.out.1 HZ.out.1 HP.out HR.out.2.1 H3.out HB3.out ((Below.refl _ _).alloc (Nat.le_refl _) _) H1.out H2.out H5.out HG.out HOk.out
          case measure => have := HLK.out.1; simp [RowKit.intOf]; omega
    · obtain rfl : n = k := by omega
      have hall : (is.map (nameOf tab)).take n = is.map (nameOf tab) := List.take_of_length_le (by rw [HL2.out]; exact Nat.le_refl _)
      rw [hall] at HR
      clear hall hrow hown hbel hlen hk hgood hset
      go_wp2_with fail
      go_ret
      exact NamesAtPost.ok (fun j hj => HG.out j (by rw [HLL.out] at hj; exact hj)) HR.out.1 (fun j hj => Nat.le_of_lt (HR.out.2.1 j hj)) HR.out.2.2
end

section
open Go.RowKit Go.Shelf Go.Lib
attribute [local go_sem] Oper.semAt_some

theorem run_append_ext (w : World) (ty : TypeId) (v : Value) (l : List ExtD) (hrow : ExtRow w v l) (c : ExtD) {A : Addr} {cp : Nat} (h0 : w.cell? A = some (.int .i64 c.kind)) (h1 : w.cell? (A.add 1) = some (str c.name)) (h2 : w.cell? (A.add 2) = some (.int .i64 c.cap.st)) (h3 : w.cell? (A.add 3) = some (.int .i64 c.cap.num)) (h4 : w.cell? (A.add 4) = some (str c.cap.text)) (hl : l.length ≤ 1000) :
    ∃ v' w', (Builtin.append_ #[24, 24] ty #[v, .slice (some A) 1 cp]).run Tryz.prog w = .ok v' w' ∧ ExtRow w' v' (l ++ [c]) ∧ w.grownBy w' v.ownBlock ∧ (v'.ownBlock = v.ownBlock ∨ v'.ownBlock = some w.heap.size) := by
  obtain ⟨i, hi, hz, hs, hby⟩ := info_parts info_ext
  obtain ⟨v', w', hrun, h5, h6, _, h7⟩ := run_append_own_at (P := Tryz.prog) w 0 24 ty 48 i _ 5 56 Tryz.underlying24 hi hz hs hby rfl (by decide) v l.length (extVals l) hrow A 1 cp (extCells c) (by simp [extCells]) (fun j u hu => by
    match j with
    | 0 => simp [extCells] at hu; subst hu; simpa [Addr.add] using h0
    | 1 => simp [extCells] at hu; subst hu; exact h1
    | 2 => simp [extCells] at hu; subst hu; exact h2
    | 3 => simp [extCells] at hu; subst hu; exact h3
    | 4 => simp [extCells] at hu; subst hu; exact h4
    | j + 5 => simp [extCells] at hu) (fun u hu => by simp [extCells] at hu; rcases hu with rfl | rfl | rfl | rfl | rfl <;> rfl) (by unfold maxLen; omega) (by omega) (Nat.zero_le _)
  refine ⟨v', w', hrun, ?_, h6, h7⟩
  unfold ExtRow
  rw [List.length_append, extVals_append]
  simpa [extVals] using h5
theorem wpList_append_ext {ops : Array Oper} {rest : List Oper} {o : Oper} {a : Act} {w : World} {Q : Exit → Act → World → Prop} (hgd : o.guard = none) (s x : Operand)
    (ho : o.op = .call { callee := .builtin .append, args := #[s, x], argTypes := #[24, 24] }) (v : Value) (l : List ExtD) (hs : a.eval s = v) (hrow : ExtRow w v l) (c : ExtD) {A : Addr} {cp : Nat} (hx : a.eval x = .slice (some A) 1 cp)
    (h0 : w.cell? A = some (.int .i64 c.kind)) (h1 : w.cell? (A.add 1) = some (str c.name)) (h2 : w.cell? (A.add 2) = some (.int .i64 c.cap.st)) (h3 : w.cell? (A.add 3) = some (.int .i64 c.cap.num)) (h4 : w.cell? (A.add 4) = some (str c.cap.text)) (hl : l.length ≤ 1000)
    (h : ∀ v' w', ExtRow w' v' (l ++ [c]) → w.grownBy w' v.ownBlock → (v'.ownBlock = v.ownBlock ∨ v'.ownBlock = some w.heap.size) → wpList Tryz.prog ops Q rest (a.put o.dst v') w') : wpList Tryz.prog ops Q (o :: rest) a w := by
  refine wpList_plain hgd fun K hK => ?_
  obtain ⟨v', w', hrun, r1, r2, r3⟩ := run_append_ext w o.type v l hrow c (cp := cp) h0 h1 h2 h3 h4 hl
  unfold Oper.wp
  simp [execOp, ho, resolve, invoke, builtin, hs, hx, hrun, Result.andThen]
  exact hK _ _ (h v' w' r1 r2 r3)

theorem step_append_eq {P : Program} {ops : Array Oper} {o : Oper} {a : Act} {K : Act → World → Prop} {Q : Exit → Act → World → Prop} {E : Prop} {w w' : World} {t ty : TypeId} {u1 u2 v' : Value} (hrun : (Builtin.append_ #[t, t] ty #[u1, u2]).run P w = .ok v' w') (hgd : o.guard = none) (s x : Operand)
    (ho : o.op = .call { callee := .builtin .append, args := #[s, x], argTypes := #[t, t] }) (hty : o.type = ty) (hs : a.eval s = u1) (hx : a.eval x = u2) (h : K (a.put o.dst v') w') :
    if Region.wanted o (yielded ops a.tmps) = true then Oper.wp P o a w K Q else E := by
  have hw : Region.wanted o (yielded ops a.tmps) = true := by simp [Region.wanted, hgd]
  rw [if_pos hw]
  unfold Oper.wp execOp
  simp only [ho, resolve, invoke, builtin, Sem.run_bind, Sem.run_pure, Result.andThen_ok, List.map_toArray, List.map_cons, List.map_nil, hs, hx, hty, hrun]
  exact h
theorem build_ext (k : Int) (x : ByteArray) (a b : Int) (t : ByteArray) (w : World) : (Instr.build 48 #[(0, .int .i64 k), (1, .string x), (2, .agg #[.int .i64 a, .int .i64 b, .string t])]).run Tryz.prog w = .ok (.agg #[.int .i64 k, .string x, .int .i64 a, .int .i64 b, .string t]) w := by kernel_rfl
def kinded (f n s : List CapD) : List (Int × CapD) := f.map (fun c => ((0 : Int), c)) ++ n.map (fun c => ((1 : Int), c)) ++ s.map (fun c => ((2 : Int), c))
def extsAll (names : List (List UInt8)) (f n s : List CapD) : List ExtD := (names.zip (kinded f n s)).map fun p => ⟨p.2.1, p.1, p.2.2⟩
def offK (f n s : List CapD) : Nat → Nat
  | 0 => 0
  | 1 => f.length
  | 2 => f.length + n.length
  | _ => f.length + n.length + s.length
def listK (f n s : List CapD) : Nat → List CapD
  | 0 => f
  | 1 => n
  | _ => s
theorem offK_next (f n s : List CapD) {k : Nat} (h : k < 3) : offK f n s (k + 1) = offK f n s k + (listK f n s k).length := by
  match k, h with
  | 0, _ => simp [offK, listK]
  | 1, _ => simp [offK, listK]
  | 2, _ => simp [offK, listK]
theorem kinded_at {f n s : List CapD} {k i : Nat} {c : CapD} (hk : k < 3) (hi : (listK f n s k)[i]? = some c) : (kinded f n s)[offK f n s k + i]? = some ((k : Int), c) := by
  have hlt := (List.getElem?_eq_some_iff.1 hi).1
  unfold kinded
  match k, hk with
  | 0, _ =>
    simp only [offK, listK, Nat.zero_add] at hi hlt ⊢
    rw [List.append_assoc, List.getElem?_append_left (by simpa using hlt), List.getElem?_map, hi]; rfl
  | 1, _ =>
    simp only [offK, listK] at hi hlt ⊢
    rw [List.append_assoc, List.getElem?_append_right (by simp), List.length_map, Nat.add_sub_cancel_left, List.getElem?_append_left (by simpa using hlt), List.getElem?_map, hi]; rfl
  | 2, _ =>
    simp only [offK, listK] at hi hlt ⊢
    rw [List.getElem?_append_right (by simp), List.length_append, List.length_map, List.length_map, Nat.add_sub_cancel_left, List.getElem?_map, hi]; rfl
theorem extsAll_at {names : List (List UInt8)} {f n s : List CapD} {m : Nat} {nm : List UInt8} {kd : Int} {c : CapD} (h1 : names[m]? = some nm) (h2 : (kinded f n s)[m]? = some (kd, c)) : (extsAll names f n s)[m]? = some ⟨kd, nm, c⟩ := by
  unfold extsAll
  rw [List.getElem?_map, (List.getElem?_zip_eq_some (z := (nm, kd, c))).2 ⟨h1, h2⟩]
  rfl
theorem kinded_length (f n s : List CapD) : (kinded f n s).length = f.length + n.length + s.length := by simp [kinded]; omega
theorem extsAll_length {names : List (List UInt8)} {f n s : List CapD} (h : f.length + n.length + s.length ≤ names.length) : (extsAll names f n s).length = f.length + n.length + s.length := by
  unfold extsAll
  rw [List.length_map, List.length_zip, kinded_length]
  omega
theorem extsAll_eq {names : List (List UInt8)} {f n s : List CapD} (h : f.length + n.length + s.length ≤ names.length) : extsAll names f n s = extsOf names f n s := by
  induction f generalizing names with
  | nil =>
    induction n generalizing names with
    | nil =>
      simp [extsAll, extsOf, kinded, extsFrom, List.zip_map_right]
    | cons c n ih =>
      cases names with
      | nil => simp at h
      | cons x names =>
        have := ih (names := names) (by simp at h ⊢; omega)
        simp [extsAll, extsOf, kinded, extsFrom] at this ⊢
        exact this
  | cons c f ih =>
    cases names with
    | nil => simp at h
    | cons x names =>
      have := ih (names := names) (by simp at h ⊢; omega)
      simp only [extsAll, extsOf, kinded, extsFrom, List.map_cons, List.cons_append, List.zip_cons_cons, List.length_cons, List.drop_succ_cons, show f.length + 1 + n.length = f.length + n.length + 1 by omega] at this ⊢
      rw [this]

/-- while the capabilities of a kind get their names -/
def GiveR (w : World) (all : List ExtD) (o len : Nat) (u i : Value) (W : World) : Prop :=
  ∃ k : Nat, i = .int .i64 k ∧ k ≤ len ∧ ExtRow W u (all.take (o + k)) ∧ (∀ j, u.ownBlock = some j → w.heap.size ≤ j) ∧ Below w.heap.size w W
theorem GiveR.next {w : World} {all : List ExtD} {o len k : Nat} {W W2 W' : World} {u v' : Value} {x : ExtD} (hk : k < len) (hx : all[o + k]? = some x) (ho : ∀ j, u.ownBlock = some j → w.heap.size ≤ j) (hB : Below w.heap.size w W) (h1 : Below W.heap.size W W2)
    (hr : ExtRow W' v' (all.take (o + k) ++ [x])) (hg : W2.grownBy W' u.ownBlock) (hv : v'.ownBlock = u.ownBlock ∨ v'.ownBlock = some W2.heap.size) : GiveR w all o len v' (.int .i64 ((k : Int) + 1)) W' := by
  have hB2 := hB.trans (h1.mono hB.size)
  refine ⟨k + 1, by go_num, hk, ?_, fun j hj => ?_, ?_⟩
  · rw [← Nat.add_assoc, List.take_add_one, hx]; exact hr
  · rcases hv with hv | hv
    · exact ho j (hv ▸ hj)
    · rw [hv] at hj; injection hj with hj; have := hB2.size; omega
  · exact hB2.trans (grown_below hg (by have := hB2.size; omega) fun j hj => ho j hj)
def OuterR (w : World) (all : List ExtD) (f n s : List CapD) (u i : Value) (W : World) : Prop :=
  ∃ k : Nat, i = .int .i64 k ∧ k ≤ 3 ∧ ExtRow W u (all.take (offK f n s k)) ∧ (∀ j, u.ownBlock = some j → w.heap.size ≤ j) ∧ Below w.heap.size w W
def GivePost (w : World) (l : List ExtD) (e : Ending) (w' : World) : Prop := Below w.heap.size w w' ∧ ∃ u, e = .returned u ∧ ExtRow w' u l ∧ ∀ k, u.ownBlock = some k → w.heap.size ≤ k

set_option maxRecDepth 100000 in
set_option maxHeartbeats 4000000 in
theorem extsOf_any (w : World) (A : Option Addr) (nn cap kb : Nat) (names : List (List UInt8)) (f n s : List CapD) (u : Nat → Value) (hN : StrsV w (.slice A nn cap) names) (hnn : nn ≤ 1000) (hkb : kb < w.heap.size) (hu : ∀ k, k < 3 → w.cell? ⟨kb, k, none⟩ = some (u k) ∧ CapsV w (u k) (listK f n s k)) (htot : f.length + n.length + s.length ≤ nn) :
    Calls Tryz.prog 122 #[.slice A nn cap, .slice (some ⟨kb, 0, none⟩) 3 3] w (GivePost w (extsAll names f n s)) := by
  have hnl : names.length = nn := by obtain ⟨_, _, e, _⟩ := hN; injection e with _ e; exact e.symm
  have HLL := Lib.hid hnl
  have HN := Lib.hid hN
  have HU := Lib.hid hu
  have HTOT := Lib.hid htot
  have HAL : Hid ((extsAll names f n s).length = offK f n s 3) := Lib.hid (extsAll_length (by rw [hnl]; exact htot))
  have HOFF := Lib.hid (fun k (hk : k < 3) => offK_next f n s hk)
  have HAT : Hid (∀ k i c nm, k < 3 → (listK f n s k)[i]? = some c → names[offK f n s k + i]? = some nm → (extsAll names f n s)[offK f n s k + i]? = some ⟨(k : Int), nm, c⟩) := Lib.hid fun k i c nm hk hc hnm => extsAll_at hnm (kinded_at hk hc)
  have HLE : Hid (∀ k, k < 3 → offK f n s k + (listK f n s k).length ≤ nn) := Lib.hid fun k hk => by
    rw [← offK_next f n s hk]
    match k, hk with
    | 0, _ => simp [offK]; omega
    | 1, _ => simp [offK]; omega
    | 2, _ => simp [offK]; omega
  clear hN hnl hu
  generalize extsAll names f n s = all at *
  have HI := Lib.hid (show OuterR w all f n s (.slice none 0 0) (.int .i64 0) w from ⟨0, rfl, by omega, World.ownsRow_nil _ _ _ _, (fun j hj => by cases hj), Below.refl _ _⟩)
  go_enter Tryz.func122, Tryz.ntmps122
  go_wp2_with fail
  go_loopw [5, 12] (fun r i wr => OuterR w all f n s r i wr) (fun _ i _ => 3 - (RowKit.intOf i).toNat)
  case atStart => exact HI.out
  case round =>
    obtain ⟨kd, rfl, hkd, hrow, hown, hbel⟩ := hrel
    by_cases hk3 : kd < 3
    · have hc := (hbel.cell (p := ⟨kb, kd, none⟩) hkb).trans (HU.out kd hk3).1
      obtain ⟨Ak, ck, hform, hsm⟩ := (HU.out kd hk3).2.form
      have HCV := Lib.hid (HU.out kd hk3).2
      rw [hform] at hc HCV
      have HLK := Lib.hid hk3
      have i1 : (0 : Int) ≤ (kd : Int) := by omega
      have i2 : (kd : Int) < 3 := by omega
      have HI2 := Lib.hid (show GiveR w all (offK f n s kd) (listK f n s kd).length u5 (.int .i64 0) wr from ⟨0, rfl, Nat.zero_le _, hrow, hown, hbel⟩)
      have HO := Lib.hid (And.intro (HOFF.out kd hk3) (And.intro (HLE.out kd hk3) (fun i c nm => HAT.out kd i c nm hk3)))
      have HLN : Hid ((listK f n s kd).length = (listK f n s kd).length) := Lib.hid rfl
      clear hrow hown hbel hk3 hkd hform
      generalize offK f n s kd = of at *
      generalize listK f n s kd = L at *
      obtain ⟨len, hlen⟩ : ∃ len, L.length = len := ⟨_, rfl⟩
      rw [hlen] at hc HCV hsm HI2 HO
      have HLEN := Lib.hid hlen
      clear hlen HLN
      go_wp2_with fail
      go_loopw [5, 19] (fun r i W => GiveR w all of len r i W) (fun _ i _ => len - (RowKit.intOf i).toNat)
      case atStart => exact HI2.out
      case round =>
        obtain ⟨k, rfl, hk, hrow, hown, hbel⟩ := hrel
        by_cases hlt : k < len
        · obtain ⟨c, hc2⟩ : ∃ c, L[k]? = some c := ⟨_, List.getElem?_eq_getElem (by rw [HLEN.out]; exact hlt)⟩
          obtain ⟨nm, hnm⟩ : ∃ nm, names[of + k]? = some nm := ⟨_, List.getElem?_eq_getElem (by rw [HLL.out]; have := HO.out.2.1; omega)⟩
          have HX := Lib.hid (HO.out.2.2 k c nm hc2 hnm)
          have hall : of + k < all.length := (List.getElem?_eq_some_iff.1 HX.out).1
          have hrl : (all.take (of + k)).length = of + k := by rw [List.length_take]; omega
          obtain ⟨B0, bc0, hf0⟩ := hrow.form
          rw [hrl] at hf0
          subst hf0
          obtain ⟨ka, oa, rfl, hka, g0, g1, g2⟩ := (HCV.out.below hbel).cells hc2
          obtain ⟨kn, on, rfl, hkn, hcn⟩ := (HN.out.below hbel).cell hnm
          have HR := Lib.hid (And.intro hrow (And.intro hown hbel))
          have HLK2 := Lib.hid hlt
          have i3 : (0 : Int) ≤ (k : Int) := by omega
          have i4 : (k : Int) < (len : Int) := by omega
          have i5 : ((of + k : Nat) : Int) < (nn : Int) := by have := HO.out.2.1; omega
          have i6 : (0 : Int) ≤ ((of + k : Nat) : Int) := by omega
          have HM : Hid (of + k ≤ 1000) := Lib.hid (by have := HO.out.2.1; omega)
          clear hrow hown hbel hlt hk hc2 hnm hall hrl hka
          generalize hm : of + k = m at *
          have HMM := Lib.hid hm
          clear hm
          have hbx := World.alloc_heap_new wr (.cells #[.int .i64 c.st, .int .i64 c.num, str c.text] 37)
          have hbw : Below wr.heap.size wr (wr.alloc (.cells #[.int .i64 c.st, .int .i64 c.num, str c.text] 37)) := (Below.refl _ _).alloc (Nat.le_refl _) _
          have q0 := cell_of_row _ wr.heap.size 0 _ _ _ hbx
          have q1 := cell_of_row _ wr.heap.size 1 _ _ _ hbx
          have q2 := cell_of_row _ wr.heap.size 2 _ _ _ hbx
          have hcn2 := (hbw.cell (p := ⟨kn, on + m, none⟩) hkn).trans hcn
          have HBW := Lib.hid hbw
          simp only [List.getElem?_toArray, List.getElem?_cons_zero, List.getElem?_cons_succ] at q0 q1 q2
          go_wp2_with fail
          clear g0 g1 g2 hcn hkn hbx hbw
          generalize wr.alloc (.cells #[.int .i64 c.st, .int .i64 c.num, str c.text] 37) = w2 at *
          have hx2 := World.alloc_heap_new w2.drew (.cells #[.int .i64 kd, str nm, .int .i64 c.st, .int .i64 c.num, str c.text] 48)
          have hbw2 : Below wr.heap.size wr (w2.drew.alloc (.cells #[.int .i64 kd, str nm, .int .i64 c.st, .int .i64 c.num, str c.text] 48)) := HBW.out.drew.alloc (by have := HBW.out.size; simp; omega) _
          obtain ⟨v1, w1, run1, r1, g1, o1⟩ := run_append_ext _ 24 _ _ (own_same HR.out.1 fun j hj => hbw2.block j (own_lt HR.out.1 j hj).2) ⟨(kd : Int), nm, c⟩ (cp := 1) (cell_of_row _ _ 0 _ _ _ hx2) (cell_of_row _ _ 1 _ _ _ hx2) (cell_of_row _ _ 2 _ _ _ hx2) (cell_of_row _ _ 3 _ _ _ hx2) (cell_of_row _ _ 4 _ _ _ hx2) (by rw [List.length_take]; have := HM.out; omega)
          have H1 := Lib.hid (And.intro r1 (And.intro g1 o1))
          have HBW2 := Lib.hid hbw2
          have hbe := build_ext
          clear r1 g1 o1 hbw2 hx2
          go_region_law (refine step_append_eq run1 (by rfl) _ _ (by rfl) (by rfl) (by rfl) (by rfl) ?_)
          all_goals
            go_wp2_with fail
            go_roundw
            case rel => exact GiveR.next HLK2.out (by rw [HMM.out]; exact HX.out) HR.out.2.1 HR.out.2.2 HBW2.out (by rw [HMM.out]; exact H1.out.1) H1.out.2.1 H1.out.2.2
            case measure => have := HLK2.out; simp [RowKit.intOf]; omega
        · obtain rfl : k = len := by omega
          have HR := Lib.hid (And.intro hrow (And.intro hown hbel))
          clear hrow hown hbel hlt hk hc
          go_wp2_with fail
          go_roundw
          case rel => exact ⟨kd + 1, by go_num, HLK.out, by rw [HO.out.1]; exact HR.out.1, HR.out.2.1, HR.out.2.2⟩
          case measure => have := HLK.out; simp [RowKit.intOf]; omega
    · obtain rfl : kd = 3 := by omega
      have HR := Lib.hid (And.intro hrow (And.intro hown hbel))
      have HALL : Hid (all.take (offK f n s 3) = all) := Lib.hid (List.take_of_length_le (by rw [HAL.out]; exact Nat.le_refl _))
      clear hrow hown hbel hkd
      go_wp2_with fail
      go_ret
      exact ⟨HR.out.2.2, _, rfl, by have := HR.out.1; rwa [HALL.out] at this, HR.out.2.1⟩
end

section
open Go.RowKit Go.Shelf Go.Lib
attribute [local go_sem] Oper.semAt_some

/-- what stays whatever becomes of the blocks of T -/
def RobP (T : Nat → Prop) (W : World) (P : World → Prop) : Prop := ∀ W', Touch T W W' → P W'
theorem RobP.next {T : Nat → Prop} {W W' : World} {P : World → Prop} (h : RobP T W P) (ht : Touch T W W') : RobP T W' P := fun _ h2 => h _ (ht.trans h2)
theorem RobP.val {T : Nat → Prop} {W : World} {P : World → Prop} (h : RobP T W P) : P W := h W (Touch.refl _ _)
theorem RobP.and {T : Nat → Prop} {W : World} {P Q : World → Prop} (h : RobP T W P) (h2 : RobP T W Q) : RobP T W (fun W => P W ∧ Q W) := fun _ ht => ⟨h _ ht, h2 _ ht⟩

theorem take_or (w : World) (rb : Nat) (A : Option Addr) (cap : Nat) (b : List UInt8) (p size n : Nat) (h : RdAt w rb (.slice A b.length cap) b p size) (hn : n ≤ 140737488351232) :
    Calls Tryz.prog 64 #[.pointer (some ⟨rb, 0, none⟩), .int .i64 n] w fun e w' => (b.length < p + n ∧ e = flawE b.length 31 ∧ Touch (fun k => k = rb) w w') ∨
      (p + n ≤ b.length ∧ e = .returned (.slice (tailA A cap p 1) n (cap - p)) ∧ Step w rb (.slice A b.length cap) b (p + n) size w') := by
  rcases Nat.lt_or_ge b.length (p + n) with hl | hl
  · exact (take_bad w rb _ b p size n h hn hl).mono fun e w' hx => .inl ⟨hl, hx⟩
  · exact (take_ok w rb A cap b p size n h hl).mono fun e w' hx => .inr ⟨hl, hx⟩
theorem even_or (w : World) (rb : Nat) (A : Option Addr) (cap : Nat) (b : List UInt8) (p size : Nat) (h : RdAt w rb (.slice A b.length cap) b p size) :
    Calls Tryz.prog 66 #[.pointer (some ⟨rb, 0, none⟩)] w fun e w' => (b.length < evenUp p ∧ e = flawE b.length 31 ∧ Touch (fun k => k = rb) w w') ∨
      (evenUp p ≤ b.length ∧ e = .returned (.tuple #[]) ∧ Step w rb (.slice A b.length cap) b (evenUp p) size w') := by
  rcases Nat.lt_or_ge b.length (evenUp p) with hl | hl
  · exact (even_bad w rb _ b p size h hl).mono fun e w' hx => .inl ⟨hl, hx⟩
  · exact (even_ok w rb A cap b p size h hl).mono fun e w' hx => .inr ⟨hl, hx⟩
theorem flags_or (w : World) (rb : Nat) (A : Option Addr) (cap : Nat) (b : List UInt8) (p size n : Nat) (h : RdAt w rb (.slice A b.length cap) b p size) (hn : n ≤ 1000) :
    Calls Tryz.prog 65 #[.pointer (some ⟨rb, 0, none⟩), .int .i64 n] w fun e w' => (b.length < p + n ∧ e = flawE b.length 31 ∧ Touch (fun k => k = rb) w w') ∨
      (p + n ≤ b.length ∧ CapsPost w rb (.slice A b.length cap) b (p + n) size (flagsAt b p n) e w') := by
  rcases Nat.lt_or_ge b.length (p + n) with hl | hl
  · exact (flags_bad w rb _ b p size n h (by omega) hl).mono fun e w' hx => .inl ⟨hl, hx⟩
  · exact (flags_ok w rb A cap b p size n h hn hl).mono fun e w' hx => .inr ⟨hl, hx⟩
theorem numbers_or (w : World) (rb : Nat) (A : Option Addr) (cap : Nat) (b : List UInt8) (p : Nat) (wide : Bool) (n : Nat) (h : RdAt w rb (.slice A b.length cap) b p (sizeOf wide)) (hn : n ≤ 1000) :
    Calls Tryz.prog 67 #[.pointer (some ⟨rb, 0, none⟩), .int .i64 n] w fun e w' => (b.length < p + n * sizeOf wide ∧ e = flawE b.length 31 ∧ Touch (fun k => k = rb) w w') ∨
      (p + n * sizeOf wide ≤ b.length ∧ CapsPost w rb (.slice A b.length cap) b (p + n * sizeOf wide) (sizeOf wide) ((numsAt wide b p n).map capOfNum) e w') := by
  rcases Nat.lt_or_ge b.length (p + n * sizeOf wide) with hl | hl
  · exact (numbers_bad w rb _ b p wide n h (by omega) hl).mono fun e w' hx => .inl ⟨hl, hx⟩
  · exact (numbers_ok w rb A cap b p wide n h hn hl).mono fun e w' hx => .inr ⟨hl, hx⟩
theorem shorts_or (w : World) (rb : Nat) (A : Option Addr) (cap : Nat) (b : List UInt8) (p size n : Nat) (h : RdAt w rb (.slice A b.length cap) b p size) (hn : n ≤ 100000) :
    Calls Tryz.prog 68 #[.pointer (some ⟨rb, 0, none⟩), .int .i64 n] w fun e w' => (b.length < p + n * 2 ∧ e = flawE b.length 31 ∧ Touch (fun k => k = rb) w w') ∨
      (p + n * 2 ≤ b.length ∧ IntsPost w rb (.slice A b.length cap) b (p + n * 2) size (shortsAt b p n) e w') := by
  rcases Nat.lt_or_ge b.length (p + n * 2) with hl | hl
  · exact (shorts_bad w rb _ b p size n h hn hl).mono fun e w' hx => .inl ⟨hl, hx⟩
  · exact (shorts_ok w rb A cap b p size n h hn hl).mono fun e w' hx => .inr ⟨hl, hx⟩

/-- a reader on its way: where it is, the counts, what it has read -/
structure ES (T : Nat → Prop) (w W : World) (rb : Nat) (v : Value) (b : List UInt8) (pos size ka oa cap p : Nat) (P : World → Prop) : Prop where
  step : Step w rb v b pos size W
  cnts : RobI T W (.slice (some ⟨ka, oa, none⟩) 5 cap) (shortsAt b p 5)
  bag : RobP T W P
section
variable {T : Nat → Prop} {w W W' : World} {rb : Nat} {v : Value} {b : List UInt8} {pos pos' size ka oa cap p : Nat} {P : World → Prop}
theorem ES.next (h : ES T w W rb v b pos size ka oa cap p P) (hT : T rb) (hs : Step W rb v b pos' size W') : ES T w W' rb v b pos' size ka oa cap p P :=
  ⟨⟨hs.1, h.step.2.trans hs.2⟩, h.cnts.next (hs.2.mono fun _ _ hk => hk ▸ hT), h.bag.next (hs.2.mono fun _ _ hk => hk ▸ hT)⟩
theorem ES.below (h : ES T w W rb v b pos size ka oa cap p P) (hb : Below W.heap.size W W') : ES T w W' rb v b pos size ka oa cap p P :=
  ⟨h.step.next hb, h.cnts.next (Touch.of_below hb), h.bag.next (Touch.of_below hb)⟩
theorem ES.add {Q : World → Prop} (h : ES T w W rb v b pos size ka oa cap p P) (hq : RobP T W Q) : ES T w W rb v b pos size ka oa cap p (fun W => P W ∧ Q W) := ⟨h.step, h.cnts, h.bag.and hq⟩
theorem cnt_at {i : Nat} (h0 : 0 ≤ shortAt b (p + 2 * i)) : shortAt b (p + 2 * i) = (cnt b p i : Nat) := by unfold cnt; omega
theorem ES.cells (h : ES T w W rb v b pos size ka oa cap p P) (hc : ∀ i, i < 5 → 0 ≤ shortAt b (p + 2 * i)) :
    W.cell? ⟨ka, oa, none⟩ = some (.int .i64 (cnt b p 0 : Nat)) ∧ W.cell? ⟨ka, oa + 1, none⟩ = some (.int .i64 (cnt b p 1 : Nat)) ∧ W.cell? ⟨ka, oa + 2, none⟩ = some (.int .i64 (cnt b p 2 : Nat)) ∧ W.cell? ⟨ka, oa + 3, none⟩ = some (.int .i64 (cnt b p 3 : Nat)) ∧ W.cell? ⟨ka, oa + 4, none⟩ = some (.int .i64 (cnt b p 4 : Nat)) ∧
    W.cell? ⟨rb, 0, none⟩ = some v ∧ W.cell? ⟨rb, 1, none⟩ = some (.int .i64 pos) ∧ W.cell? ⟨rb, 2, none⟩ = some (.int .i64 size) := by
  have each : ∀ i, i < 5 → W.cell? ⟨ka, oa + i, none⟩ = some (.int .i64 (cnt b p i : Nat)) := fun i hi => by
    obtain ⟨k, off, e, _, hcell⟩ := h.cnts.val.cell (shorts_at b p 5 i hi)
    injection e with e
    injection e with e1 e2
    subst e1 e2
    rw [hcell, cnt_at (hc i hi)]
  obtain ⟨c0, c1, c2, _, _, _⟩ := h.step.1.cells
  exact ⟨each 0 (by omega), each 1 (by omega), each 2 (by omega), each 3 (by omega), each 4 (by omega), c0, c1, c2⟩
end
theorem RobP.bytes {W : World} {rb : Nat} {A : Option Addr} {cap : Nat} {b : List UInt8} {p pos size n : Nat} (h : RdAt W rb (.slice A b.length cap) b pos size) (hp : p + n ≤ b.length) : RobP (fun k => k = rb) W (fun W => BytesV W (.slice (tailA A cap p 1) n (cap - p)) (part b p n)) :=
  fun W' ht => (h.bytes W' ht).part hp
theorem lay2_eq (wide : Bool) (p : Nat) (c : Nat → Nat) : lay2 wide p c = ⟨p + 10, evenUp (p + 10 + c 0), evenUp (p + 10 + c 0) + c 1 * sizeOf wide, evenUp (p + 10 + c 0) + c 1 * sizeOf wide + c 2 * 2, evenUp (p + 10 + c 0) + c 1 * sizeOf wide + c 2 * 2 + (c 0 + c 1 + c 2) * 2, evenUp (p + 10 + c 0) + c 1 * sizeOf wide + c 2 * 2 + (c 0 + c 1 + c 2) * 2 + c 4⟩ := by
  simp [lay2, Nat.mul_comm]

/-- behind the reading of the extended part -/
def ExtrPost (w : World) (rb : Nat) (v : Value) (b : List UInt8) (p : Nat) (wide : Bool) (e : Ending) (w' : World) : Prop :=
  Touch (fun k => k = rb) w w' ∧ match readExt wide b p with
    | .error q => e = flawE q.1 q.2
    | .ok x => ∃ u, e = .returned u ∧ ExtRow w' u x.1 ∧ (∀ k, u.ownBlock = some k → w.heap.size ≤ k) ∧ RdAt w' rb v b x.2 (sizeOf wide)
section
variable {w w' : World} {rb : Nat} {v : Value} {b : List UInt8} {p : Nat} {wide : Bool}
theorem ExtrPost.error {q : Nat} {er : Int} (h : readExt wide b p = .error (q, er)) (ht : Touch (fun k => k = rb) w w') : ExtrPost w rb v b p wide (flawE q er) w' := ⟨ht, by rw [h]⟩
theorem readExt_e1 (h : b.length < p + 10) : readExt wide b p = .error (b.length, 31) := by unfold readExt; rw [if_pos h]
theorem readExt_e2 {i : Nat} (h : ¬ b.length < p + 10) (hf : firstBad 5 (extBad b p) = some i) : readExt wide b p = .error (p + 2 * i, 32) := by unfold readExt; rw [if_neg h, hf]
theorem readExt_e3 (h : ¬ b.length < p + 10) (hf : firstBad 5 (extBad b p) = none) (hl : b.length < (lay2 wide p (cnt b p)).fin) : readExt wide b p = .error (b.length, 31) := by unfold readExt; rw [if_neg h, hf]; simp only; rw [if_pos hl]
theorem readExt_e4 (h : ¬ b.length < p + 10) (hf : firstBad 5 (extBad b p) = none) (hl : ¬ b.length < (lay2 wide p (cnt b p)).fin) (hc : cnt b p 3 ≠ presentP (shortsAt b (lay2 wide p (cnt b p)).strs (cnt b p 2)) + (cnt b p 0 + cnt b p 1 + cnt b p 2)) : readExt wide b p = .error (p + 6, 32) := by
  unfold readExt; rw [if_neg h, hf]; simp only; rw [if_neg hl, if_pos hc]
theorem readExt_e5 {i : Nat} (h : ¬ b.length < p + 10) (hf : firstBad 5 (extBad b p) = none) (hl : ¬ b.length < (lay2 wide p (cnt b p)).fin) (hc : ¬ cnt b p 3 ≠ presentP (shortsAt b (lay2 wide p (cnt b p)).strs (cnt b p 2)) + (cnt b p 0 + cnt b p 1 + cnt b p 2))
    (ht : firstBad (cnt b p 2) (textBad (part b (lay2 wide p (cnt b p)).tab (cnt b p 4)) (shortsAt b (lay2 wide p (cnt b p)).strs (cnt b p 2))) = some i) : readExt wide b p = .error ((lay2 wide p (cnt b p)).strs + 2 * i, 33) := by
  unfold readExt; rw [if_neg h, hf]; simp only; rw [if_neg hl, if_neg hc]
  unfold textBad at ht
  rw [ht]
def extTab (wide : Bool) (b : List UInt8) (p : Nat) : List UInt8 :=
  (part b (lay2 wide p (cnt b p)).tab (cnt b p 4)).drop (endOf (shortsAt b (lay2 wide p (cnt b p)).strs (cnt b p 2)) (textsOf (part b (lay2 wide p (cnt b p)).tab (cnt b p 4)) (shortsAt b (lay2 wide p (cnt b p)).strs (cnt b p 2))) (-1, 0)).2.toNat
theorem readExt_e6 {i : Nat} (h : ¬ b.length < p + 10) (hf : firstBad 5 (extBad b p) = none) (hl : ¬ b.length < (lay2 wide p (cnt b p)).fin) (hc : ¬ cnt b p 3 ≠ presentP (shortsAt b (lay2 wide p (cnt b p)).strs (cnt b p 2)) + (cnt b p 0 + cnt b p 1 + cnt b p 2))
    (ht : firstBad (cnt b p 2) (textBad (part b (lay2 wide p (cnt b p)).tab (cnt b p 4)) (shortsAt b (lay2 wide p (cnt b p)).strs (cnt b p 2))) = none)
    (hn : firstBad (cnt b p 0 + cnt b p 1 + cnt b p 2) (nameBad (extTab wide b p) (shortsAt b (lay2 wide p (cnt b p)).names (cnt b p 0 + cnt b p 1 + cnt b p 2))) = some i) : readExt wide b p = .error ((lay2 wide p (cnt b p)).names + 2 * i, 33) := by
  unfold readExt; rw [if_neg h, hf]; simp only; rw [if_neg hl, if_neg hc]
  unfold textBad at ht
  rw [ht]
  unfold extTab at hn
  simp only
  rw [hn]
theorem readExt_ok (h : ¬ b.length < p + 10) (hf : firstBad 5 (extBad b p) = none) (hl : ¬ b.length < (lay2 wide p (cnt b p)).fin) (hc : ¬ cnt b p 3 ≠ presentP (shortsAt b (lay2 wide p (cnt b p)).strs (cnt b p 2)) + (cnt b p 0 + cnt b p 1 + cnt b p 2))
    (ht : firstBad (cnt b p 2) (textBad (part b (lay2 wide p (cnt b p)).tab (cnt b p 4)) (shortsAt b (lay2 wide p (cnt b p)).strs (cnt b p 2))) = none)
    (hn : firstBad (cnt b p 0 + cnt b p 1 + cnt b p 2) (nameBad (extTab wide b p) (shortsAt b (lay2 wide p (cnt b p)).names (cnt b p 0 + cnt b p 1 + cnt b p 2))) = none) :
    readExt wide b p = .ok (extsOf ((shortsAt b (lay2 wide p (cnt b p)).names (cnt b p 0 + cnt b p 1 + cnt b p 2)).map (nameOf (extTab wide b p))) (flagsAt b (lay2 wide p (cnt b p)).bools (cnt b p 0)) ((numsAt wide b (lay2 wide p (cnt b p)).nums (cnt b p 1)).map capOfNum) (textsOf (part b (lay2 wide p (cnt b p)).tab (cnt b p 4)) (shortsAt b (lay2 wide p (cnt b p)).strs (cnt b p 2))), (lay2 wide p (cnt b p)).fin) := by
  unfold readExt; rw [if_neg h, hf]; simp only; rw [if_neg hl, if_neg hc]
  unfold textBad at ht
  rw [ht]
  unfold extTab at hn ⊢
  simp only
  rw [hn]
end
/-- where the texts end, in their table -/
theorem endOf_le {tab : List UInt8} : ∀ (is : List Int) (x y : Int), (∀ z ∈ is, (textCap tab z).isNone = false) → 0 ≤ y → y ≤ tab.length → -1 ≤ x → 0 ≤ (endOf is (textsOf tab is) (x, y)).2 ∧ (endOf is (textsOf tab is) (x, y)).2 ≤ tab.length := by
  intro is
  induction is with
  | nil => intro x y _ h1 h2 _; exact ⟨h1, h2⟩
  | cons z is ih =>
    intro x y hz h1 h2 h3
    have hr := fun z' hz' => hz z' (List.mem_cons_of_mem _ hz')
    unfold textsOf
    rw [List.map_cons]
    unfold endOf
    by_cases hx : x < z
    · rw [if_pos hx]
      have hz0 := hz z List.mem_cons_self
      have h0 : 0 ≤ z := by omega
      unfold textCap at hz0
      rw [if_pos h0] at hz0
      cases ht : textP tab z with
      | none => rw [ht] at hz0; cases hz0
      | some t =>
        have hc : (textCap tab z).getD cap0 = ⟨1, 0, t⟩ := by unfold textCap; rw [if_pos h0, ht]; rfl
        rw [hc]
        have hle : z + t.length + 1 ≤ tab.length := by
          unfold textP at ht
          split at ht
          · cases ht
          · simp only at ht
            split at ht
            · next h4 => injection ht with ht; rw [← ht]; have := h4.1; omega
            · cases ht
        exact ih z (z + t.length + 1) hr (by omega) hle (by omega)
    · rw [if_neg hx]
      exact ih x y hr h1 h2 h3
end
end Go.Proofs.YtcfgppjhgobboaaGreatDoor
