/-
  Plain facts on edits of a line: an edit and its inverse, two edits joined. No program is spoken of here, and nothing is assumed.
-/
import Derived.Test.YtjgjbdpknfplkaaUdStep
namespace Go.Proofs.Ytjgjbdpknfplkaa

theorem stands_step (l : List Int) (s : StepP) : standsP l (stepEd l s).p (stepEd l s).d = true := by
  unfold standsP
  rw [decide_eq_true_iff]
  have hk := stepAt_le l.length s.at'
  refine ⟨?_, ?_, ?_⟩
  · show (0 : Int) ≤ ((stepAt l.length s.at' : Nat) : Int)
    omega
  · show ((stepAt l.length s.at' : Nat) : Int) ≤ _
    omega
  · show (l.drop ((stepAt l.length s.at' : Nat) : Int).toNat).take (((l.drop (stepAt l.length s.at')).take (stepN l.length (stepAt l.length s.at') s.many)).length) = (l.drop (stepAt l.length s.at')).take (stepN l.length (stepAt l.length s.at') s.many)
    rw [Int.toNat_natCast, List.length_take]
    rw [List.take_eq_take_min (i := stepN l.length (stepAt l.length s.at') s.many)]
/-- an edit that stands at a place, by a natural number -/
theorem stands_nat {l : List Int} {e : Ed} (h : standsP l e.p e.d = true) : ∃ k : Nat, e.p = (k : Int) ∧ k + e.d.length ≤ l.length ∧ (l.drop k).take e.d.length = e.d := by
  unfold standsP at h
  rw [decide_eq_true_iff] at h
  obtain ⟨h1, h2, h3⟩ := h
  refine ⟨e.p.toNat, by omega, ?_, h3⟩
  have := congrArg List.length h3
  rw [List.length_take, List.length_drop] at this
  omega
theorem stands_of {l d : List Int} {k : Nat} (hk : k ≤ l.length) (h : (l.drop k).take d.length = d) : standsP l (k : Int) d = true := by
  unfold standsP
  rw [decide_eq_true_iff]
  exact ⟨by omega, by omega, by rw [Int.toNat_natCast]; exact h⟩
theorem apLine_nat {l : List Int} {e : Ed} {k : Nat} (h : e.p = (k : Int)) : apLine l e = l.take k ++ (e.i ++ l.drop (k + e.d.length)) := by
  unfold apLine
  rw [h, Int.toNat_natCast]
theorem apLine_length {l : List Int} {e : Ed} {k : Nat} (h : e.p = (k : Int)) (hk : k + e.d.length ≤ l.length) : (apLine l e).length = l.length - e.d.length + e.i.length := by
  rw [apLine_nat h]
  simp
  omega
theorem apErr_cases {l : List Int} {e : Ed} (h : standsP l e.p e.d = true) : apErr l e = if 1024 < (l.length : Int) - e.d.length + e.i.length then 3 else 0 := by
  unfold apErr
  rw [if_neg (by rw [h]; decide)]
theorem apErr_ok {l : List Int} {e : Ed} (h : standsP l e.p e.d = true) (hl : l.length - e.d.length + e.i.length ≤ 1024) : apErr l e = 0 := by
  obtain ⟨k, _, h2, _⟩ := stands_nat h
  rw [apErr_cases h, if_neg (by omega)]
theorem apErr_zero {l : List Int} {e : Ed} (h : apErr l e = 0) : standsP l e.p e.d = true ∧ l.length - e.d.length + e.i.length ≤ 1024 ∧ (apLine l e).length ≤ 1024 ∧ apRes l e = apLine l e := by
  have hs : standsP l e.p e.d = true := by
    unfold apErr at h
    split at h
    · cases h
    · next h1 => simpa using h1
  obtain ⟨k, h1, h2, _⟩ := stands_nat hs
  rw [apErr_cases hs] at h
  have hl : l.length - e.d.length + e.i.length ≤ 1024 := by
    split at h
    · cases h
    · omega
  refine ⟨hs, hl, by rw [apLine_length h1 h2]; exact hl, ?_⟩
  unfold apRes
  rw [if_pos (by rw [apErr_cases hs]; exact h)]
/-- the inverse restores the line -/
theorem inv_back {l : List Int} {e : Ed} (h : apErr l e = 0) (hl : l.length ≤ 1024) : apErr (apLine l e) e.inv = 0 ∧ apRes (apLine l e) e.inv = l := by
  obtain ⟨hs, h2, h3, _⟩ := apErr_zero h
  obtain ⟨k, hk, hd, ht⟩ := stands_nat hs
  have hlen := apLine_length hk hd
  have hA := apLine_nat (l := l) hk
  have hkl : (l.take k).length = k := by rw [List.length_take]; omega
  have hdrop : (apLine l e).drop k = e.i ++ l.drop (k + e.d.length) := by
    rw [hA, List.drop_append, List.drop_eq_nil_of_le (by omega), hkl, Nat.sub_self, List.drop_zero, List.nil_append]
  have hst : standsP (apLine l e) e.inv.p e.inv.d = true := by
    show standsP (apLine l e) e.p e.i = true
    rw [hk]
    refine stands_of (by rw [hlen]; omega) ?_
    rw [hdrop, List.take_append_of_le_length (Nat.le_refl _), List.take_length]
  have hz : apErr (apLine l e) e.inv = 0 := apErr_ok hst (by
    show (apLine l e).length - e.i.length + e.d.length ≤ 1024
    rw [hlen]
    omega)
  refine ⟨hz, ?_⟩
  rw [(apErr_zero hz).2.2.2]
  rw [apLine_nat (l := apLine l e) (e := e.inv) (k := k) hk]
  show (apLine l e).take k ++ (e.d ++ (apLine l e).drop (k + e.i.length)) = l
  have h5 : (apLine l e).take k = l.take k := by rw [hA, List.take_append_of_le_length (by omega), List.take_of_length_le (by omega)]
  have h6 : (apLine l e).drop (k + e.i.length) = l.drop (k + e.d.length) := by
    rw [← List.drop_drop, hdrop, List.drop_append_of_le_length (Nat.le_refl _), List.drop_length, List.nil_append]
  rw [h5, h6]
  have h7 : e.d ++ l.drop (k + e.d.length) = l.drop k := by
    rw [← List.drop_drop]
    conv => lhs; lhs; rw [← ht]
    exact List.take_append_drop _ _
  rw [h7, List.take_append_drop]
/-- two edits joined do what both do -/
theorem join_both {l : List Int} {x y : Ed} (h1 : apErr l x = 0) (h2 : apErr (apLine l x) y = 0) (hj : joinB x y = true) : apErr l (joinE x y) = 0 ∧ apRes l (joinE x y) = apLine (apLine l x) y := by
  obtain ⟨hs1, ha1, hb1, _⟩ := apErr_zero h1
  obtain ⟨hs2, ha2, hb2, _⟩ := apErr_zero h2
  obtain ⟨k, hk, hd, ht⟩ := stands_nat hs1
  obtain ⟨m, hm, hd2, ht2⟩ := stands_nat hs2
  have hA := apLine_nat (l := l) hk
  have hA2 := apLine_nat (l := apLine l x) hm
  have hlen := apLine_length hk hd
  have hkl : (l.take k).length = k := by rw [List.length_take]; omega
  have hdrop : (apLine l x).drop k = x.i ++ l.drop (k + x.d.length) := by
    rw [hA, List.drop_append, List.drop_eq_nil_of_le (by omega), hkl, Nat.sub_self, List.drop_zero, List.nil_append]
  suffices hmain : standsP l (joinE x y).p (joinE x y).d = true ∧ apLine l (joinE x y) = apLine (apLine l x) y by
    obtain ⟨n, hn, hdn, _⟩ := stands_nat hmain.1
    have hz := apErr_ok hmain.1 (by
      have := apLine_length hn hdn
      rw [hmain.2] at this
      omega)
    exact ⟨hz, by rw [(apErr_zero hz).2.2.2]; exact hmain.2⟩
  by_cases g1 : goesOn x y = true
  · have hE : joinE x y = ⟨x.p, x.d, x.i ++ y.i⟩ := by unfold joinE; rw [if_pos g1]
    unfold goesOn at g1
    rw [decide_eq_true_iff] at g1
    obtain ⟨u1, u2⟩ := g1
    have hmk : m = k + x.i.length := by omega
    rw [hE]
    refine ⟨hs1, ?_⟩
    rw [apLine_nat (l := l) (e := ⟨x.p, x.d, x.i ++ y.i⟩) (k := k) hk, hA2, u1]
    show l.take k ++ ((x.i ++ y.i) ++ l.drop (k + x.d.length)) = (apLine l x).take m ++ (y.i ++ (apLine l x).drop (m + ([] : List Int).length))
    have h5 : (apLine l x).take m = l.take k ++ x.i := by
      rw [hA, hmk, List.take_append, hkl, Nat.add_sub_cancel_left, List.take_of_length_le (by omega), List.take_append_of_le_length (Nat.le_refl _), List.take_length]
    have h6 : (apLine l x).drop (m + ([] : List Int).length) = l.drop (k + x.d.length) := by
      rw [List.length_nil, Nat.add_zero, hmk, ← List.drop_drop, hdrop, List.drop_append_of_le_length (Nat.le_refl _), List.drop_length, List.nil_append]
    rw [h5, h6]
    simp
  · have g2 : goesBack x y = true := by
      unfold joinB at hj
      simpa [g1] using hj
    have hE : joinE x y = ⟨y.p, y.d ++ x.d, []⟩ := by unfold joinE; rw [if_neg g1, if_pos g2]
    unfold goesBack at g2
    rw [decide_eq_true_iff] at g2
    obtain ⟨u1, u2, u3⟩ := g2
    have hkm : k = m + y.d.length := by omega
    have hpre : ((apLine l x).drop m).take y.d.length = (l.drop m).take y.d.length := by
      rw [hA, List.drop_append_of_le_length (by omega), List.take_append_of_le_length (by rw [List.length_drop]; omega), List.drop_take, List.take_take]
      rw [Nat.min_eq_left (by omega)]
    rw [hpre] at ht2
    have hst : (l.drop m).take (y.d ++ x.d).length = y.d ++ x.d := by
      rw [List.length_append, List.take_add, ht2, List.drop_drop, ← hkm, ht]
    rw [hE]
    refine ⟨?_, ?_⟩
    · show standsP l y.p (y.d ++ x.d) = true
      rw [hm]
      exact stands_of (by omega) hst
    · rw [apLine_nat (l := l) (e := ⟨y.p, y.d ++ x.d, []⟩) (k := m) hm, hA2, u2]
      show l.take m ++ ([] ++ l.drop (m + (y.d ++ x.d).length)) = (apLine l x).take m ++ ([] ++ (apLine l x).drop (m + y.d.length))
      have h5 : (apLine l x).take m = l.take m := by rw [hA, List.take_append_of_le_length (by omega), List.take_take, Nat.min_eq_left (by omega)]
      have h6 : (apLine l x).drop (m + y.d.length) = l.drop (m + (y.d ++ x.d).length) := by
        rw [← hkm, hdrop, u1, List.nil_append, List.length_append, hkm]
        congr 1
        omega
      rw [h5, h6]
end Go.Proofs.Ytjgjbdpknfplkaa
