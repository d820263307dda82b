/-
  ahead and back: from a place, over runes of one kind after another.
-/
import Derived.Test.YtepbhmebidmnbaaDoorBfFn
namespace Go.Proofs.YtepbhmebidmnbaaDoor
open Go.RowKit Go.Shelf Go.Lib
attribute [local go_sem] Oper.semAt_some

/-- over all runes of a kind, forward and backward -/
def aheadN (l : List Int) (p : Int → Bool) (q : Nat) : Nat := q + ((l.drop q).takeWhile p).length
def backN (l : List Int) (p : Int → Bool) : Nat → Nat
  | 0 => 0
  | q + 1 => if p (l.getD q 0) = true then backN l p q else q + 1
theorem aheadN_le (l : List Int) (p : Int → Bool) (q : Nat) (h : q ≤ l.length) : aheadN l p q ≤ l.length := by
  unfold aheadN
  have := (List.takeWhile_sublist (l := l.drop q) p).length_le
  rw [List.length_drop] at this
  omega
theorem aheadN_ge (l : List Int) (p : Int → Bool) (q : Nat) : q ≤ aheadN l p q := Nat.le_add_right _ _
theorem aheadN_step {l : List Int} {p : Int → Bool} {q : Nat} (h : q < l.length) (hp : p l[q] = true) : aheadN l p q = aheadN l p (q + 1) := by
  unfold aheadN
  rw [List.drop_eq_getElem_cons h, List.takeWhile_cons, if_pos hp, List.length_cons]
  omega
theorem aheadN_stop {l : List Int} {p : Int → Bool} {q : Nat} (h : q < l.length) (hp : p l[q] = false) : aheadN l p q = q := by
  unfold aheadN
  rw [List.drop_eq_getElem_cons h, List.takeWhile_cons, if_neg (by rw [hp]; simp)]
  rfl
theorem aheadN_end {l : List Int} {p : Int → Bool} {q : Nat} (h : l.length ≤ q) : aheadN l p q = q := by
  unfold aheadN
  rw [List.drop_eq_nil_of_le h]
  rfl
theorem backN_le (l : List Int) (p : Int → Bool) : ∀ q, backN l p q ≤ q
  | 0 => Nat.le_refl _
  | q + 1 => by
    unfold backN
    split
    · exact Nat.le_succ_of_le (backN_le l p q)
    · exact Nat.le_refl _
theorem backN_step {l : List Int} {p : Int → Bool} {q : Nat} (h : q < l.length) (hp : p l[q] = true) : backN l p (q + 1) = backN l p q := by
  show (if p (l.getD q 0) = true then _ else _) = _
  rw [List.getD_eq_getElem?_getD, List.getElem?_eq_getElem h, Option.getD_some, if_pos hp]
theorem backN_stop {l : List Int} {p : Int → Bool} {q : Nat} (h : q < l.length) (hp : p l[q] = false) : backN l p (q + 1) = q + 1 := by
  show (if p (l.getD q 0) = true then _ else _) = _
  rw [List.getD_eq_getElem?_getD, List.getElem?_eq_getElem h, Option.getD_some, if_neg (by rw [hp]; simp)]
def aheads (l : List Int) (ps : List (Int → Bool)) (q : Nat) : Nat := ps.foldl (fun q p => aheadN l p q) q
def backs (l : List Int) (ps : List (Int → Bool)) (q : Nat) : Nat := ps.foldl (fun q p => backN l p q) q
theorem aheads_le (l : List Int) : ∀ (ps : List (Int → Bool)) (q : Nat), q ≤ l.length → aheads l ps q ≤ l.length
  | [], _, h => h
  | p :: ps, q, h => aheads_le l ps _ (aheadN_le l p q h)
theorem backs_le (l : List Int) : ∀ (ps : List (Int → Bool)) (q : Nat), backs l ps q ≤ q
  | [], _ => Nat.le_refl _
  | p :: ps, q => Nat.le_trans (backs_le l ps _) (backN_le l p q)
theorem aheads_snoc (l : List Int) (ps : List (Int → Bool)) (p : Int → Bool) (q : Nat) : aheads l (ps ++ [p]) q = aheadN l p (aheads l ps q) := by simp [aheads]
theorem backs_snoc (l : List Int) (ps : List (Int → Bool)) (p : Int → Bool) (q : Nat) : backs l (ps ++ [p]) q = backN l p (backs l ps q) := by simp [backs]
/-- a row of function values -/
structure Kinds (w : World) (kb : Nat) (n : Nat) (ps : List (Int → Bool)) : Prop where
  len : ps.length = n
  at' : ∀ (k : Nat) (p : Int → Bool), ps[k]? = some p → ∃ v, w.cell? ⟨kb, k, none⟩ = some v ∧ FV w v p
  lt : kb < w.heap.size
theorem Kinds.below {w w' : World} {kb n : Nat} {ps : List (Int → Bool)} (h : Kinds w kb n ps) (hb : Below w.heap.size w w') : Kinds w' kb n ps :=
  ⟨h.len, fun k p hk => by
    obtain ⟨v, h1, h2⟩ := h.at' k p hk
    exact ⟨v, (hb.cell (p := ⟨kb, k, none⟩) h.lt).trans h1, h2.below hb⟩, Nat.lt_of_lt_of_le h.lt hb.size⟩
structure Over (w : World) (l : List Int) (ps : List (Int → Bool)) (q0 : Nat) (v1 v14 : Value) (wr : World) (k : Nat) : Prop where
  le : k ≤ ps.length
  v1 : v1 = .int .i64 (aheads l (ps.take k) q0 : Int)
  v14 : v14 = .int .i64 (k : Int)
  b : Below w.heap.size w wr

theorem measure_lt {j p : Nat} (h : j < p) (hw : wrap64 ((j : Int) + 1) = (j : Int) + 1) : p - (RowKit.intOf (.int .i64 (wrap64 ((j : Int) + 1)))).toNat < p - (RowKit.intOf (.int .i64 (j : Int))).toNat := by
  rw [hw]
  clear hw
  simp [RowKit.intOf]
  omega
theorem next_val {j : Nat} (hw : wrap64 ((j : Int) + 1) = (j : Int) + 1) : Value.int .i64 (wrap64 ((j : Int) + 1)) = .int .i64 ((j + 1 : Nat) : Int) := by
  rw [hw]
  rfl
theorem prev_val {j : Nat} (hw : wrap64 (((j + 1 : Nat) : Int) - 1) = (j : Int)) : Value.int .i64 (wrap64 (((j + 1 : Nat) : Int) - 1)) = .int .i64 (j : Int) := by
  rw [hw]
theorem prev_lt {j : Nat} (hw : wrap64 (((j + 1 : Nat) : Int) - 1) = (j : Int)) : (RowKit.intOf (.int .i64 (wrap64 (((j + 1 : Nat) : Int) - 1)))).toNat < (RowKit.intOf (.int .i64 ((j + 1 : Nat) : Int))).toNat := by
  rw [hw]
  clear hw
  simp [RowKit.intOf]
structure Over3 (w : World) (l : List Int) (ps : List (Int → Bool)) (q0 : Nat) (v1 v14 : Value) (wr : World) (k : Nat) : Prop where
  le : k ≤ ps.length
  v1 : v1 = .int .i64 (backs l (ps.take k) q0 : Int)
  v14 : v14 = .int .i64 (k : Int)
  b : Below w.heap.size w wr
structure In2 (w : World) (l : List Int) (p : Int → Bool) (q0 : Nat) (v1 : Value) (wr : World) (q : Nat) : Prop where
  le : q ≤ l.length
  v1 : v1 = .int .i64 (q : Int)
  eq : aheadN l p q = aheadN l p q0
  b : Below w.heap.size w wr
structure In3 (w : World) (l : List Int) (p : Int → Bool) (q0 : Nat) (v1 : Value) (wr : World) (q : Nat) : Prop where
  le : q ≤ l.length
  v1 : v1 = .int .i64 (q : Int)
  eq : backN l p q = backN l p q0
  b : Below w.heap.size w wr
theorem rune_cell {w : World} {A : Option Addr} {l : List Int} {c : Nat} (h : Holds1 w (.slice A l.length c) (runeVals l)) {q : Nat} (hq : q < l.length) : ∃ b off, A = some ⟨b, off, none⟩ ∧ b < w.heap.size ∧ w.cell? ⟨b, off + q, none⟩ = some (.int .i32 l[q]) := by
  obtain ⟨A', c', e, _, h⟩ := h
  injection e with e1 e2 e3
  subst e1
  rw [runeVals_length] at h
  obtain ⟨b, off, rfl, hlt, hc⟩ := h (by omega)
  exact ⟨b, off, rfl, hlt, hc q _ (by unfold runeVals; rw [List.getElem?_map, List.getElem?_eq_getElem hq]; rfl)⟩

set_option maxRecDepth 1000000 in
set_option maxHeartbeats 4000000 in
theorem ahead_any (w : World) (l : List Int) (A : Option Addr) (c : Nat) (hl : Holds1 w (.slice A l.length c) (runeVals l)) (hlen : l.length ≤ 140737488355328) (k : Int) (kb n kc : Nat) (ps : List (Int → Bool)) (hk : Kinds w kb n ps) (hn : n ≤ 2) :
    Calls Tryd.prog 62 #[.slice A l.length c, .int .i64 k, .slice (some ⟨kb, 0, none⟩) n kc] w fun e w' => e = .returned (.int .i64 (aheads l ps (placeN l.length k) : Int)) ∧ Below w.heap.size w w' := by
  have CP := Lib.hid (place_any w A l.length c k)
  have HQ := Lib.hid (placeN_le l.length k)
  generalize placeN l.length k = q0 at *
  have HL := Lib.hid hl
  have HK := Lib.hid hk
  have HN : Hid (ps.length = n ∧ n ≤ 2) := Lib.hid ⟨hk.len, hn⟩
  have HLEN := Lib.hid hlen
  clear hl hk hn hlen
  go_enter Tryd.func62, Tryd.ntmps62
  go_wp2_with (go_at_call 63; refine (CP.out).mono ?_; rintro e w1 ⟨rfl, rfl⟩)
  go_loopw [1, 14] (fun v1 v14 wr => ∃ k, Over w l ps q0 v1 v14 wr k) (fun _ v14 _ => 2 - (RowKit.intOf v14).toNat)
  case atStart => exact ⟨0, ⟨Nat.zero_le _, rfl, rfl, Below.refl _ _⟩⟩
  case round =>
    obtain ⟨k, hI⟩ := hrel
    obtain ⟨hle, rfl, rfl, hb⟩ := hI
    have HB := Lib.hid hb
    rw [HN.out.1] at hle
    by_cases hkn : k < n
    · have hkl : k < ps.length := by rw [HN.out.1]; exact hkn
      obtain ⟨p, hp⟩ : ∃ p, ps[k]? = some p := ⟨_, List.getElem?_eq_getElem hkl⟩
      obtain ⟨fv, hc0, hfv⟩ := HK.out.at' k p hp
      have hc1 := (hb.cell (p := ⟨kb, k, none⟩) HK.out.lt).trans hc0
      obtain ⟨f, cap, rfl, eg, hf⟩ := hfv
      have HF : Hid (∀ W, Below w.heap.size w W → ∀ r : Int, Calls Tryd.prog f (#[.int .i32 r] ++ cap) W fun e w' => e = .returned (.bool (p r)) ∧ Below W.heap.size W w') := Lib.hid hf
      have HT : Hid (ps.take (k + 1) = ps.take k ++ [p]) := Lib.hid (by rw [List.take_succ_eq_append_getElem hkl, (List.getElem?_eq_some_iff.1 hp).2])
      have HKL : Hid (k < 2 ∧ k + 1 ≤ ps.length) := Lib.hid ⟨by have := HN.out.2; omega, hkl⟩
      have HQL : Hid (aheads l (ps.take k) q0 ≤ l.length) := Lib.hid (aheads_le l _ _ HQ.out)
      have i1 : (0 : Int) ≤ (k : Int) := by omega
      have i2 : ((k : Int) < (n : Int)) = True := by simp; exact hkn
      have hwk : wrap64 ((k : Int) + 1) = (k : Int) + 1 := by have := HKL.out; unfold wrap64; omega
      clear hc0 hf hp hkl hkn hb hle
      generalize hqk : aheads l (ps.take k) q0 = qk at *
      have HQK := Lib.hid hqk
      clear hqk
      go_wp2
      go_loopw [1] (fun v1 wr' => ∃ q, In2 w l p qk v1 wr' q) (fun v1 _ => l.length - (RowKit.intOf v1).toNat)
      case atStart => exact ⟨qk, ⟨HQL.out, rfl, rfl, HB.out⟩⟩
      case round =>
        obtain ⟨q, hJ⟩ := hrel
        obtain ⟨hq, rfl, heq, hb2⟩ := hJ
        have HE := Lib.hid heq
        have HB2 := Lib.hid hb2
        by_cases hql : q < l.length
        · obtain ⟨rb, off, rfl, hlt, hcr⟩ := rune_cell (HL.out.below hb2) hql
          have j1 : (0 : Int) ≤ (q : Int) := by omega
          have j2 : ((q : Int) < (l.length : Int)) = True := by simp; exact hql
          have hwq : wrap64 ((q : Int) + 1) = (q : Int) + 1 := by have := HLEN.out; unfold wrap64; omega
          by_cases hpv : p l[q] = true
          · have HPV := Lib.hid hpv
            have HSTEP : Hid (aheadN l p (q + 1) = aheadN l p qk) := Lib.hid ((aheadN_step hql hpv).symm.trans heq)
            have HQN := Lib.hid hql
            generalize l[q] = x at *
            clear hpv heq hb2 hq hql hlt
            go_wp2_with (with_reducible refine (HF.out _ HB2.out _).mono ?_; rintro e w2 ⟨rfl, hb3⟩; have HB3 := Lib.hid (HB2.out.trans (hb3.mono HB2.out.size)); rw [HPV.out]; clear hb3)
            go_roundw
            case rel => exact ⟨q + 1, ⟨HQN.out, next_val hwq, HSTEP.out, HB3.out⟩⟩
            case measure => exact measure_lt HQN.out hwq
          · have hpv' : p l[q] = false := by simpa using hpv
            have HPV := Lib.hid hpv'
            have HSTOP : Hid (aheadN l p q = q) := Lib.hid (aheadN_stop hql hpv')
            generalize l[q] = x at *
            clear hpv hpv' heq hb2 hq hql hlt hwq
            go_wp2_with (with_reducible refine (HF.out _ HB2.out _).mono ?_; rintro e w2 ⟨rfl, hb3⟩; have HB3 := Lib.hid (HB2.out.trans (hb3.mono HB2.out.size)); rw [HPV.out]; clear hb3)
            go_roundw
            case rel => exact ⟨k + 1, ⟨HKL.out.2, by rw [HT.out, aheads_snoc, HQK.out, ← HE.out, HSTOP.out], next_val hwk, HB3.out⟩⟩
            case measure => exact measure_lt HKL.out.1 hwk
        · obtain rfl : q = l.length := by omega
          have j2 : ((l.length : Int) < (l.length : Int)) = False := by simp
          have HSTOP : Hid (aheadN l p l.length = l.length) := Lib.hid (aheadN_end (Nat.le_refl _))
          clear heq hb2 hq hql
          go_wp2
          go_roundw
          case rel => exact ⟨k + 1, ⟨HKL.out.2, by rw [HT.out, aheads_snoc, HQK.out, ← HE.out, HSTOP.out], next_val hwk, HB2.out⟩⟩
          case measure => exact measure_lt HKL.out.1 hwk
    · obtain rfl : k = n := by have := hle; omega
      have i2 : ((k : Int) < (k : Int)) = False := by simp
      have HE : Hid (ps.take k = ps) := Lib.hid (List.take_of_length_le (by rw [HN.out.1]; exact Nat.le_refl _))
      clear hkn hb hle
      go_wp2
      go_ret
      exact ⟨by rw [HE.out]; rfl, HB.out⟩

set_option maxRecDepth 1000000 in
set_option maxHeartbeats 4000000 in
theorem back_any (w : World) (l : List Int) (A : Option Addr) (c : Nat) (hl : Holds1 w (.slice A l.length c) (runeVals l)) (hlen : l.length ≤ 140737488355328) (k : Int) (kb n kc : Nat) (ps : List (Int → Bool)) (hk : Kinds w kb n ps) (hn : n ≤ 2) :
    Calls Tryd.prog 64 #[.slice A l.length c, .int .i64 k, .slice (some ⟨kb, 0, none⟩) n kc] w fun e w' => e = .returned (.int .i64 (backs l ps (placeN l.length k) : Int)) ∧ Below w.heap.size w w' := by
  have CP := Lib.hid (place_any w A l.length c k)
  have HQ := Lib.hid (placeN_le l.length k)
  generalize placeN l.length k = q0 at *
  have HL := Lib.hid hl
  have HK := Lib.hid hk
  have HN : Hid (ps.length = n ∧ n ≤ 2) := Lib.hid ⟨hk.len, hn⟩
  have HLEN := Lib.hid hlen
  clear hl hk hn hlen
  go_enter Tryd.func64, Tryd.ntmps64
  go_wp2_with (go_at_call 63; refine (CP.out).mono ?_; rintro e w1 ⟨rfl, rfl⟩)
  go_loopw [1, 14] (fun v1 v14 wr => ∃ k, Over3 w l ps q0 v1 v14 wr k) (fun _ v14 _ => 2 - (RowKit.intOf v14).toNat)
  case atStart => exact ⟨0, ⟨Nat.zero_le _, rfl, rfl, Below.refl _ _⟩⟩
  case round =>
    obtain ⟨k, hI⟩ := hrel
    obtain ⟨hle, rfl, rfl, hb⟩ := hI
    have HB := Lib.hid hb
    rw [HN.out.1] at hle
    by_cases hkn : k < n
    · have hkl : k < ps.length := by rw [HN.out.1]; exact hkn
      obtain ⟨p, hp⟩ : ∃ p, ps[k]? = some p := ⟨_, List.getElem?_eq_getElem hkl⟩
      obtain ⟨fv, hc0, hfv⟩ := HK.out.at' k p hp
      have hc1 := (hb.cell (p := ⟨kb, k, none⟩) HK.out.lt).trans hc0
      obtain ⟨f, cap, rfl, eg, hf⟩ := hfv
      have HF : Hid (∀ W, Below w.heap.size w W → ∀ r : Int, Calls Tryd.prog f (#[.int .i32 r] ++ cap) W fun e w' => e = .returned (.bool (p r)) ∧ Below W.heap.size W w') := Lib.hid hf
      have HT : Hid (ps.take (k + 1) = ps.take k ++ [p]) := Lib.hid (by rw [List.take_succ_eq_append_getElem hkl, (List.getElem?_eq_some_iff.1 hp).2])
      have HKL : Hid (k < 2 ∧ k + 1 ≤ ps.length) := Lib.hid ⟨by have := HN.out.2; omega, hkl⟩
      have HQL : Hid (backs l (ps.take k) q0 ≤ l.length) := Lib.hid (Nat.le_trans (backs_le l _ _) HQ.out)
      have i1 : (0 : Int) ≤ (k : Int) := by omega
      have i2 : ((k : Int) < (n : Int)) = True := by simp; exact hkn
      have hwk : wrap64 ((k : Int) + 1) = (k : Int) + 1 := by have := HKL.out; unfold wrap64; omega
      clear hc0 hf hp hkl hkn hb hle
      generalize hqk : backs l (ps.take k) q0 = qk at *
      have HQK := Lib.hid hqk
      clear hqk
      go_wp2
      go_loopw [1] (fun v1 wr' => ∃ q, In3 w l p qk v1 wr' q) (fun v1 _ => (RowKit.intOf v1).toNat)
      case atStart => exact ⟨qk, ⟨HQL.out, rfl, rfl, HB.out⟩⟩
      case round =>
        obtain ⟨q, hJ⟩ := hrel
        obtain ⟨hq, rfl, heq, hb2⟩ := hJ
        have HE := Lib.hid heq
        have HB2 := Lib.hid hb2
        cases q with
        | succ q =>
          have hql : q < l.length := by omega
          obtain ⟨rb, off, rfl, hlt, hcr⟩ := rune_cell (HL.out.below hb2) hql
          have j1 : (0 : Int) ≤ (q : Int) := by omega
          have j2 : ((q : Int) < (l.length : Int)) = True := by simp; exact hql
          have j3 : (((q + 1 : Nat) : Int) > 0) = True := by simp only [gt_iff_lt, eq_iff_iff, iff_true]; omega
          have j4 : ((0 : Int) < ((q + 1 : Nat) : Int)) = True := by simp only [eq_iff_iff, iff_true]; omega
          have hwq : wrap64 (((q + 1 : Nat) : Int) - 1) = (q : Int) := by have := HLEN.out; unfold wrap64; omega
          by_cases hpv : p l[q] = true
          · have HPV := Lib.hid hpv
            have HSTEP : Hid (backN l p q = backN l p qk) := Lib.hid ((backN_step hql hpv).symm.trans heq)
            have HQN := Lib.hid hql
            generalize l[q] = x at *
            clear hpv heq hb2 hq hql hlt
            generalize hq1 : q + 1 = q1 at *
            have j5 : (0 < q1) = True := by simp only [eq_iff_iff, iff_true]; omega
            have HQ1 := Lib.hid hq1
            clear hq1
            go_wp2_with (with_reducible refine (HF.out _ HB2.out _).mono ?_; rintro e w2 ⟨rfl, hb3⟩; have HB3 := Lib.hid (HB2.out.trans (hb3.mono HB2.out.size)); rw [HPV.out]; clear hb3)
            go_roundw
            case rel => exact ⟨q, ⟨Nat.le_of_lt HQN.out, by rw [hwq], HSTEP.out, HB3.out⟩⟩
            case measure => rw [hwq]; clear hwq hwk; have := HQ1.out; simp [RowKit.intOf]; omega
          · have hpv' : p l[q] = false := by simpa using hpv
            have HPV := Lib.hid hpv'
            have HSTOP : Hid (backN l p (q + 1) = q + 1) := Lib.hid (backN_stop hql hpv')
            generalize l[q] = x at *
            clear hpv hpv' heq hb2 hq hql hlt
            generalize hq1 : q + 1 = q1 at *
            have j5 : (0 < q1) = True := by simp only [eq_iff_iff, iff_true]; omega
            clear hq1
            go_wp2_with (with_reducible refine (HF.out _ HB2.out _).mono ?_; rintro e w2 ⟨rfl, hb3⟩; have HB3 := Lib.hid (HB2.out.trans (hb3.mono HB2.out.size)); rw [HPV.out]; clear hb3)
            go_roundw
            case rel => exact ⟨k + 1, ⟨HKL.out.2, by rw [HT.out, backs_snoc, HQK.out, ← HE.out, HSTOP.out], next_val hwk, HB3.out⟩⟩
            case measure => exact measure_lt HKL.out.1 hwk
        | zero =>
          have j2 : (((0 : Nat) : Int) > 0) = False := by simp
          have HSTOP : Hid (backN l p 0 = 0) := Lib.hid rfl
          clear heq hb2 hq
          go_wp2
          go_roundw
          case rel => exact ⟨k + 1, ⟨HKL.out.2, by rw [HT.out, backs_snoc, HQK.out, ← HE.out, HSTOP.out], next_val hwk, HB2.out⟩⟩
          case measure => exact measure_lt HKL.out.1 hwk
    · obtain rfl : k = n := by have := hle; omega
      have i2 : ((k : Int) < (k : Int)) = False := by simp
      have HE : Hid (ps.take k = ps) := Lib.hid (List.take_of_length_le (by rw [HN.out.1]; exact Nat.le_refl _))
      clear hkn hb hle
      go_wp2
      go_ret
      exact ⟨by rw [HE.out]; rfl, HB.out⟩
end Go.Proofs.YtepbhmebidmnbaaDoor
