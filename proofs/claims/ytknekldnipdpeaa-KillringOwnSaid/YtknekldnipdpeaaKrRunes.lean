/-
  What the functions on slices of runes answer: Equal, Clone, Grow, Concat.
-/
import Derived.Test.YtknekldnipdpeaaKrBase
import Derived.Lib.AppendZeros
namespace Go.Proofs.Ytknekldnipdpeaa
open Go.RowKit Go.Shelf Go.Lib
attribute [local go_sem] Oper.semAt_some

theorem take_eq_succ {x y : List Int} {k : Nat} (h : x.take k = y.take k) (hx : k < x.length) (hy : k < y.length) (he : x[k] = y[k]) : x.take (k + 1) = y.take (k + 1) := by
  rw [List.take_succ_eq_append_getElem hx, List.take_succ_eq_append_getElem hy, h, he]
theorem ne_at {x y : List Int} {k : Nat} (hx : k < x.length) (hy : k < y.length) (he : ¬ x[k] = y[k]) : decide (x = y) = false := by
  rw [decide_eq_false_iff_not]
  rintro rfl
  exact he rfl
set_option maxRecDepth 1000000 in
set_option maxHeartbeats 4000000 in
theorem equal_any (w : World) (x y : List Int) (v u : Value) (hx : Holds1 w v (runeVals x)) (hy : Holds1 w u (runeVals y)) (hlen : x.length ≤ 140737488355328) :
    Calls Try.prog 18 #[v, u] w fun e w' => e = .returned (.bool (decide (x = y))) ∧ Below w.heap.size w w' := by
  obtain ⟨A, c, rfl, _⟩ := id hx
  obtain ⟨A2, c2, rfl, _⟩ := id hy
  rw [runeVals_length] at hx hy ⊢
  rw [runeVals_length]
  by_cases hl : x.length = y.length
  · have HX := Lib.hid hx
    have HY := Lib.hid hy
    have HL := Lib.hid hl
    have HLEN := Lib.hid hlen
    rw [hl]
    generalize hn : y.length = n at *
    have HN := Lib.hid hn
    clear hn hl hx hy hlen
    go_enter Try.func18, Try.ntmps18
    go_wp2
    go_loopw [13] (fun i wr => ∃ k : Nat, k ≤ n ∧ i = .int .i64 k ∧ x.take k = y.take k ∧ Below w.heap.size w wr) (fun i _ => n - (RowKit.intOf i).toNat)
    case atStart => exact ⟨0, Nat.zero_le _, rfl, rfl, Below.refl _ _⟩
    case round =>
      obtain ⟨k, hk, rfl, ht, hb⟩ := hrel
      have HT := Lib.hid ht
      have HB := Lib.hid hb
      by_cases hlt : k < n
      · have hkx : k < x.length := by rw [HL.out]; exact hlt
        have hky : k < y.length := by rw [HN.out]; exact hlt
        have q1 := HX.out.below hb
        have q2 := HY.out.below hb
        rw [← HN.out] at q2
        obtain ⟨b1, o1, rfl, _, hc1⟩ := rune_cell q1 hkx
        obtain ⟨b2, o2, rfl, _, hc2⟩ := rune_cell q2 hky
        have HS : Hid (x[k] = y[k] → x.take (k + 1) = y.take (k + 1)) := Lib.hid fun he => take_eq_succ ht hkx hky he
        have HE : Hid (¬ x[k] = y[k] → decide (x = y) = false) := Lib.hid fun he => ne_at hkx hky he
        have i1 : (0 : Int) ≤ (k : Int) := by omega
        have i2 : ((k : Int) < (n : Int)) = True := by simp; exact hlt
        have hwk : wrap64 ((k : Int) + 1) = (k : Int) + 1 := by have := HLEN.out; have := HL.out; unfold wrap64; omega
        have HKN := Lib.hid hlt
        clear q1 q2 hk ht hb hlt
        generalize x[k] = r1 at *
        generalize y[k] = r2 at *
        clear hkx hky
        by_cases he : r1 = r2
        · have HS2 := Lib.hid (HS.out he)
          subst he
          go_wp2
          go_region
          go_wp2
          go_roundw
          case rel => exact ⟨k + 1, HKN.out, next_val hwk, HS2.out, HB.out.trans ((Below.refl _ _).drew.mono HB.out.size)⟩
          case measure => exact measure_lt HKN.out hwk
        · have HE2 := Lib.hid (HE.out he)
          have i3 : (r1 == r2) = false := by simpa using he
          have i4 : (r1 = r2) = False := by simpa using he
          go_wp2
          go_region
          go_wp2
          go_ret
          exact ⟨by rw [HE2.out]; rfl, HB.out.trans ((Below.refl _ _).drew.mono HB.out.size)⟩
      · obtain rfl : k = n := by omega
        have i2 : ((k : Int) < (k : Int)) = False := by simp
        have HD : Hid (decide (x = y) = true) := Lib.hid (by
          rw [decide_eq_true_iff]
          rw [List.take_of_length_le (by rw [HL.out]; exact Nat.le_refl _), List.take_of_length_le (by rw [HN.out]; exact Nat.le_refl _)] at ht
          exact ht)
        clear hlt hk ht hb
        go_wp2
        go_ret
        exact ⟨by rw [HD.out]; rfl, HB.out⟩
  · have HD : Hid (decide (x = y) = false) := Lib.hid (by
      rw [decide_eq_false_iff_not]
      rintro rfl
      exact hl rfl)
    have i1 : ((x.length : Int) == (y.length : Int)) = false := by simp; omega
    have i2 : ((x.length : Int) = (y.length : Int)) = False := by simp; omega
    have i3 : (x.length = y.length) = False := by simp; omega
    generalize x.length = n at *
    generalize y.length = m at *
    clear hl hx hy hlen
    go_enter Try.func18, Try.ntmps18
    go_wp2
    go_ret
    exact ⟨by rw [HD.out]; rfl, Below.refl _ _⟩

set_option maxRecDepth 1000000 in
theorem cloneR_any (w : World) (v : Value) (x : List Int) (hx : Holds1 w v (runeVals x)) (hl : x.length ≤ 35184372088832) : Calls Try.prog 27 #[v] w fun e w' => ∃ v', e = .returned v' ∧ w'.ownsRow w.heap.size 21 1 v' x.length (runeVals x) ∧ Below w.heap.size w w' := by
  obtain ⟨A, c, rfl, ⟨hc, hn⟩, hcell⟩ := id hx
  rw [runeVals_length] at hx hc ⊢
  have qn : ∀ (W : World) (a : Option Addr) (n c n' c' : Nat), (binOp .eql 30 (.slice a n c) (.slice none n' c')).run Try.prog W = .ok (.bool a.isNone) W := fun W a n c n' c' => Lib.run_eql_slice_nil W _ _ a n c n' c' Try.underlying30
  cases A with
  | none =>
    obtain rfl := hn rfl
    have h0 : x.length = 0 := by omega
    obtain rfl : x = [] := List.eq_nil_of_length_eq_zero h0
    clear hx hc hn hcell hl
    go_enter Try.func27, Try.ntmps27
    go_wp2
    go_ret
    exact ⟨_, rfl, World.ownsRow_nil _ _ _ _, Below.refl _ _⟩
  | some a =>
    have H := Lib.hid hx
    have HL := Lib.hid hl
    have HB : Hid (Below w.heap.size w (w.alloc (.cells #[] 21))) := Lib.hid ((Below.refl _ _).alloc (Nat.le_refl _) _)
    have HX : Hid (Holds1 (w.alloc (.cells #[] 21)) (.slice (some a) x.length c) (runeVals x)) := Lib.hid (H.out.below HB.out)
    have HO : Hid ((w.alloc (.cells #[] 21)).ownsRow w.heap.size 21 1 (.slice (some ⟨w.heap.size, 0, none⟩) 0 0) ([] : List Int).length (runeVals [])) := Lib.hid ⟨rfl, .inr ⟨w.heap.size, 0, #[], rfl, Nat.le_refl _, alloc_new _ _, Nat.le_refl _, by simp, by simp, by simp [runeVals]⟩⟩
    clear hx hc hn hcell hl
    go_enter Try.func27, Try.ntmps27
    go_wp2_with (at_builtin; refine wpList_append_runes (by rfl) _ _ (by rfl) w.heap.size (.slice (some ⟨w.heap.size, 0, none⟩) 0 0) [] (by rfl) HO.out (some a) x.length c x (by rfl) HX.out (by have := HL.out; simp only [List.length_nil]; omega) (by simp) ?_; intro v2 w2 h2 hb2 hg2; have H2 := Lib.hid h2; have B2 := Lib.hid (HB.out.trans hb2); clear h2 hb2 hg2)
    go_ret
    exact ⟨_, rfl, H2.out, B2.out⟩

/-- a slice of slices of runes -/
def HoldsRows (w : World) (v : Value) (ps : List (List Int)) : Prop :=
  ∃ A c, v = .slice A ps.length c ∧ (0 < ps.length → ∃ b off, A = some ⟨b, off, none⟩ ∧ b < w.heap.size ∧ ∀ k (hk : k < ps.length), ∃ A' c', w.cell? ⟨b, off + k, none⟩ = some (.slice A' ps[k].length c') ∧ Holds1 w (.slice A' ps[k].length c') (runeVals ps[k]))
theorem flat_le (ps : List (List Int)) (k : Nat) : (ps.take k).flatten.length ≤ ps.flatten.length := by
  induction ps generalizing k with
  | nil => simp
  | cons x xs ih =>
    cases k with
    | zero => simp
    | succ k => simp only [List.take_succ_cons, List.flatten_cons, List.length_append]; have := ih k; omega
theorem flat_snoc (ps : List (List Int)) {k : Nat} {x : List Int} (h : ps[k]? = some x) : (ps.take (k + 1)).flatten = (ps.take k).flatten ++ x := by
  rw [List.take_add_one, h]
  simp
theorem piece_le (ps : List (List Int)) {k : Nat} {x : List Int} (h : ps[k]? = some x) : (ps.take k).flatten.length + x.length ≤ ps.flatten.length := by
  have := flat_le ps (k + 1)
  rw [flat_snoc ps h, List.length_append] at this
  exact this
/-- three slices of runes in a row -/
theorem rows_three {w : World} {g : Nat} {A1 A2 A3 : Option Addr} {c1 c2 c3 : Nat} {l1 l2 l3 : List Int} {t : TypeId} (hg : w.heap[g]? = some (.cells #[.slice A1 l1.length c1, .slice A2 l2.length c2, .slice A3 l3.length c3] t (0, 0))) (h1 : Holds1 w (.slice A1 l1.length c1) (runeVals l1)) (h2 : Holds1 w (.slice A2 l2.length c2) (runeVals l2)) (h3 : Holds1 w (.slice A3 l3.length c3) (runeVals l3)) : HoldsRows w (.slice (some ⟨g, 0, none⟩) 3 3) [l1, l2, l3] := by
  refine ⟨some ⟨g, 0, none⟩, 3, rfl, fun _ => ⟨g, 0, rfl, (Array.getElem?_eq_some_iff.1 hg).1, fun k hk => ?_⟩⟩
  match k, hk with
  | 0, _ => exact ⟨A1, c1, cell_of_row _ _ 0 _ _ _ hg, h1⟩
  | 1, _ => exact ⟨A2, c2, cell_of_row _ _ 1 _ _ _ hg, h2⟩
  | 2, _ => exact ⟨A3, c3, cell_of_row _ _ 2 _ _ _ hg, h3⟩
theorem rows_two {w : World} {g : Nat} {A1 A2 : Option Addr} {c1 c2 : Nat} {l1 l2 : List Int} {t : TypeId} (hg : w.heap[g]? = some (.cells #[.slice A1 l1.length c1, .slice A2 l2.length c2] t (0, 0))) (h1 : Holds1 w (.slice A1 l1.length c1) (runeVals l1)) (h2 : Holds1 w (.slice A2 l2.length c2) (runeVals l2)) : HoldsRows w (.slice (some ⟨g, 0, none⟩) 2 2) [l1, l2] := by
  refine ⟨some ⟨g, 0, none⟩, 2, rfl, fun _ => ⟨g, 0, rfl, (Array.getElem?_eq_some_iff.1 hg).1, fun k hk => ?_⟩⟩
  match k, hk with
  | 0, _ => exact ⟨A1, c1, cell_of_row _ _ 0 _ _ _ hg, h1⟩
  | 1, _ => exact ⟨A2, c2, cell_of_row _ _ 1 _ _ _ hg, h2⟩
set_option maxRecDepth 1000000 in
set_option maxHeartbeats 2000000 in
theorem grow_nil (n : Nat) (w : World) (hn : n ≤ 35184372088832) : Calls Try.prog 39 #[.slice none 0 0, .int .i64 n] w fun e w' => ∃ v, e = .returned v ∧ w'.ownsRow w.heap.size 21 1 v 0 [] ∧ Below w.heap.size w w' := by
  have g0 : ((n : Int) < 0) = False := by simp
  have hw : wrap64 (n : Int) = (n : Int) := by unfold wrap64; omega
  rcases Nat.eq_zero_or_pos n with rfl | hp
  · go_enter Try.func39, Try.ntmps39
    go_wp2
    go_ret
    exact ⟨_, rfl, World.ownsRow_nil _ _ _ _, Below.refl _ _⟩
  · obtain ⟨i, hi, hz, hs2, hby⟩ := info_parts info_rune
    have g1 : ((0 : Int) < (n : Int)) = True := by simp; exact hp
    have hrun := fun ty => run_append_nil_zeros (P := Try.prog) w 30 3 ty 21 i (.int .i32 0) .i64 .i64 Try.underlying30 Try.underlying3 hi hz n hp (by omega) (by omega) (by rw [hby]; omega)
    have hge := grownCap_ge w n 0 21
    have hcm : grownCap w n 0 21 ≤ maxLen := grownCap_le_maxLen w n 0 21 (by unfold maxLen; omega)
    have HR := Lib.hid hrun
    have HC := Lib.hid (And.intro hge hcm)
    have HSZ : Hid ((Builtin.zeroCells (Value.int .i32 0).cells n ++ Builtin.zeroCells (Value.int .i32 0).cells (grownCap w n 0 21 - n)).size = grownCap w n 0 21) := Lib.hid (by simp [Builtin.zeroCells, Value.cells]; omega)
    clear hrun hge hcm
    generalize grownCap w n 0 21 = c at *
    generalize Builtin.zeroCells (Value.int .i32 0).cells n ++ Builtin.zeroCells (Value.int .i32 0).cells (c - n) = cs at *
    have hsl := fun W => slice_head (P := Try.prog) 30 21 Try.underlying30 1 rune_size (some ⟨w.heap.size, 0, none⟩) n c 0 (Nat.zero_le _) W
    go_enter Try.func39, Try.ntmps39
    go_wp2_with (at_builtin; refine wpList_append_run w (by rfl) _ _ _ _ (by rfl) _ _ (by rfl) (by rfl) _ _ (HR.out _) ?_)
    go_ret
    exact ⟨_, rfl, ⟨rfl, .inr ⟨w.heap.size, c, cs, rfl, Nat.le_refl _, heap_alloc_new w.drew _, Nat.zero_le _, HC.out.2, by rw [HSZ.out]; omega, rfl⟩⟩, ((Below.refl _ w).drew).alloc (Nat.le_refl _) _⟩
/-- how many runes the first k have -/
def szTo (ps : List (List Int)) (k : Nat) : Nat := (ps.take k).flatten.length
set_option maxRecDepth 1000000 in
set_option maxHeartbeats 1000000 in
theorem concat_any (w : World) (ps : List (List Int)) (A : Option Addr) (n c : Nat) (h : HoldsRows w (.slice A n c) ps) (hlen : ps.flatten.length ≤ 35184372088832 ∧ ps.length ≤ 1000) :
    Calls Try.prog 36 #[.slice A n c] w fun e w' => ∃ r, e = .returned r ∧ w'.ownsRow w.heap.size 21 1 r ps.flatten.length (runeVals ps.flatten) ∧ Below w.heap.size w w' := by
  obtain ⟨A', c', e0, hrows⟩ := h
  injection e0 with e1 e2 e3
  subst e1 e3
  have HR := Lib.hid hrows
  have HL : Hid (ps.flatten.length ≤ 35184372088832 ∧ n ≤ 1000) := Lib.hid (by rw [e2]; exact hlen)
  have HN := Lib.hid e2.symm
  clear hrows hlen e2
  go_enter Try.func36, Try.ntmps36
  go_wp2
  go_loop [3, 11] (fun z i => ∃ k : Nat, k ≤ n ∧ i = .int .i64 k ∧ z = .int .i64 (szTo ps k)) (fun _ i => n - (RowKit.intOf i).toNat)
  case atStart => exact ⟨0, Nat.zero_le _, rfl, rfl⟩
  case round =>
    obtain ⟨k, hk, rfl, rfl⟩ := hrel
    by_cases hlt : k < n
    · obtain ⟨x, hx⟩ : ∃ x, ps[k]? = some x := ⟨_, List.getElem?_eq_getElem (by rw [HN.out]; exact hlt)⟩
      have hkl : k < ps.length := by rw [HN.out]; exact hlt
      have hxe : ps[k] = x := by
        have := List.getElem?_eq_getElem hkl
        rw [hx] at this
        exact (Option.some.inj this).symm
      obtain ⟨b, off, rfl, hbl, hrow⟩ := HR.out (by omega)
      obtain ⟨Ak, ck, hck, hhk⟩ := hrow k hkl
      rw [hxe] at hck hhk
      have hpl := piece_le ps hx
      have HS : Hid (szTo ps (k + 1) = szTo ps k + x.length) := Lib.hid (by unfold szTo; rw [flat_snoc ps hx, List.length_append])
      have HB : Hid (szTo ps k + x.length ≤ 35184372088832) := Lib.hid (by have := HL.out; unfold szTo; omega)
      have i1 : (0 : Int) ≤ (k : Int) := by omega
      have i2 : ((k : Int) < (n : Int)) = True := by simp; exact hlt
      have hwk : wrap64 ((k : Int) + 1) = (k : Int) + 1 := by have := HL.out; unfold wrap64; omega
      have HLT := Lib.hid hlt
      clear hrow hhk hlt hxe hbl hx hkl hpl hk
      generalize szTo ps k = z at *
      generalize x.length = y at *
      have hwz : wrap64 ((z : Int) + (y : Int)) = (z : Int) + (y : Int) := by have := HB.out; unfold wrap64; omega
      have g0 : ((z : Int) + (y : Int) < 0) = False := by simp; omega
      go_wp2
      go_round
      case rel => exact ⟨k + 1, by have := HLT.out; omega, next_val hwk, by rw [HS.out]; exact congrArg (Value.int .i64) (by omega)⟩
      case measure => exact measure_lt HLT.out hwk
    · obtain rfl : k = n := by omega
      have hfl : (ps.take k).flatten = ps.flatten := by rw [List.take_of_length_le (by rw [HN.out]; omega)]
      have hsz : szTo ps k = ps.flatten.length := by unfold szTo; rw [hfl]
      rw [hsz]
      have i2 : ((k : Int) < (k : Int)) = False := by simp
      have CG := Lib.hid (grow_nil ps.flatten.length w (by have := HL.out; omega))
      clear hlt hk hfl hsz
      generalize hF : ps.flatten = FF at *
      have HF := Lib.hid hF
      clear hF
      go_wp2_with (go_at_call 39; refine (CG.out).mono ?_; rintro e w1 ⟨r1, rfl, ho1, hb1⟩; have HO1 := Lib.hid ho1; have HB1 := Lib.hid hb1; clear ho1 hb1)
      go_loopw [6, 27] (fun r i wr => ∃ j : Nat, j ≤ k ∧ i = .int .i64 j ∧ wr.ownsRow w.heap.size 21 1 r (ps.take j).flatten.length (runeVals (ps.take j).flatten) ∧ Below w.heap.size w wr) (fun _ i _ => k - (RowKit.intOf i).toNat)
      case atStart => exact ⟨0, Nat.zero_le _, rfl, HO1.out, HB1.out⟩
      case round =>
        obtain ⟨j, hj, rfl, ho, hb⟩ := hrel
        by_cases hlt : j < k
        · obtain ⟨x, hx⟩ : ∃ x, ps[j]? = some x := ⟨_, List.getElem?_eq_getElem (by rw [HN.out]; exact hlt)⟩
          have hkl : j < ps.length := by rw [HN.out]; exact hlt
          have hxe : ps[j] = x := by
            have := List.getElem?_eq_getElem hkl
            rw [hx] at this
            exact (Option.some.inj this).symm
          obtain ⟨b, off, rfl, hbl, hrow⟩ := HR.out (by omega)
          obtain ⟨Ak, ck, hck, hhk⟩ := hrow j hkl
          rw [hxe] at hck hhk
          have hcell := (hb.cell (p := ⟨b, off + j, none⟩) hbl).trans hck
          have hpl := piece_le ps hx
          have HS := Lib.hid (flat_snoc ps hx)
          have HX := Lib.hid (hhk.below hb)
          have HBD : Hid ((ps.take j).flatten.length + x.length ≤ 35184372088832) := Lib.hid (by have := HL.out; rw [HF.out] at hpl; omega)
          have i1 : (0 : Int) ≤ (j : Int) := by omega
          have i3 : ((j : Int) < (k : Int)) = True := by simp; exact hlt
          have hwk : wrap64 ((j : Int) + 1) = (j : Int) + 1 := by have := HL.out; unfold wrap64; omega
          have HLT := Lib.hid hlt
          have HO := Lib.hid ho
          have HB := Lib.hid hb
          clear hrow hhk hlt hxe hbl hx hkl hpl hj ho hb hck i2
          generalize (ps.take j).flatten = F at *
          go_wp2_with (at_builtin; refine wpList_append_runes (by rfl) _ _ (by rfl) w.heap.size _ F (by rfl) HO.out Ak x.length ck x (by rfl) HX.out HBD.out HB.out.size ?_; intro v4 w4 ho4 hb4 hg4; have HO4 := Lib.hid ho4; have HB4 := Lib.hid (HB.out.trans hb4); clear ho4 hb4 hg4)
          go_roundw
          case rel => exact ⟨j + 1, by have := HLT.out; omega, next_val hwk, by rw [HS.out]; exact HO4.out, HB4.out⟩
          case measure => exact measure_lt HLT.out hwk
        · obtain rfl : j = k := by omega
          have hfl : (ps.take j).flatten = FF := by rw [List.take_of_length_le (by rw [HN.out]; omega)]; exact HF.out
          rw [hfl] at ho
          clear hlt hj hfl
          have HO := Lib.hid ho
          clear ho
          go_wp2
          go_ret
          exact ⟨_, rfl, by rw [HF.out]; exact HO.out, hb⟩
end Go.Proofs.Ytknekldnipdpeaa
