/-
  Walks: rows of texts; what a walk that no call made answers; what the function of Changed gives.
-/
import Derived.Test.YtojhppcnpjajaaaHlSearch
namespace Go.Proofs.Ytojhppcnpjajaaa
open Go.RowKit Go.Shelf Go.Lib
attribute [local go_sem] Oper.semAt_some

theorem str_ne {a b : ByteArray} (h : ¬ a = b) : (a.toList == b.toList) = false := by
  rw [beq_eq_false_iff_ne]
  intro e
  rw [Lib.toList_data, Lib.toList_data] at e
  exact h (by rw [← Lib.mk_data a, ← Lib.mk_data b, e])
def strVals (l : List ByteArray) : List Value := l.map Value.string
theorem strVals_length (l : List ByteArray) : (strVals l).length = l.length := by simp [strVals]
theorem strVals_one (l : List ByteArray) : ∀ v ∈ strVals l, v.oneCell' = true := by
  intro v hv
  simp only [strVals, List.mem_map] at hv
  obtain ⟨x, _, rfl⟩ := hv
  rfl
theorem strVals_append (a b : List ByteArray) : strVals (a ++ b) = strVals a ++ strVals b := List.map_append
abbrev SSeg (w : World) (v : Value) (l : List ByteArray) : Prop := Seg w 9 1 v l.length (strVals l)
theorem SSeg.form' {w : World} {v : Value} {l : List ByteArray} (h : SSeg w v l) : ∃ A c, v = .slice A l.length c := by
  obtain ⟨A, c, e, _⟩ := Seg.form h
  exact ⟨A, c, e⟩
theorem SSeg.cell {w : World} {A : Option Addr} {n c : Nat} {l : List ByteArray} (h : SSeg w (.slice A n c) l) {i : Nat} {x : ByteArray} (hi : l[i]? = some x) : ∃ b off, A = some ⟨b, off, none⟩ ∧ b < w.heap.size ∧ w.cell? ⟨b, off + i, none⟩ = some (.string x) := by
  obtain ⟨A', c', e, _, hs⟩ := Seg.form h
  injection e with e1 e2 e3
  subst e1
  obtain ⟨b, off, rfl, hlt, hc⟩ := hs.cells (by have := (List.getElem?_eq_some_iff.1 hi).1; omega)
  exact ⟨b, off, rfl, hlt, hc i _ (by unfold strVals; rw [List.getElem?_map, hi]; rfl)⟩
/-- a walk that no call made -/
def WNone (w : World) (q : Option Addr) : Prop := q = none ∨ ∃ z, q = some ⟨z, 0, none⟩ ∧ w.cell? ⟨z, 1, none⟩ = some (.slice none 0 0) ∧ z < w.heap.size
theorem WNone.below {w w' : World} {q : Option Addr} (h : WNone w q) (hb : Below w.heap.size w w') : WNone w' q := by
  rcases h with h | ⟨z, h1, h2, h3⟩
  · exact .inl h
  · exact .inr ⟨z, h1, (hb.cell (p := ⟨z, 1, none⟩) h3).trans h2, Nat.lt_of_lt_of_le h3 hb.size⟩
set_option maxRecDepth 1000000 in
theorem wusable_n (w : World) (q : Option Addr) (h : WNone w q) : Calls Try.prog 56 #[.pointer q] w fun e w' => e = .returned (.bool false) ∧ w = w' := by
  rcases h with rfl | ⟨z, rfl, c1, _⟩
  all_goals
    go_enter Try.func56, Try.ntmps56
    go_wp2
    go_ret
    exact ⟨rfl, rfl⟩
set_option maxRecDepth 1000000 in
theorem whas_n (w : World) (q : Option Addr) (h : WNone w q) (i : Value) : Calls Try.prog 57 #[.pointer q, i] w fun e w' => e = .returned (.bool false) ∧ w = w' := by
  have CU := Lib.hid (wusable_n w q h)
  clear h
  go_enter Try.func57, Try.ntmps57
  go_wp2_with (go_at_call 56; refine (CU.out).mono ?_; rintro e w1 ⟨rfl, rfl⟩)
  go_ret
  exact ⟨rfl, rfl⟩
set_option maxRecDepth 1000000 in
theorem to_n (w : World) (q : Option Addr) (h : WNone w q) (i s : Value) : Calls Try.prog 21 #[.pointer q, i, s] w fun e w' => e = .returned (.tuple #[.string ⟨#[]⟩, .int .i64 2]) ∧ w = w' := by
  have CU := Lib.hid (wusable_n w q h)
  clear h
  go_enter Try.func21, Try.ntmps21
  go_wp2_with (go_at_call 56; refine (CU.out).mono ?_; rintro e w1 ⟨rfl, rfl⟩)
  go_ret2
  exact ⟨rfl, rfl⟩
set_option maxRecDepth 1000000 in
theorem here_n (w : World) (q : Option Addr) (h : WNone w q) (i : Value) : Calls Try.prog 23 #[.pointer q, i] w fun e w' => e = .returned (.tuple #[.string ⟨#[]⟩, .bool false]) ∧ w = w' := by
  have CU := Lib.hid (whas_n w q h i)
  clear h
  go_enter Try.func23, Try.ntmps23
  go_wp2_with (go_at_call 57; refine (CU.out).mono ?_; rintro e w1 ⟨rfl, rfl⟩)
  go_ret2
  exact ⟨rfl, rfl⟩
set_option maxRecDepth 1000000 in
theorem place_n (w : World) (q : Option Addr) (h : WNone w q) : Calls Try.prog 25 #[.pointer q] w fun e w' => e = .returned (.int .i64 0) ∧ w = w' := by
  have CU := Lib.hid (wusable_n w q h)
  clear h
  go_enter Try.func25, Try.ntmps25
  go_wp2_with (go_at_call 56; refine (CU.out).mono ?_; rintro e w1 ⟨rfl, rfl⟩)
  go_ret
  exact ⟨rfl, rfl⟩
/-- the changes among the first n places -/
def chgTo (ts cs : List ByteArray) (n : Nat) : List (Nat × ByteArray) := (List.range n).filterMap fun i => match ts[i]?, cs[i]? with
  | some a, some b => if b = a then none else some (i, b)
  | _, _ => none
def chg (ts cs : List ByteArray) : List (Nat × ByteArray) := chgTo ts cs ts.length
theorem chgTo_zero (ts cs : List ByteArray) : chgTo ts cs 0 = [] := rfl
theorem chgTo_same {ts cs : List ByteArray} {n : Nat} {a b : ByteArray} (ha : ts[n]? = some a) (hb : cs[n]? = some b) (h : b = a) : chgTo ts cs (n + 1) = chgTo ts cs n := by
  unfold chgTo
  rw [List.range_succ, List.filterMap_append]
  simp [ha, hb, h]
theorem chgTo_other {ts cs : List ByteArray} {n : Nat} {a b : ByteArray} (ha : ts[n]? = some a) (hb : cs[n]? = some b) (h : ¬ b = a) : chgTo ts cs (n + 1) = chgTo ts cs n ++ [(n, b)] := by
  unfold chgTo
  rw [List.range_succ, List.filterMap_append]
  simp [ha, hb, h]
theorem chgTo_begins (ts cs : List ByteArray) (n k : Nat) : ∃ r, chgTo ts cs (n + k) = chgTo ts cs n ++ r := by
  unfold chgTo
  rw [List.range_add, List.filterMap_append]
  exact ⟨_, rfl⟩
theorem chg_at {ts cs : List ByteArray} {n : Nat} {a b : ByteArray} (hn : n < ts.length) (ha : ts[n]? = some a) (hb : cs[n]? = some b) (h : ¬ b = a) : (chg ts cs)[(chgTo ts cs n).length]? = some (n, b) := by
  obtain ⟨r, hr⟩ := chgTo_begins ts cs (n + 1) (ts.length - (n + 1))
  have e : chg ts cs = chgTo ts cs n ++ ((n, b) :: r) := by
    show chgTo ts cs ts.length = _
    rw [show ts.length = n + 1 + (ts.length - (n + 1)) by omega, hr, chgTo_other ha hb h, List.append_assoc]
    rfl
  rw [e, List.getElem?_append_right (Nat.le_refl _), Nat.sub_self]
  rfl
/-- what the function of Changed holds -/
structure ChB (w : World) (b : Nat) (vt vc : Value) (ts cs : List ByteArray) : Prop where
  row : ∃ x : Int, w.heap[b]? = some (.cells #[vt, vc, .int .i64 x] 96 (0, 0))
  texts : SSeg w vt ts
  conts : SSeg w vc cs
def ChK (b : Nat) (vt vc : Value) (k : Nat) : Prop := k = b ∨ vt.ownBlock = some k ∨ vc.ownBlock = some k
theorem ChB.kept {w w' : World} {b : Nat} {vt vc : Value} {ts cs : List ByteArray} (h : ChB w b vt vc ts cs) (hk : ∀ k, ChK b vt vc k → w'.heap[k]? = w.heap[k]?) : ChB w' b vt vc ts cs := by
  obtain ⟨⟨x, h1⟩, h2, h3⟩ := h
  exact ⟨⟨x, (hk _ (.inl rfl)).trans h1⟩, h2.kept fun k e => hk k (.inr (.inl e)), h3.kept fun k e => hk k (.inr (.inr e))⟩
theorem ChB.lt {w : World} {b : Nat} {vt vc : Value} {ts cs : List ByteArray} (h : ChB w b vt vc ts cs) : ∀ k, ChK b vt vc k → k < w.heap.size := by
  rintro k (rfl | hk | hk)
  · obtain ⟨_, h1⟩ := h.row
    exact heap_lt h1
  · exact (h.texts.block k hk).1
  · exact (h.conts.block k hk).1
theorem ChB.below {w w' : World} {b : Nat} {vt vc : Value} {ts cs : List ByteArray} (h : ChB w b vt vc ts cs) (hb : Below w.heap.size w w') : ChB w' b vt vc ts cs := h.kept fun k hk => hb.block k (h.lt k hk)
abbrev chF (b : Nat) : Value := .func (.func 65) #[] #[.pointer (some ⟨b, 0, none⟩)]
def ChR (ts cs : List ByteArray) (k : Nat) (x y : Value) : Prop := ∃ (j : Nat) (s : ByteArray), (chg ts cs)[k]? = some (j, s) ∧ x = .int .i64 (j : Int) ∧ y = .string s
set_option maxRecDepth 1000000 in
set_option maxHeartbeats 4000000 in
theorem chg_iter (w : World) (b : Nat) (vt vc : Value) (ts cs : List ByteArray) (h : ChB w b vt vc ts cs) (hlc : ts.length ≤ cs.length) (hl : ts.length ≤ 140737488355328) :
    IterV Try.prog 65 #[.pointer (some ⟨b, 0, none⟩)] (ChK b vt vc) (chg ts cs).length (ChR ts cs) w := by
  intro n l0 J Jx W hs hJ hJx hY h0
  have hW : ChB W b vt vc ts cs := h.kept fun k hk => hs.block k hk
  obtain ⟨A, c, rfl⟩ := hW.texts.form'
  obtain ⟨A2, c2, rfl⟩ := hW.conts.form'
  have HW := Lib.hid hW
  have HJ := Lib.hid hJ
  have HY := Lib.hid hY
  have H0 := Lib.hid h0
  have hdep : Fence.wide.depth.isSome = false := rfl
  obtain ⟨x0, hr0⟩ := hW.row
  have cp := cell_of_row W b 0 _ _ _ hr0
  clear h hs hJ hJx hY h0 hW hr0
  have HL := Lib.hid hl
  have HLC := Lib.hid hlc
  clear hl hlc
  obtain ⟨N, hN⟩ : ∃ N, N = ts.length := ⟨_, rfl⟩
  rw [← hN] at cp
  have HN := Lib.hid hN
  clear hN
  refine callsIn_of_wp Try.func65 rfl trivial ?_ rfl
  simp only [Try.ntmps65, List.size_toArray, List.length_cons, List.length_nil, Nat.reduceAdd, Nat.reduceSub, Array.replicate_succ, Array.replicate_zero, List.push_toArray, List.append_toArray, List.nil_append, List.cons_append]
  gi_wp2_with fail
  gi_loopw [9] (fun i wr => ∃ k : Nat, k ≤ N ∧ i = .int .i64 (k : Int) ∧ Same (ChK b (.slice A ts.length c) (.slice A2 cs.length c2)) W wr ∧ J (chgTo ts cs k).length wr) (fun i _ => N - (RowKit.intOf i).toNat)
  case atStart => exact ⟨0, Nat.zero_le _, rfl, Same.refl _ _, H0.out⟩
  case round =>
    obtain ⟨k, hk, rfl, hs, hj⟩ := hrel
    have HS := Lib.hid hs
    have HJK := Lib.hid hj
    have hwr := HW.out.kept fun k hk => hs.block k hk
    have HWR := Lib.hid hwr
    by_cases hlt : k < N
    · have hkt : k < ts.length := by rw [← HN.out]; exact hlt
      have ha : ts[k]? = some ts[k] := List.getElem?_eq_getElem hkt
      have hb : cs[k]? = some (cs[k]'(Nat.lt_of_lt_of_le hkt HLC.out)) := List.getElem?_eq_getElem _
      generalize ts[k] = sa at ha
      generalize cs[k]'(Nat.lt_of_lt_of_le hkt HLC.out) = sb at hb
      obtain ⟨bb, off, rfl, hb1, c0⟩ := hwr.texts.cell ha
      obtain ⟨bb2, off2, rfl, hb2, c1⟩ := hwr.conts.cell hb
      obtain ⟨x1, hr1⟩ := hwr.row
      have d1 := cell_of_row wr b 1 _ _ _ hr1
      have HA := Lib.hid ha
      have HB := Lib.hid hb
      have HKT := Lib.hid hkt
      have HLT := Lib.hid hlt
      have i2 : ((k : Int) < (N : Int)) = True := eq_true (by omega)
      have i3 : (k < N) = True := eq_true hlt
      have i5 : (k < cs.length) = True := eq_true (Nat.lt_of_lt_of_le hkt HLC.out)
      have i6 : ((k : Int) < (cs.length : Int)) = True := eq_true (by have := HLC.out; omega)
      have hwk : wrap64 ((k : Int) + 1) = (k : Int) + 1 := by have := HL.out; have := HN.out; unfold wrap64; omega
      clear hk hs hj hwr hlt ha hb hb1 hb2 hr1 hkt
      generalize cs.length = M at *
      by_cases he : sb = sa
      · have HC := Lib.hid (chgTo_same HA.out HB.out he)
        subst he
        have HJ2 : Hid (J (chgTo ts cs (k + 1)).length wr) := Lib.hid (by rw [HC.out]; exact HJK.out)
        gi_wp2_with fail
        refine ⟨(fun f hf => by cases hf), ?_⟩
        gi_wp2_with fail
        go_roundw
        case rel => exact ⟨k + 1, HLT.out, next_val hwk, HS.out, HJ2.out⟩
        case measure => exact measure_lt HLT.out hwk
      · have HC := Lib.hid (chgTo_other HA.out HB.out he)
        have HAT := Lib.hid (chg_at HKT.out HA.out HB.out he)
        have q1 := str_ne he
        clear he
        obtain ⟨fn, tmps, assign, body, hy, hR⟩ := HY.out (chgTo ts cs k).length (.int .i64 (k : Int)) (.string sb) wr.heap.size wr (List.getElem?_eq_some_iff.1 HAT.out).1 ⟨Nat.le_refl _, k, sb, HAT.out, rfl, rfl⟩ HS.out.size HJK.out
        have HRR := Lib.hid hR
        clear hR
        gi_wp2_with fail
        refine HRR.out.mono ?_
        rintro e W4 (⟨rfl, hJ4, hs4⟩ | ⟨rfl, hJx4⟩)
        · have J4 : Hid (J (chgTo ts cs (k + 1)).length W4) := Lib.hid (by rw [HC.out, List.length_append]; exact hJ4)
          have S4 := Lib.hid (HS.out.trans (hs4.mono fun j hj => .inl hj))
          clear hJ4 hs4 hy
          gi_wp2
          go_roundw
          case rel => exact ⟨k + 1, HLT.out, next_val hwk, S4.out, J4.out⟩
          case measure => exact measure_lt HLT.out hwk
        · have J4 := Lib.hid hJx4
          clear hJx4 hy
          gi_wp2
          refine bodyPost_ret (results_none rfl _ _ _) rfl ?_
          exact ⟨⟨_, rfl⟩, .inr J4.out⟩
    · obtain rfl : k = N := by omega
      have i2 : ((k : Int) < (k : Int)) = False := by simp
      have HE : Hid (J (chg ts cs).length wr) := Lib.hid (by have := HJK.out; rw [HN.out] at this; exact this)
      clear hlt hk hs hj hwr
      gi_wp2_with fail
      go_end0
      exact ⟨⟨_, rfl⟩, .inl HE.out⟩
set_option maxRecDepth 1000000 in
theorem changed_n (w : World) (q : Option Addr) (h : WNone w q) : Calls Try.prog 35 #[.pointer q] w fun e w' => e = .returned (chF w.heap.size) ∧ ChB w' w.heap.size (.slice none 0 0) (.slice none 0 0) [] [] ∧ Below w.heap.size w w' := by
  have hb := (Below.refl w.heap.size w).alloc (Nat.le_refl _) (.cells #[.slice none 0 0, .slice none 0 0, .int .i64 0] 96)
  have CU := Lib.hid (wusable_n _ q (h.below hb))
  have HB := Lib.hid hb
  clear h hb
  go_enter Try.func35, Try.ntmps35
  go_wp2_with (go_at_call 56; refine (CU.out).mono ?_; rintro e w1 ⟨rfl, rfl⟩)
  go_ret
  exact ⟨rfl, ⟨⟨0, alloc_new _ _⟩, Seg.nil _ _ _, Seg.nil _ _ _⟩, HB.out⟩
end Go.Proofs.Ytojhppcnpjajaaa
