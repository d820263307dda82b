/-
  The lines from a place on, one by one: from, and what its function gives; copied, Clone.
-/
import Derived.Test.YtojhppcnpjajaaaHlBegun
import Derived.Test.YtojhppcnpjajaaaHlRange
import Derived.LoopIn
import Derived.LoopNIn
namespace Go.Proofs.Ytojhppcnpjajaaa
open Go.RowKit Go.Shelf Go.Lib
attribute [local go_sem] Oper.semAt_some

/-- what the function of from holds: the place, the lines, the step -/
structure ItB (w : World) (b : Nat) (v : Value) (l : List HL) (p : Int) (back : Bool) : Prop where
  lines : ∃ x y : Int, w.heap[b]? = some (.cells #[v, .int .i64 x, .int .i64 y] 85 (0, 0))
  place : Box w (b + 1) (.int .i64 p) 3
  step : Box w (b + 2) (.int .i64 (if back then -1 else 1)) 3
  seg : HSeg w v l
/-- its blocks -/
def ItK (b : Nat) (v : Value) (k : Nat) : Prop := k = b ∨ k = b + 1 ∨ k = b + 2 ∨ v.ownBlock = some k
theorem ItB.kept {w w' : World} {b : Nat} {v : Value} {l : List HL} {p : Int} {back : Bool} (h : ItB w b v l p back) (hk : ∀ k, ItK b v k → w'.heap[k]? = w.heap[k]?) : ItB w' b v l p back := by
  obtain ⟨⟨x, y, h1⟩, h2, h3, h4⟩ := h
  exact ⟨⟨x, y, (hk _ (.inl rfl)).trans h1⟩, (hk _ (.inr (.inl rfl))).trans h2, (hk _ (.inr (.inr (.inl rfl)))).trans h3, h4.kept fun k e => hk k (.inr (.inr (.inr e)))⟩
theorem ItB.lt {w : World} {b : Nat} {v : Value} {l : List HL} {p : Int} {back : Bool} (h : ItB w b v l p back) : ∀ k, ItK b v k → k < w.heap.size := by
  rintro k (rfl | rfl | rfl | hk)
  · obtain ⟨_, _, h1⟩ := h.lines
    exact heap_lt h1
  · exact h.place.lt
  · exact h.step.lt
  · exact (h.seg.block k hk).1
theorem ItB.below {w w' : World} {b : Nat} {v : Value} {l : List HL} {p : Int} {back : Bool} (h : ItB w b v l p back) (hb : Below w.heap.size w w') : ItB w' b v l p back := h.kept fun k hk => hb.block k (h.lt k hk)
abbrev itF (b : Nat) : Value := .func (.func 73) #[] #[.pointer (some ⟨b + 1, 0, none⟩), .pointer (some ⟨b, 0, none⟩), .pointer (some ⟨b + 2, 0, none⟩)]
theorem it_new (w : World) {v : Value} {l : List HL} {x y p : Int} {back : Bool} (h : HSeg w v l) {o : Obj} (ho : o = .cells #[.int .i64 (if back then -1 else 1)] 3 (0, 0)) : ItB (((w.alloc (.cells #[v, .int .i64 x, .int .i64 y] 85)).alloc (.cells #[.int .i64 p] 3)).alloc o) w.heap.size v l p back ∧
    Below w.heap.size w (((w.alloc (.cells #[v, .int .i64 x, .int .i64 y] 85)).alloc (.cells #[.int .i64 p] 3)).alloc o) := by
  have b1 := (Below.refl w.heap.size w).alloc (Nat.le_refl _) (.cells #[v, .int .i64 x, .int .i64 y] 85)
  have n1 : (w.alloc (.cells #[v, .int .i64 x, .int .i64 y] 85)).heap[w.heap.size]? = some (.cells #[v, .int .i64 x, .int .i64 y] 85 (0, 0)) := alloc_new _ _
  have s1 : (w.alloc (.cells #[v, .int .i64 x, .int .i64 y] 85)).heap.size = w.heap.size + 1 := by simp
  generalize w.alloc (.cells #[v, .int .i64 x, .int .i64 y] 85) = w1 at *
  have n2 := alloc_new w1 (.cells #[.int .i64 p] 3)
  have k2 : ∀ k, k < w1.heap.size → (w1.alloc (.cells #[.int .i64 p] 3)).heap[k]? = w1.heap[k]? := fun k hk => Below.heap_alloc _ _ _ hk
  have s2 : (w1.alloc (.cells #[.int .i64 p] 3)).heap.size = w1.heap.size + 1 := by simp
  have b2 := b1.alloc (by omega) (.cells #[.int .i64 p] 3)
  generalize w1.alloc (.cells #[.int .i64 p] 3) = w2 at *
  have n3 := alloc_new w2 o
  have k3 : ∀ k, k < w2.heap.size → (w2.alloc o).heap[k]? = w2.heap[k]? := fun k hk => Below.heap_alloc _ _ _ hk
  have b3 := b2.alloc (by omega) o
  refine ⟨⟨⟨x, y, ?_⟩, ?_, ?_, h.below b3⟩, b3⟩
  · rw [k3 _ (by omega), k2 _ (by omega), n1]
  · show _ = _
    rw [k3 _ (by omega), ← s1, n2]
  · show _ = _
    rw [show w.heap.size + 2 = w2.heap.size by omega, n3, ho]
set_option maxRecDepth 1000000 in
theorem from_any (w : World) (v : Value) (l : List HL) (x y p : Int) (back : Bool) (h : HSeg w v l) : Calls Try.prog 52 #[.agg #[v, .int .i64 x, .int .i64 y], .int .i64 p, .bool back] w fun e w' => e = .returned (itF w.heap.size) ∧ ItB w' w.heap.size v l p back ∧ Below w.heap.size w w' := by
  have H := Lib.hid h
  clear h
  obtain ⟨A, c, rfl⟩ := H.out.holds.form
  cases back with
  | false =>
    go_enter Try.func52, Try.ntmps52
    go_wp2
    go_ret
    exact ⟨rfl, it_new w H.out rfl⟩
  | true =>
    go_enter Try.func52, Try.ntmps52
    go_wp2
    go_ret
    exact ⟨rfl, it_new w H.out rfl⟩
/-- how many are given, and at which place the k-th stands -/
def itN (n : Nat) (p : Int) (back : Bool) : Nat := if plc n p then (if back then p.toNat + 1 else n - p.toNat) else 0
def itP (p : Int) (back : Bool) (k : Nat) : Int := if back then p - k else p + k
def itM (n : Nat) (back : Bool) (i : Value) : Nat := if back then (RowKit.intOf i + 1).toNat else ((n : Int) - RowKit.intOf i).toNat
theorem itP_plc {n : Nat} {p : Int} {back : Bool} {k : Nat} (hk : k ≤ itN n p back) : plc n (itP p back k) = decide (k < itN n p back) := by
  rw [Bool.eq_iff_iff, plc_iff, decide_eq_true_iff]
  unfold itN at hk ⊢
  unfold itP
  by_cases h : plc n p = true
  · rw [if_pos h] at hk ⊢
    rw [plc_iff] at h
    cases back
    · simp only [Bool.false_eq_true, if_false] at hk ⊢
      omega
    · simp only [if_true] at hk ⊢
      omega
  · rw [if_neg h] at hk ⊢
    obtain rfl : k = 0 := by omega
    rw [plc_iff] at h
    cases back
    · simp only [Bool.false_eq_true, if_false]
      omega
    · simp only [if_true]
      omega
theorem itP_next (p : Int) (back : Bool) (k : Nat) : itP p back k + (if back then -1 else 1) = itP p back (k + 1) := by
  cases back
  · show p + (k : Int) + 1 = p + ((k + 1 : Nat) : Int)
    omega
  · show p - (k : Int) + -1 = p - ((k + 1 : Nat) : Int)
    omega
theorem itM_lt {n : Nat} {p : Int} {back : Bool} {k : Nat} (h : plc n (itP p back k) = true) : itM n back (.int .i64 (itP p back (k + 1))) < itM n back (.int .i64 (itP p back k)) := by
  rw [plc_iff] at h
  unfold itM
  unfold itP at *
  cases back <;> simp [RowKit.intOf] at h ⊢ <;> omega
/-- what is given in a round -/
def ItR (l : List HL) (p : Int) (back : Bool) (k : Nat) (x y : Value) : Prop := ∃ (j : Nat) (z : HL), itP p back k = (j : Int) ∧ x = .int .i64 (j : Int) ∧ l[j]? = some z ∧ y = hlV z
set_option maxRecDepth 1000000 in
set_option maxHeartbeats 4000000 in
theorem from_iter (w : World) (b : Nat) (v : Value) (l : List HL) (p : Int) (back : Bool) (h : ItB w b v l p back) (hl : l.length ≤ 140737488355328) :
    IterV Try.prog 73 #[.pointer (some ⟨b + 1, 0, none⟩), .pointer (some ⟨b, 0, none⟩), .pointer (some ⟨b + 2, 0, none⟩)] (ItK b v) (itN l.length p back) (ItR l p back) w := by
  intro n l0 J Jx W hs hJ hJx hY h0
  have hW : ItB W b v l p back := h.kept fun k hk => hs.block k hk
  obtain ⟨A, c, rfl⟩ := hW.seg.holds.form
  have HK : Hid (∀ k, ItK b (.slice A l.length c) k → k < W.heap.size) := Lib.hid hW.lt
  have HW := Lib.hid hW
  have HJ := Lib.hid hJ
  have HY := Lib.hid hY
  have H0 := Lib.hid h0
  have hdep : Fence.wide.depth.isSome = false := rfl
  have cp := hW.place.cell
  clear h hs hJ hJx hY h0 hW
  have HL := Lib.hid hl
  clear hl
  obtain ⟨N, hN⟩ : ∃ N, N = itN l.length p back := ⟨_, rfl⟩
  rw [← hN]
  have HN := Lib.hid hN
  clear hN
  have hp0 : Value.int .i64 p = .int .i64 (itP p back 0) := by unfold itP; cases back <;> simp
  rw [hp0] at cp
  clear hp0
  refine callsIn_of_wp Try.func73 rfl trivial ?_ rfl
  simp only [Try.ntmps73, List.size_toArray, List.length_cons, List.length_nil, Nat.reduceAdd, Nat.reduceSub, Array.replicate_succ, Array.replicate_zero, List.push_toArray, List.append_toArray, List.nil_append, List.cons_append]
  have hf0 : Fence.wide.fn 74 := trivial
  gi_wp2_with fail
  gi_loopw [5] (fun i wr => ∃ k : Nat, k ≤ N ∧ i = .int .i64 (itP p back k) ∧ Same (ItK b (.slice A l.length c)) W wr ∧ J k wr) (fun i _ => itM l.length back i)
  case atStart => exact ⟨0, Nat.zero_le _, rfl, Same.refl _ _, H0.out⟩
  case round =>
    obtain ⟨k, hk, rfl, hs, hj⟩ := hrel
    have HS := Lib.hid hs
    have HJK := Lib.hid hj
    have hwr : ItB wr b (.slice A l.length c) l p back := HW.out.kept fun k hk => hs.block k hk
    obtain ⟨x1, y1, hr⟩ := hwr.lines
    have d0 := cell_of_row wr b 0 _ _ _ hr
    have d1 := cell_of_row wr b 1 _ _ _ hr
    have d2 := cell_of_row wr b 2 _ _ _ hr
    have CH := Lib.hid (has_any wr A l.length c x1 y1 (itP p back k))
    rw [itP_plc (by rw [← HN.out]; exact hk), ← HN.out] at CH
    have HWR := Lib.hid hwr
    by_cases hlt : k < N
    · rw [decide_eq_true hlt] at CH
      have hpl : plc l.length (itP p back k) = true := by rw [itP_plc (by rw [← HN.out]; exact hk), ← HN.out]; exact decide_eq_true hlt
      have HM := Lib.hid (itM_lt hpl)
      obtain ⟨q0, q1⟩ := plc_iff.1 hpl
      obtain ⟨j, hj'⟩ : ∃ j : Nat, itP p back k = (j : Int) := ⟨(itP p back k).toNat, by omega⟩
      have hjl : j < l.length := by omega
      have hz : l[j]? = some l[j] := List.getElem?_eq_getElem hjl
      generalize l[j] = z at hz
      have hnx : wrap64 ((j : Int) + (if back then -1 else 1)) = itP p back (k + 1) := by
        rw [← itP_next, hj']
        have := HL.out
        cases back <;> simp <;> unfold wrap64 <;> omega
      obtain ⟨st, hst⟩ : ∃ st : Int, st = if back then -1 else 1 := ⟨_, rfl⟩
      rw [← hst] at hnx
      have HST := Lib.hid hst
      have HM2 : Hid (itM l.length back (.int .i64 (wrap64 ((j : Int) + st))) < itM l.length back (.int .i64 (j : Int))) := Lib.hid (by rw [hnx, ← hj']; exact HM.out)
      have HJJ := Lib.hid hj'
      have HZ := Lib.hid hz
      have HNX := Lib.hid hnx
      have HLT := Lib.hid hlt
      rw [hj'] at CH
      rw [hj']
      clear hk hs hj hwr hlt hpl q0 q1 hj' hz hnx hst HM
      have i2 : ((j : Int) < (l.length : Int)) = True := by simp; exact hjl
      gi_wp2_with (first
        | (gi_at_call 74; refine (callsIn_wide.2 CH.out).mono ?_; rintro e w1 ⟨rfl, hb⟩; have hs1 : Same (ItK b (.slice A l.length c)) W w1 := HS.out.trans ⟨hb.size, fun q hq => hb.block q (HWR.out.lt q hq)⟩; have hj1 := HJ.out k wr w1 HJK.out (Touch.of_below hb); have hwr1 := HWR.out.below hb; obtain ⟨x2, y2, hr2⟩ := hwr1.lines; have d0' := cell_of_row w1 b 0 _ _ _ hr2; obtain ⟨bb, off, rfl, hbl, c0, c1⟩ := hwr1.seg.holds.cell HZ.out; obtain ⟨fn, tmps, assign, body, hy, hR⟩ := HY.out k (.int .i64 (j : Int)) (hlV z) w1.heap.size w1 (by rw [← HN.out]; exact HLT.out) ⟨Nat.le_refl _, j, z, HJJ.out, rfl, HZ.out, rfl⟩ (Nat.le_trans HS.out.size hb.size) hj1; have HS1 := Lib.hid hs1; have HW1 := Lib.hid hwr1; clear hs1 hj1 hwr1 hr2 hb hbl))
      refine hR.mono ?_
      rintro e W4 (⟨rfl, hJ4, hs4⟩ | ⟨rfl, hJx4⟩)
      · have J4 := Lib.hid hJ4
        have S4 := Lib.hid (HS1.out.trans (hs4.mono fun j hj => .inl hj))
        have hw4 := HW1.out.kept fun q hq => hs4.block q (.inl hq)
        have e0 := hw4.step.cell
        rw [← HST.out] at e0
        clear hJ4 hs4 hy hR hw4
        gi_wp2
        go_roundw
        case rel => exact ⟨k + 1, HLT.out, congrArg (Value.int .i64) HNX.out, S4.out, J4.out⟩
        case measure => exact HM2.out
      · have J4 := Lib.hid hJx4
        clear hJx4 hy hR
        gi_wp2
        refine bodyPost_ret (results_none rfl _ _ _) rfl ?_
        exact ⟨⟨_, rfl⟩, .inr J4.out⟩
    · obtain rfl : k = N := by omega
      rw [decide_eq_false (by omega)] at CH
      clear hlt hk hs hj hwr hr
      gi_wp2_with (gi_at_call 74; refine (callsIn_wide.2 CH.out).mono ?_; rintro e w1 ⟨rfl, hb⟩; have HB := Lib.hid (HJ.out k wr w1 HJK.out (Touch.of_below hb)); clear hb)
      go_end0
      exact ⟨⟨_, rfl⟩, .inl HB.out⟩
end Go.Proofs.Ytojhppcnpjajaaa
