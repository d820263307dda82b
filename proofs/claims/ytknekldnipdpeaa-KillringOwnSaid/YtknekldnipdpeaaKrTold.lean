/-
  The law package's told: a ring tells its entries, as far as it is asked, twice.
-/
import Derived.Test.YtknekldnipdpeaaKrIter
import Derived.Test.YtknekldnipdpeaaKrArg
namespace Go.Proofs.Ytknekldnipdpeaa
open Go.RowKit Go.Shelf Go.Lib
attribute [local go_sem] Oper.semAt_some

/-- what lies while the entries are told: the entries that are wanted, the stop, the answer, the count; the blocks of T as in W0; those of D wait for the end -/
structure TI (T D : Nat → Prop) (w W0 : World) (nb : Nat) (wv : Value) (st : Int) (k : Nat) (W : World) : Prop where
  want : Box W w.heap.size wv 26
  stp : Box W (w.heap.size + 1) (.int .i64 st) 3
  ans : Box W (w.heap.size + 2) (.bool false) 4
  cnt : Box W nb (.int .i64 k) 3
  b : Below w.heap.size w W
  sm : Same T W0 W
  dfr : ∀ x, D x → W.heap[x]? = some (.deferred (some []))
section
variable {T D : Nat → Prop} {w W0 W W' : World} {nb k : Nat} {wv : Value} {st : Int}
theorem TI.touch (h : TI T D w W0 nb wv st k W) {U : Nat → Prop} (ht : Touch U W W') (hU : ∀ j, j ≤ nb → ¬ U j) (hw : w.heap.size + 2 < nb) (hT : ∀ j, T j → j < nb) (hD : ∀ j, D j → j < nb) : TI T D w W0 nb wv st k W' :=
  ⟨h.want.same (ht.block _ h.want.lt (hU _ (by omega))), h.stp.same (ht.block _ h.stp.lt (hU _ (by omega))), h.ans.same (ht.block _ h.ans.lt (hU _ (by omega))), h.cnt.same (ht.block _ h.cnt.lt (hU _ (Nat.le_refl _))), h.b.trans (ht.below h.b.size fun j hj => Nat.le_of_not_lt fun hlt => hU j (by omega) hj), h.sm.trans (Same.of_touch ht fun j hj => ⟨Nat.lt_trans (hT j hj) h.cnt.lt, hU j (Nat.le_of_lt (hT j hj))⟩), fun x hx => (ht.block x (Array.getElem?_eq_some_iff.1 (h.dfr x hx)).1 (hU x (Nat.le_of_lt (hD x hx)))).trans (h.dfr x hx)⟩
/-- counted on -/
theorem TI.next (h : TI T D w W0 nb wv st k W) (hw : w.heap.size + 2 < nb) (hT : ∀ j, T j → j < nb) (hD : ∀ j, D j → j < nb) : TI T D w W0 nb wv st (k + 1) (W.setCell ⟨nb, 0, none⟩ (.int .i64 ((k + 1 : Nat) : Int))) :=
  have ht : Touch (Only nb) W (W.setCell ⟨nb, 0, none⟩ (.int .i64 ((k + 1 : Nat) : Int))) := only_set W nb 0 _
  have hU : ∀ j, j < nb → ¬ Only nb j := fun j hj e => by simp only [Only] at e; omega
  ⟨h.want.same (ht.block _ h.want.lt (hU _ (by omega))), h.stp.same (ht.block _ h.stp.lt (hU _ (by omega))), h.ans.same (ht.block _ h.ans.lt (hU _ (by omega))), h.cnt.set _, h.b.trans (ht.below h.b.size fun j hj => by simp only [Only] at hj; omega), h.sm.trans (Same.of_touch ht fun j hj => ⟨Nat.lt_trans (hT j hj) h.cnt.lt, hU j (hT j hj)⟩), fun x hx => (ht.block x (Array.getElem?_eq_some_iff.1 (h.dfr x hx)).1 (hU x (hD x hx))).trans (h.dfr x hx)⟩
end
section
variable {K : Nat → Prop}
theorem wpIn_noPanic {c : Code} {F : Fence} {n : Nat} {P : Program} {Q : Exit → Act → World → Prop} {a : Act} {w : World} (h : c.wpIn F n P (NoPanic Q) a w) : c.wpIn F n P Q a w := wpIn_mono h NoPanic.imp
set_option maxRecDepth 1000000 in
set_option maxHeartbeats 8000000 in
theorem told_is (w : World) (g : Nat) (S : KS) (h : RAt K w g S) (A : Option Addr) (n c : Nat) (hw : Mat w (.slice A n c) S.es) (hn : n = S.es.length) (st : Int) :
    Calls Try.prog 19 #[.pointer (some ⟨g, 0, none⟩), .slice A n c, .int .i64 st] w fun e w' => e = .returned (.bool true) ∧ Below w.heap.size w w' := by
  refine (callsIn_wide (n := 8)).1 ?_
  refine callsIn_of_wp_marks Try.func19 rfl trivial ?_ rfl
  simp only [Try.ntmps19, List.size_toArray, List.length_cons, List.length_nil, Nat.reduceAdd, Nat.reduceSub, Array.replicate_succ, Array.replicate_zero, List.push_toArray, List.append_toArray, List.nil_append, List.cons_append]
  have hdep : Fence.wide.depth.isSome = false := rfl
  have hf0 : Fence.wide.fn 23 := trivial
  have hf1 : Fence.wide.fn 18 := trivial
  have hf2 : Fence.wide.fn 22 := trivial
  have HL := Lib.hid h
  have HW := Lib.hid hw
  have HNL : Hid (n ≤ 60) := Lib.hid (by rw [hn]; exact h.many)
  have HN := Lib.hid hn
  clear h hw hn
  gi_wp2_with (first
    | (gi_at_call 23; have hb0 : Below w.heap.size w (((w.alloc (.cells #[.slice A n c] 26)).alloc (.cells #[.int .i64 st] 3)).alloc (.cells #[.bool false] 4)) := (((Below.refl _ w).alloc (Nat.le_refl _) _).alloc (by simp) _).alloc (by simp; omega) _; refine (callsIn_wide.2 (all_any _ g S (HL.out.below hb0))).mono ?_; rintro e W ⟨rfl, hg, hb⟩; have G := Lib.hid hg; have B0 := Lib.hid hb0; have B1 := Lib.hid hb; clear hg hb hb0))
  have hsz : (((w.alloc (.cells #[.slice A n c] 26)).alloc (.cells #[.int .i64 st] 3)).alloc (.cells #[.bool false] 4)).heap.size = w.heap.size + 3 := by simp
  rw [hsz] at G B1
  have hbw : Box W w.heap.size (.slice A n c) 26 := (B1.out.block _ (by omega)).trans ((Below.heap_alloc _ _ _ (by simp; omega)).trans ((Below.heap_alloc _ _ _ (by simp)).trans (World.alloc_heap_new w _)))
  have hbs : Box W (w.heap.size + 1) (.int .i64 st) 3 := (B1.out.block _ (by omega)).trans ((Below.heap_alloc _ _ _ (by simp)).trans (by have := World.alloc_heap_new (w.alloc (.cells #[.slice A n c] 26)) (.cells #[.int .i64 st] 3); rwa [show (w.alloc (.cells #[.slice A n c] 26)).heap.size = w.heap.size + 1 by simp] at this))
  have hba : Box W (w.heap.size + 2) (.bool false) 4 := (B1.out.block _ (by omega)).trans (by have := World.alloc_heap_new ((w.alloc (.cells #[.slice A n c] 26)).alloc (.cells #[.int .i64 st] 3)) (.cells #[.bool false] 4); rwa [show ((w.alloc (.cells #[.slice A n c] 26)).alloc (.cells #[.int .i64 st] 3)).heap.size = w.heap.size + 2 by simp] at this)
  have hBW : Below w.heap.size w W := B0.out.trans (B1.out.mono (by omega))
  have hqlt : w.heap.size + 3 < W.heap.size := G.out.lt
  have hKw : ∀ j, K j → j < w.heap.size := HL.out.inw
  have HT : Hid (∀ j, (K j ∨ j = w.heap.size + 3) → j < W.heap.size) := Lib.hid fun j hj => hj.elim (fun h => by have := hKw j h; omega) fun h => by omega
  have HKW : Hid (∀ j, K j → j < w.heap.size) := Lib.hid hKw
  have HX := Lib.hid (And.intro hbw (And.intro hba (And.intro hBW (And.intro hqlt hbs))))
  clear hsz hbw hba hbs hBW hqlt B0 B1 hKw
  refine wpIn_loop_rounds 3 ?_
  rw [roundsIn_succ]
  gi_wp2_with fail
  have hgi : TI (fun j => K j ∨ j = w.heap.size + 3) (fun _ => False) w W W.heap.size (.slice A n c) st 0 (W.alloc (.cells #[.int .i64 0] 3)) := ⟨HX.out.1.same (Below.heap_alloc _ _ _ (by have := HX.out.2.2.2.1; omega)), HX.out.2.2.2.2.same (Below.heap_alloc _ _ _ (by have := HX.out.2.2.2.1; omega)), HX.out.2.1.same (Below.heap_alloc _ _ _ (by have := HX.out.2.2.2.1; omega)), World.alloc_heap_new W _, HX.out.2.2.1.alloc (by have := HX.out.2.2.2.1; omega) _, ⟨by simp, fun j hj => Below.heap_alloc _ _ _ (HT.out j hj)⟩, fun _ h => h.elim⟩
  have hs1 : (W.alloc (.cells #[.int .i64 0] 3)).heap.size = W.heap.size + 1 := by simp
  refine range_law2s 9 10 (R := fun k x y b Wz => (W.alloc (.cells #[.int .i64 0] 3)).heap.size + 2 ≤ b → AllR S.es k x y b Wz) rfl (enters_of Try.func34 (by kernel_rfl) rfl)
    ((all_iter (W.alloc (.cells #[.int .i64 0] 3)) (w.heap.size + 3) S.es (G.out.to ⟨hgi.sm.size, fun j hj _ => hgi.sm.block j hj⟩) (fun j hj => Nat.lt_of_lt_of_le (HT.out j (.inl hj)) (by simp))).weak fun k x y b Wz h _ => h) ?_ (fun j hj => Nat.lt_of_lt_of_le (HT.out j hj) (by simp))
    (fun k Wz => TI (fun j => K j ∨ j = w.heap.size + 3) (fun _ => False) w W W.heap.size (.slice A n c) st k Wz) (fun cd Wz => cd = .exit 2 ∧ ∃ k : Nat, (k : Int) = st ∧ TI (fun j => K j ∨ j = w.heap.size + 3) (fun _ => False) w W W.heap.size (.slice A n c) st k Wz) ?_ ?_ hgi ?_ ?_ ?_ ?_
  · rintro k x y b Wa Wb hr hz hk hb
    obtain ⟨r1, r2, l, A2, c2, r3, r4, r5, r6⟩ := hr hb
    exact ⟨r1, Nat.le_trans r2 hz, l, A2, c2, r3, r4, r5, own_same r6 fun k hk2 => hk k (Nat.le_trans hb (own_lt r6 k hk2).1)⟩
  · intro k Wa Wb h1 ht
    exact h1.touch ht (fun j hj h => by rw [hs1] at h; omega) (by have := HX.out.2.2.2.1; omega) HT.out (fun _ h => h.elim)
  · rintro cd Wa Wb ⟨h0, k, h1, h2⟩ ht
    exact ⟨h0, k, h1, h2.touch ht (fun j hj h => by rw [hs1] at h; omega) (by have := HX.out.2.2.2.1; omega) HT.out (fun _ h => h.elim)⟩
  · intro l x y Wa K1 hK1
    gi_wp2_with fail
    exact hK1
  · intro l k x y b Wr hk hx hbb hI hlt
    obtain ⟨rfl, hbz, lk, A2, c2, hlk, rfl, hlk2, hrow⟩ := hx hbb
    obtain ⟨wb, woff, A3, c3, hA, hwb, hwc, hwe, _⟩ := (HW.out.below hI.b).at hlk
    have CS := equal_any Wr lk lk _ _ hrow.holds hwe (by omega)
    rw [decide_eq_true rfl] at CS
    have CS := Lib.hid CS
    subst hA
    have hc1 := hI.want.cell
    have hc2 := hI.cnt.cell
    have hf2 := hI.cnt.frozen
    have hc3 := hI.stp.cell
    have hkn : k < n := by rw [HN.out]; exact hk
    have j1 : ((k : Int) ≥ (n : Int)) = False := eq_false (by omega)
    have j2 : ((n : Int) ≤ (k : Int)) = False := eq_false (by omega)
    have j3 : (n ≤ k) = False := eq_false (by omega)
    have j4 : ((0 : Int) ≤ (k : Int)) = True := eq_true (by omega)
    have j5 : ((k : Int) < (n : Int)) = True := eq_true (by omega)
    have j6 : (k < n) = True := eq_true hkn
    have hk64 : wrap64 ((k : Int) + 1) = ((k + 1 : Nat) : Int) := by have := HNL.out; unfold wrap64; omega
    have hk64' : IntKind.i64.wrap ((k : Int) + 1) = ((k + 1 : Nat) : Int) := by have := HNL.out; rw [IntWalk.i64_in _ (by omega)]; omega
    have HI := Lib.hid hI
    have HBZ := Lib.hid hbz
    have HBB := Lib.hid hbb
    have HLT := Lib.hid hlt
    have h1l : 1 ≤ 8 - 1 - 1 := by decide
    clear hx hlk hrow hwe hI hk hbz hlt hbb hlk2 hkn
    generalize lk.length = nl at *
    generalize hk1 : k + 1 = k1 at *
    have HK1e := Lib.hid hk1
    clear hk1
    by_cases hst : (k1 : Int) = st
    · have q1 : ((k1 : Int) == st) = true := by simpa using hst
      have q2 : ((k1 : Int) = st) = True := eq_true hst
      have HST := Lib.hid hst
      clear hst
      gi_wp2_with (first | (gi_at_call 18; refine (CallsIn.inRound l (callsIn_wide.2 CS.out)).mono ?_; rintro e Ws ⟨rfl, hb2⟩; have B2 := Lib.hid hb2; have hc1' := (hb2.cell (p := ⟨w.heap.size, 0, none⟩) HI.out.want.lt).trans hc1; have hc3' := (hb2.cell (p := ⟨w.heap.size + 1, 0, none⟩) HI.out.stp.lt).trans hc3; have hc2' := (hb2.cell (p := ⟨W.heap.size, 0, none⟩) HI.out.cnt.lt).trans hc2; have hf2' : Ws.frozen? ⟨W.heap.size, 0, none⟩ = false := Box.frozen (HI.out.cnt.same (hb2.block _ HI.out.cnt.lt)); have hcn : (Ws.setCell ⟨W.heap.size, 0, none⟩ (.int .i64 (k1 : Int))).cell? ⟨W.heap.size, 0, none⟩ = some (.int .i64 (k1 : Int)) := Box.cell (Box.set (HI.out.cnt.same (hb2.block _ HI.out.cnt.lt)) _); have hcs : (Ws.setCell ⟨W.heap.size, 0, none⟩ (.int .i64 (k1 : Int))).cell? ⟨w.heap.size + 1, 0, none⟩ = some (.int .i64 st) := Box.cell (Box.other (HI.out.stp.same (hb2.block _ HI.out.stp.lt)) (by have := HX.out.2.2.2.1; omega)); clear hb2))
      have hB3 := HI.out.touch (U := fun _ => False) (Touch.of_below B2.out) (fun _ _ h => h) (by have := HX.out.2.2.2.1; omega) HT.out (fun _ h => h.elim)
      have hB4 := hB3.next (by have := HX.out.2.2.2.1; omega) HT.out (fun _ h => h.elim)
      rw [HK1e.out] at hB4
      refine ⟨⟨?_, ?_⟩, rfl, k1, HST.out, hB4⟩
      · have := B2.out.size
        simpa [World.setCell] using this
      · intro j hj
        have hlt := HLT.out
        rw [hs1] at hlt hj
        exact (Below.heap_setCell Ws ⟨W.heap.size, 0, none⟩ _ j (by show j ≠ W.heap.size; omega)).trans (B2.out.block j (by omega))
    · have q1 : ((k1 : Int) == st) = false := by simpa using hst
      have q2 : ((k1 : Int) = st) = False := eq_false hst
      clear hst
      gi_wp2_with (first | (gi_at_call 18; refine (CallsIn.inRound l (callsIn_wide.2 CS.out)).mono ?_; rintro e Ws ⟨rfl, hb2⟩; have B2 := Lib.hid hb2; have hc1' := (hb2.cell (p := ⟨w.heap.size, 0, none⟩) HI.out.want.lt).trans hc1; have hc3' := (hb2.cell (p := ⟨w.heap.size + 1, 0, none⟩) HI.out.stp.lt).trans hc3; have hc2' := (hb2.cell (p := ⟨W.heap.size, 0, none⟩) HI.out.cnt.lt).trans hc2; have hf2' : Ws.frozen? ⟨W.heap.size, 0, none⟩ = false := Box.frozen (HI.out.cnt.same (hb2.block _ HI.out.cnt.lt)); have hcn : (Ws.setCell ⟨W.heap.size, 0, none⟩ (.int .i64 (k1 : Int))).cell? ⟨W.heap.size, 0, none⟩ = some (.int .i64 (k1 : Int)) := Box.cell (Box.set (HI.out.cnt.same (hb2.block _ HI.out.cnt.lt)) _); have hcs : (Ws.setCell ⟨W.heap.size, 0, none⟩ (.int .i64 (k1 : Int))).cell? ⟨w.heap.size + 1, 0, none⟩ = some (.int .i64 st) := Box.cell (Box.other (HI.out.stp.same (hb2.block _ HI.out.stp.lt)) (by have := HX.out.2.2.2.1; omega)); clear hb2))
      have hB3 := HI.out.touch (U := fun _ => False) (Touch.of_below B2.out) (fun _ _ h => h) (by have := HX.out.2.2.2.1; omega) HT.out (fun _ h => h.elim)
      have hB4 := hB3.next (by have := HX.out.2.2.2.1; omega) HT.out (fun _ h => h.elim)
      rw [HK1e.out] at hB4
      refine ⟨⟨?_, ?_⟩, by rw [HK1e.out]; exact hB4⟩
      · have := B2.out.size
        simpa [World.setCell] using this
      · intro j hj
        have hlt := HLT.out
        have hbz := HBZ.out
        have hbb := HBB.out
        rw [hs1] at hlt hj hbb
        have hjn : j ≠ W.heap.size ∧ j < Wr.heap.size := by
          rcases hj with hj | hj | hj | hj
          · have h1 : j < W.heap.size := HT.out j hj
            omega
          · omega
          · omega
          · omega
        exact (Below.heap_setCell Ws ⟨W.heap.size, 0, none⟩ _ j hjn.1).trans (B2.out.block j hjn.2)
  · intro W1 hI hK1
    rw [← HN.out] at hI
    obtain ⟨j1, hj1, hI⟩ : ∃ j1 : Nat, j1 = n ∧ TI (fun j => K j ∨ j = w.heap.size + 3) (fun _ => False) w W W.heap.size (.slice A n c) st j1 W1 := ⟨n, rfl, hI⟩
    have HJ : Hid (j1 = n ∨ (j1 : Int) = st) := Lib.hid (.inl hj1)
    clear hj1
    obtain ⟨b1, hb1⟩ : ∃ b1, b1 = W.heap.size + 1 := ⟨_, rfl⟩
    rw [hs1, ← hb1] at hK1
    rw [hs1, ← hb1]
    have hlt1 : b1 < W1.heap.size := (Array.getElem?_eq_some_iff.1 hK1).1
    have HX2 : Hid (w.heap.size + 3 < b1 ∧ b1 < W1.heap.size) := Lib.hid ⟨by have := HX.out.2.2.2.1; omega, hlt1⟩
    have HT2 : Hid (∀ j, (K j ∨ j = w.heap.size + 3) → j < W1.heap.size) := Lib.hid fun j hj => Nat.lt_of_lt_of_le (HT.out j hj) hI.sm.size
    have hc1 := hI.want.cell
    have hc2 := hI.cnt.cell
    have hc3 := hI.stp.cell
    have HI1 := Lib.hid hI
    have HK1 := Lib.hid hK1
    clear hI hK1 hs1 hb1 hlt1 hgi
    by_cases hjn : j1 = n
    · have e0 : (j1 : Int) = (n : Int) := by rw [hjn]
      have e1 : ((j1 : Int) != (n : Int)) = false := by simp [e0]
      clear e0 hjn
      gi_wp2_with fail
      rw [roundsIn_succ]
      gi_wp2_with fail
      have hgi : TI (fun j => K j ∨ j = w.heap.size + 3) (fun x => x = b1) w W W1.heap.size (.slice A n c) st 0 (W1.alloc (.cells #[.int .i64 0] 3)) := ⟨HI1.out.want.same (Below.heap_alloc _ _ _ (by have := HX2.out; omega)), HI1.out.stp.same (Below.heap_alloc _ _ _ (by have := HX2.out; omega)), HI1.out.ans.same (Below.heap_alloc _ _ _ (by have := HX2.out; omega)), World.alloc_heap_new W1 _, HI1.out.b.alloc (by have := HX2.out; omega) _, HI1.out.sm.trans ⟨by simp, fun j hj => Below.heap_alloc _ _ _ (HT2.out j hj)⟩, fun x hx => by rw [hx]; exact (Below.heap_alloc _ _ _ HX2.out.2).trans HK1.out⟩
      have hs1 : (W1.alloc (.cells #[.int .i64 0] 3)).heap.size = W1.heap.size + 1 := by simp
      refine range_law2s 9 10 (R := fun k x y b Wz => (W1.alloc (.cells #[.int .i64 0] 3)).heap.size + 2 ≤ b → AllR S.es k x y b Wz) rfl (enters_of Try.func34 (by kernel_rfl) rfl)
        ((all_iter (W1.alloc (.cells #[.int .i64 0] 3)) (w.heap.size + 3) S.es (G.out.to ⟨hgi.sm.size, fun j hj _ => hgi.sm.block j hj⟩) (fun j hj => Nat.lt_of_lt_of_le (HT2.out j (.inl hj)) (by simp))).weak fun k x y b Wz h _ => h) ?_ (fun j hj => Nat.lt_of_lt_of_le (HT2.out j hj) (by simp))
        (fun k Wz => TI (fun j => K j ∨ j = w.heap.size + 3) (fun x => x = b1) w W W1.heap.size (.slice A n c) st k Wz) (fun cd Wz => cd = .exit 2 ∧ ∃ k : Nat, (k : Int) = st ∧ TI (fun j => K j ∨ j = w.heap.size + 3) (fun x => x = b1) w W W1.heap.size (.slice A n c) st k Wz) ?_ ?_ hgi ?_ ?_ ?_ ?_
      · rintro k x y b Wa Wb hr hz hk hb
        obtain ⟨r1, r2, l, A2, c2, r3, r4, r5, r6⟩ := hr hb
        exact ⟨r1, Nat.le_trans r2 hz, l, A2, c2, r3, r4, r5, own_same r6 fun k hk2 => hk k (Nat.le_trans hb (own_lt r6 k hk2).1)⟩
      · intro k Wa Wb h1 ht
        exact h1.touch ht (fun j hj h => by rw [hs1] at h; omega) (by have := HX2.out; omega) HT2.out (fun x hx => by rw [hx]; exact HX2.out.2)
      · rintro cd Wa Wb ⟨h0, k, h1, h2⟩ ht
        exact ⟨h0, k, h1, h2.touch ht (fun j hj h => by rw [hs1] at h; omega) (by have := HX2.out; omega) HT2.out (fun x hx => by rw [hx]; exact HX2.out.2)⟩
      · intro l x y Wa K1 hK1
        gi_wp2_with fail
        exact hK1
      · intro l k x y b Wr hk hx hbb hI hlt
        obtain ⟨rfl, hbz, lk, A2, c2, hlk, rfl, hlk2, hrow⟩ := hx hbb
        obtain ⟨wb, woff, A3, c3, hA, hwb, hwc, hwe, _⟩ := (HW.out.below hI.b).at hlk
        have CS := equal_any Wr lk lk _ _ hrow.holds hwe (by omega)
        rw [decide_eq_true rfl] at CS
        have CS := Lib.hid CS
        subst hA
        have hc1 := hI.want.cell
        have hc2 := hI.cnt.cell
        have hf2 := hI.cnt.frozen
        have hc3 := hI.stp.cell
        have hkn : k < n := by rw [HN.out]; exact hk
        have j1 : ((k : Int) ≥ (n : Int)) = False := eq_false (by omega)
        have j2 : ((n : Int) ≤ (k : Int)) = False := eq_false (by omega)
        have j3 : (n ≤ k) = False := eq_false (by omega)
        have j4 : ((0 : Int) ≤ (k : Int)) = True := eq_true (by omega)
        have j5 : ((k : Int) < (n : Int)) = True := eq_true (by omega)
        have j6 : (k < n) = True := eq_true hkn
        have hk64 : wrap64 ((k : Int) + 1) = ((k + 1 : Nat) : Int) := by have := HNL.out; unfold wrap64; omega
        have hk64' : IntKind.i64.wrap ((k : Int) + 1) = ((k + 1 : Nat) : Int) := by have := HNL.out; rw [IntWalk.i64_in _ (by omega)]; omega
        have HI := Lib.hid hI
        have HBZ := Lib.hid hbz
        have HBB := Lib.hid hbb
        have HLT := Lib.hid hlt
        have h1l : 1 ≤ 8 - 1 - 1 := by decide
        clear hx hlk hrow hwe hI hk hbz hlt hbb hlk2 hkn
        generalize lk.length = nl at *
        generalize hk1 : k + 1 = k1 at *
        have HK1e := Lib.hid hk1
        clear hk1
        by_cases hst : (k1 : Int) = st
        · have q1 : ((k1 : Int) == st) = true := by simpa using hst
          have q2 : ((k1 : Int) = st) = True := eq_true hst
          have HST := Lib.hid hst
          clear hst
          gi_wp2_with (first | (gi_at_call 18; refine (CallsIn.inRound l (callsIn_wide.2 CS.out)).mono ?_; rintro e Ws ⟨rfl, hb2⟩; have B2 := Lib.hid hb2; have hc1' := (hb2.cell (p := ⟨w.heap.size, 0, none⟩) HI.out.want.lt).trans hc1; have hc3' := (hb2.cell (p := ⟨w.heap.size + 1, 0, none⟩) HI.out.stp.lt).trans hc3; have hc2' := (hb2.cell (p := ⟨W1.heap.size, 0, none⟩) HI.out.cnt.lt).trans hc2; have hf2' : Ws.frozen? ⟨W1.heap.size, 0, none⟩ = false := Box.frozen (HI.out.cnt.same (hb2.block _ HI.out.cnt.lt)); have hcn : (Ws.setCell ⟨W1.heap.size, 0, none⟩ (.int .i64 (k1 : Int))).cell? ⟨W1.heap.size, 0, none⟩ = some (.int .i64 (k1 : Int)) := Box.cell (Box.set (HI.out.cnt.same (hb2.block _ HI.out.cnt.lt)) _); have hcs : (Ws.setCell ⟨W1.heap.size, 0, none⟩ (.int .i64 (k1 : Int))).cell? ⟨w.heap.size + 1, 0, none⟩ = some (.int .i64 st) := Box.cell (Box.other (HI.out.stp.same (hb2.block _ HI.out.stp.lt)) (by have := HX2.out; omega)); clear hb2))
          have hB3 := HI.out.touch (U := fun _ => False) (Touch.of_below B2.out) (fun _ _ h => h) (by have := HX2.out; omega) HT2.out (fun x hx => by rw [hx]; exact HX2.out.2)
          have hB4 := hB3.next (by have := HX2.out; omega) HT2.out (fun x hx => by rw [hx]; exact HX2.out.2)
          rw [HK1e.out] at hB4
          refine ⟨⟨?_, ?_⟩, rfl, k1, HST.out, hB4⟩
          · have := B2.out.size
            simpa [World.setCell] using this
          · intro j hj
            have hlt := HLT.out
            rw [hs1] at hlt hj
            exact (Below.heap_setCell Ws ⟨W1.heap.size, 0, none⟩ _ j (by show j ≠ W1.heap.size; omega)).trans (B2.out.block j (by omega))
        · have q1 : ((k1 : Int) == st) = false := by simpa using hst
          have q2 : ((k1 : Int) = st) = False := eq_false hst
          clear hst
          gi_wp2_with (first | (gi_at_call 18; refine (CallsIn.inRound l (callsIn_wide.2 CS.out)).mono ?_; rintro e Ws ⟨rfl, hb2⟩; have B2 := Lib.hid hb2; have hc1' := (hb2.cell (p := ⟨w.heap.size, 0, none⟩) HI.out.want.lt).trans hc1; have hc3' := (hb2.cell (p := ⟨w.heap.size + 1, 0, none⟩) HI.out.stp.lt).trans hc3; have hc2' := (hb2.cell (p := ⟨W1.heap.size, 0, none⟩) HI.out.cnt.lt).trans hc2; have hf2' : Ws.frozen? ⟨W1.heap.size, 0, none⟩ = false := Box.frozen (HI.out.cnt.same (hb2.block _ HI.out.cnt.lt)); have hcn : (Ws.setCell ⟨W1.heap.size, 0, none⟩ (.int .i64 (k1 : Int))).cell? ⟨W1.heap.size, 0, none⟩ = some (.int .i64 (k1 : Int)) := Box.cell (Box.set (HI.out.cnt.same (hb2.block _ HI.out.cnt.lt)) _); have hcs : (Ws.setCell ⟨W1.heap.size, 0, none⟩ (.int .i64 (k1 : Int))).cell? ⟨w.heap.size + 1, 0, none⟩ = some (.int .i64 st) := Box.cell (Box.other (HI.out.stp.same (hb2.block _ HI.out.stp.lt)) (by have := HX2.out; omega)); clear hb2))
          have hB3 := HI.out.touch (U := fun _ => False) (Touch.of_below B2.out) (fun _ _ h => h) (by have := HX2.out; omega) HT2.out (fun x hx => by rw [hx]; exact HX2.out.2)
          have hB4 := hB3.next (by have := HX2.out; omega) HT2.out (fun x hx => by rw [hx]; exact HX2.out.2)
          rw [HK1e.out] at hB4
          refine ⟨⟨?_, ?_⟩, by rw [HK1e.out]; exact hB4⟩
          · have := B2.out.size
            simpa [World.setCell] using this
          · intro j hj
            have hlt := HLT.out
            have hbz := HBZ.out
            have hbb := HBB.out
            rw [hs1] at hlt hj hbb
            have hjn : j ≠ W1.heap.size ∧ j < Wr.heap.size := by
              rcases hj with hj | hj | hj | hj
              · have h1 : j < W1.heap.size := HT2.out j hj
                omega
              · omega
              · omega
              · omega
            exact (Below.heap_setCell Ws ⟨W1.heap.size, 0, none⟩ _ j hjn.1).trans (B2.out.block j hjn.2)
      · intro W2 hI hK2
        rw [← HN.out] at hI
        obtain ⟨j2, hj2, hI⟩ : ∃ j2 : Nat, j2 = n ∧ TI (fun j => K j ∨ j = w.heap.size + 3) (fun x => x = b1) w W W1.heap.size (.slice A n c) st j2 W2 := ⟨n, rfl, hI⟩
        have HJ : Hid (j2 = n ∨ (j2 : Int) = st) := Lib.hid (.inl hj2)
        clear hj2
        obtain ⟨b2, hb2⟩ : ∃ b2, b2 = W1.heap.size + 1 := ⟨_, rfl⟩
        rw [hs1, ← hb2] at hK2
        rw [hs1, ← hb2]
        have HB12 : Hid (b1 < b2) := Lib.hid (by have := HX2.out; omega)
        have hc1 := hI.want.cell
        have hc2 := hI.cnt.cell
        have hc3 := hI.stp.cell
        have hac := hI.ans.cell
        have haf := hI.ans.frozen
        have HI2 := Lib.hid hI
        have HK2 := Lib.hid hK2
        have HK1' := Lib.hid (hI.dfr b1 rfl)
        have CL : Hid (Calls Try.prog 22 #[.pointer (some ⟨g, 0, none⟩)] W2.drew fun e w' => e = .returned (.int .i64 (n : Int)) ∧ W2.drew = w') := Lib.hid (by
          rw [HN.out]
          exact len_any W2.drew g S ((HL.out.to ⟨HI2.out.b.size, fun k hk hl => HI2.out.b.block k hl⟩).below (Below.refl _ _).drew))
        clear hI hK2 hs1 hb2 hgi
        by_cases hjn : j2 = n
        · have e0 : (j2 : Int) = (n : Int) := by rw [hjn]
          have e1 : ((j2 : Int) != (n : Int)) = false := by simp [e0]
          clear e0 hjn
          gi_wp2_with fail
          rw [roundsIn_succ]
          gi_wp2_with fail
          refine wpIn_noPanic ?_
          gi_region_with (first
            | (gi_at_call 22; refine (callsIn_wide.2 CL.out).mono ?_; rintro e w5 ⟨rfl, rfl⟩))
          all_goals
            refine NoPanic.normal ?_
            gi_wp2_with fail
            have hw1 : ∀ x, x ≠ w.heap.size + 2 → (W2.setCell ⟨w.heap.size + 1 + 1, 0, none⟩ (.bool true)).drew.heap[x]? = W2.heap[x]? := fun x hx => Below.heap_setCell _ _ _ x hx
            have hnb : ∀ {x}, W2.heap[x]? = some (.deferred (some [])) → x ≠ w.heap.size + 2 := fun {x} hx e => by rw [e, HI2.out.ans] at hx; cases hx
            have hd2 := (hw1 b2 (hnb HK2.out)).trans HK2.out
            have hd1 := (hw1 b1 (hnb HK1'.out)).trans HK1'.out
            refine ⟨by simp, .inl ⟨_, _, rfl, run_takeDeferred hd2, ?_⟩⟩
            have hd1' := (World.putObj_heap_other (w := (W2.setCell ⟨w.heap.size + 1 + 1, 0, none⟩ (.bool true)).drew) (r := b2) (o := .deferred none) (show b1 ≠ b2 by have := HB12.out; omega)).trans hd1
            refine ⟨by simp, .inl ⟨_, _, rfl, run_takeDeferred hd1', ?_⟩⟩
            have hne1 : w.heap.size + 2 ≠ b1 := fun e => hnb HK1'.out e.symm
            have hne2 : w.heap.size + 2 ≠ b2 := fun e => hnb HK2.out e.symm
            have hbx : Box (((W2.setCell ⟨w.heap.size + 1 + 1, 0, none⟩ (.bool true)).drew.putObj b2 (.deferred none)).putObj b1 (.deferred none)) (w.heap.size + 1 + 1) (.bool true) 4 :=
              ((HI2.out.ans.set (.bool true)).same (World.putObj_heap_other (w := (W2.setCell ⟨w.heap.size + 1 + 1, 0, none⟩ (.bool true)).drew) hne2)).same (World.putObj_heap_other hne1)
            have hc := hbx.cell
            have hge := HX2.out
            have hlt := HB12.out
            refine ⟨.bool true, by simp [results, Try.results19, go_sem, hc], rfl, ?_⟩
            have hS : Below w.heap.size w (W2.setCell ⟨w.heap.size + 1 + 1, 0, none⟩ (.bool true)).drew := (HI2.out.b.setCell (p := ⟨w.heap.size + 1 + 1, 0, none⟩) (by show w.heap.size ≤ w.heap.size + 1 + 1; omega) _).drew
            have hP2 := hS.trans ((Touch.putObj (T := fun x => x = b2) _ b2 (.deferred none) rfl).below hS.size fun x hx => by omega)
            exact hP2.trans ((Touch.putObj (T := fun x => x = b1) _ b1 (.deferred none) rfl).below hP2.size fun x hx => by omega)
        · have hst : (j2 : Int) = st := HJ.out.resolve_left hjn
          have e1 : ((j2 : Int) != (n : Int)) = true := by simp; omega
          have e2 : ((j2 : Int) != st) = false := by simp [hst]
          clear hst hjn
          gi_wp2_with fail
          rw [roundsIn_succ]
          gi_wp2_with fail
          refine wpIn_noPanic ?_
          gi_region_with (first
            | (gi_at_call 22; refine (callsIn_wide.2 CL.out).mono ?_; rintro e w5 ⟨rfl, rfl⟩))
          all_goals
            refine NoPanic.normal ?_
            gi_wp2_with fail
            have hw1 : ∀ x, x ≠ w.heap.size + 2 → (W2.setCell ⟨w.heap.size + 1 + 1, 0, none⟩ (.bool true)).drew.heap[x]? = W2.heap[x]? := fun x hx => Below.heap_setCell _ _ _ x hx
            have hnb : ∀ {x}, W2.heap[x]? = some (.deferred (some [])) → x ≠ w.heap.size + 2 := fun {x} hx e => by rw [e, HI2.out.ans] at hx; cases hx
            have hd2 := (hw1 b2 (hnb HK2.out)).trans HK2.out
            have hd1 := (hw1 b1 (hnb HK1'.out)).trans HK1'.out
            refine ⟨by simp, .inl ⟨_, _, rfl, run_takeDeferred hd2, ?_⟩⟩
            have hd1' := (World.putObj_heap_other (w := (W2.setCell ⟨w.heap.size + 1 + 1, 0, none⟩ (.bool true)).drew) (r := b2) (o := .deferred none) (show b1 ≠ b2 by have := HB12.out; omega)).trans hd1
            refine ⟨by simp, .inl ⟨_, _, rfl, run_takeDeferred hd1', ?_⟩⟩
            have hne1 : w.heap.size + 2 ≠ b1 := fun e => hnb HK1'.out e.symm
            have hne2 : w.heap.size + 2 ≠ b2 := fun e => hnb HK2.out e.symm
            have hbx : Box (((W2.setCell ⟨w.heap.size + 1 + 1, 0, none⟩ (.bool true)).drew.putObj b2 (.deferred none)).putObj b1 (.deferred none)) (w.heap.size + 1 + 1) (.bool true) 4 :=
              ((HI2.out.ans.set (.bool true)).same (World.putObj_heap_other (w := (W2.setCell ⟨w.heap.size + 1 + 1, 0, none⟩ (.bool true)).drew) hne2)).same (World.putObj_heap_other hne1)
            have hc := hbx.cell
            have hge := HX2.out
            have hlt := HB12.out
            refine ⟨.bool true, by simp [results, Try.results19, go_sem, hc], rfl, ?_⟩
            have hS : Below w.heap.size w (W2.setCell ⟨w.heap.size + 1 + 1, 0, none⟩ (.bool true)).drew := (HI2.out.b.setCell (p := ⟨w.heap.size + 1 + 1, 0, none⟩) (by show w.heap.size ≤ w.heap.size + 1 + 1; omega) _).drew
            have hP2 := hS.trans ((Touch.putObj (T := fun x => x = b2) _ b2 (.deferred none) rfl).below hS.size fun x hx => by omega)
            exact hP2.trans ((Touch.putObj (T := fun x => x = b1) _ b1 (.deferred none) rfl).below hP2.size fun x hx => by omega)
      · rintro cd W2 ⟨rfl, j2, hj2, hI⟩ hK2
        have HJ : Hid (j2 = n ∨ (j2 : Int) = st) := Lib.hid (.inr hj2)
        clear hj2
        obtain ⟨b2, hb2⟩ : ∃ b2, b2 = W1.heap.size + 1 := ⟨_, rfl⟩
        rw [hs1, ← hb2] at hK2
        rw [hs1, ← hb2]
        have HB12 : Hid (b1 < b2) := Lib.hid (by have := HX2.out; omega)
        have hc1 := hI.want.cell
        have hc2 := hI.cnt.cell
        have hc3 := hI.stp.cell
        have hac := hI.ans.cell
        have haf := hI.ans.frozen
        have HI2 := Lib.hid hI
        have HK2 := Lib.hid hK2
        have HK1' := Lib.hid (hI.dfr b1 rfl)
        have CL : Hid (Calls Try.prog 22 #[.pointer (some ⟨g, 0, none⟩)] W2.drew fun e w' => e = .returned (.int .i64 (n : Int)) ∧ W2.drew = w') := Lib.hid (by
          rw [HN.out]
          exact len_any W2.drew g S ((HL.out.to ⟨HI2.out.b.size, fun k hk hl => HI2.out.b.block k hl⟩).below (Below.refl _ _).drew))
        clear hI hK2 hs1 hb2 hgi
        by_cases hjn : j2 = n
        · have e0 : (j2 : Int) = (n : Int) := by rw [hjn]
          have e1 : ((j2 : Int) != (n : Int)) = false := by simp [e0]
          clear e0 hjn
          gi_wp2_with fail
          rw [roundsIn_succ]
          gi_wp2_with fail
          refine wpIn_noPanic ?_
          gi_region_with (first
            | (gi_at_call 22; refine (callsIn_wide.2 CL.out).mono ?_; rintro e w5 ⟨rfl, rfl⟩))
          all_goals
            refine NoPanic.normal ?_
            gi_wp2_with fail
            have hw1 : ∀ x, x ≠ w.heap.size + 2 → (W2.setCell ⟨w.heap.size + 1 + 1, 0, none⟩ (.bool true)).drew.heap[x]? = W2.heap[x]? := fun x hx => Below.heap_setCell _ _ _ x hx
            have hnb : ∀ {x}, W2.heap[x]? = some (.deferred (some [])) → x ≠ w.heap.size + 2 := fun {x} hx e => by rw [e, HI2.out.ans] at hx; cases hx
            have hd2 := (hw1 b2 (hnb HK2.out)).trans HK2.out
            have hd1 := (hw1 b1 (hnb HK1'.out)).trans HK1'.out
            refine ⟨by simp, .inl ⟨_, _, rfl, run_takeDeferred hd2, ?_⟩⟩
            have hd1' := (World.putObj_heap_other (w := (W2.setCell ⟨w.heap.size + 1 + 1, 0, none⟩ (.bool true)).drew) (r := b2) (o := .deferred none) (show b1 ≠ b2 by have := HB12.out; omega)).trans hd1
            refine ⟨by simp, .inl ⟨_, _, rfl, run_takeDeferred hd1', ?_⟩⟩
            have hne1 : w.heap.size + 2 ≠ b1 := fun e => hnb HK1'.out e.symm
            have hne2 : w.heap.size + 2 ≠ b2 := fun e => hnb HK2.out e.symm
            have hbx : Box (((W2.setCell ⟨w.heap.size + 1 + 1, 0, none⟩ (.bool true)).drew.putObj b2 (.deferred none)).putObj b1 (.deferred none)) (w.heap.size + 1 + 1) (.bool true) 4 :=
              ((HI2.out.ans.set (.bool true)).same (World.putObj_heap_other (w := (W2.setCell ⟨w.heap.size + 1 + 1, 0, none⟩ (.bool true)).drew) hne2)).same (World.putObj_heap_other hne1)
            have hc := hbx.cell
            have hge := HX2.out
            have hlt := HB12.out
            refine ⟨.bool true, by simp [results, Try.results19, go_sem, hc], rfl, ?_⟩
            have hS : Below w.heap.size w (W2.setCell ⟨w.heap.size + 1 + 1, 0, none⟩ (.bool true)).drew := (HI2.out.b.setCell (p := ⟨w.heap.size + 1 + 1, 0, none⟩) (by show w.heap.size ≤ w.heap.size + 1 + 1; omega) _).drew
            have hP2 := hS.trans ((Touch.putObj (T := fun x => x = b2) _ b2 (.deferred none) rfl).below hS.size fun x hx => by omega)
            exact hP2.trans ((Touch.putObj (T := fun x => x = b1) _ b1 (.deferred none) rfl).below hP2.size fun x hx => by omega)
        · have hst : (j2 : Int) = st := HJ.out.resolve_left hjn
          have e1 : ((j2 : Int) != (n : Int)) = true := by simp; omega
          have e2 : ((j2 : Int) != st) = false := by simp [hst]
          clear hst hjn
          gi_wp2_with fail
          rw [roundsIn_succ]
          gi_wp2_with fail
          refine wpIn_noPanic ?_
          gi_region_with (first
            | (gi_at_call 22; refine (callsIn_wide.2 CL.out).mono ?_; rintro e w5 ⟨rfl, rfl⟩))
          all_goals
            refine NoPanic.normal ?_
            gi_wp2_with fail
            have hw1 : ∀ x, x ≠ w.heap.size + 2 → (W2.setCell ⟨w.heap.size + 1 + 1, 0, none⟩ (.bool true)).drew.heap[x]? = W2.heap[x]? := fun x hx => Below.heap_setCell _ _ _ x hx
            have hnb : ∀ {x}, W2.heap[x]? = some (.deferred (some [])) → x ≠ w.heap.size + 2 := fun {x} hx e => by rw [e, HI2.out.ans] at hx; cases hx
            have hd2 := (hw1 b2 (hnb HK2.out)).trans HK2.out
            have hd1 := (hw1 b1 (hnb HK1'.out)).trans HK1'.out
            refine ⟨by simp, .inl ⟨_, _, rfl, run_takeDeferred hd2, ?_⟩⟩
            have hd1' := (World.putObj_heap_other (w := (W2.setCell ⟨w.heap.size + 1 + 1, 0, none⟩ (.bool true)).drew) (r := b2) (o := .deferred none) (show b1 ≠ b2 by have := HB12.out; omega)).trans hd1
            refine ⟨by simp, .inl ⟨_, _, rfl, run_takeDeferred hd1', ?_⟩⟩
            have hne1 : w.heap.size + 2 ≠ b1 := fun e => hnb HK1'.out e.symm
            have hne2 : w.heap.size + 2 ≠ b2 := fun e => hnb HK2.out e.symm
            have hbx : Box (((W2.setCell ⟨w.heap.size + 1 + 1, 0, none⟩ (.bool true)).drew.putObj b2 (.deferred none)).putObj b1 (.deferred none)) (w.heap.size + 1 + 1) (.bool true) 4 :=
              ((HI2.out.ans.set (.bool true)).same (World.putObj_heap_other (w := (W2.setCell ⟨w.heap.size + 1 + 1, 0, none⟩ (.bool true)).drew) hne2)).same (World.putObj_heap_other hne1)
            have hc := hbx.cell
            have hge := HX2.out
            have hlt := HB12.out
            refine ⟨.bool true, by simp [results, Try.results19, go_sem, hc], rfl, ?_⟩
            have hS : Below w.heap.size w (W2.setCell ⟨w.heap.size + 1 + 1, 0, none⟩ (.bool true)).drew := (HI2.out.b.setCell (p := ⟨w.heap.size + 1 + 1, 0, none⟩) (by show w.heap.size ≤ w.heap.size + 1 + 1; omega) _).drew
            have hP2 := hS.trans ((Touch.putObj (T := fun x => x = b2) _ b2 (.deferred none) rfl).below hS.size fun x hx => by omega)
            exact hP2.trans ((Touch.putObj (T := fun x => x = b1) _ b1 (.deferred none) rfl).below hP2.size fun x hx => by omega)
    · have hst : (j1 : Int) = st := HJ.out.resolve_left hjn
      have e1 : ((j1 : Int) != (n : Int)) = true := by simp; omega
      have e2 : ((j1 : Int) != st) = false := by simp [hst]
      clear hst hjn
      gi_wp2_with fail
      rw [roundsIn_succ]
      gi_wp2_with fail
      have hgi : TI (fun j => K j ∨ j = w.heap.size + 3) (fun x => x = b1) w W W1.heap.size (.slice A n c) st 0 (W1.alloc (.cells #[.int .i64 0] 3)) := ⟨HI1.out.want.same (Below.heap_alloc _ _ _ (by have := HX2.out; omega)), HI1.out.stp.same (Below.heap_alloc _ _ _ (by have := HX2.out; omega)), HI1.out.ans.same (Below.heap_alloc _ _ _ (by have := HX2.out; omega)), World.alloc_heap_new W1 _, HI1.out.b.alloc (by have := HX2.out; omega) _, HI1.out.sm.trans ⟨by simp, fun j hj => Below.heap_alloc _ _ _ (HT2.out j hj)⟩, fun x hx => by rw [hx]; exact (Below.heap_alloc _ _ _ HX2.out.2).trans HK1.out⟩
      have hs1 : (W1.alloc (.cells #[.int .i64 0] 3)).heap.size = W1.heap.size + 1 := by simp
      refine range_law2s 9 10 (R := fun k x y b Wz => (W1.alloc (.cells #[.int .i64 0] 3)).heap.size + 2 ≤ b → AllR S.es k x y b Wz) rfl (enters_of Try.func34 (by kernel_rfl) rfl)
        ((all_iter (W1.alloc (.cells #[.int .i64 0] 3)) (w.heap.size + 3) S.es (G.out.to ⟨hgi.sm.size, fun j hj _ => hgi.sm.block j hj⟩) (fun j hj => Nat.lt_of_lt_of_le (HT2.out j (.inl hj)) (by simp))).weak fun k x y b Wz h _ => h) ?_ (fun j hj => Nat.lt_of_lt_of_le (HT2.out j hj) (by simp))
        (fun k Wz => TI (fun j => K j ∨ j = w.heap.size + 3) (fun x => x = b1) w W W1.heap.size (.slice A n c) st k Wz) (fun cd Wz => cd = .exit 2 ∧ ∃ k : Nat, (k : Int) = st ∧ TI (fun j => K j ∨ j = w.heap.size + 3) (fun x => x = b1) w W W1.heap.size (.slice A n c) st k Wz) ?_ ?_ hgi ?_ ?_ ?_ ?_
      · rintro k x y b Wa Wb hr hz hk hb
        obtain ⟨r1, r2, l, A2, c2, r3, r4, r5, r6⟩ := hr hb
        exact ⟨r1, Nat.le_trans r2 hz, l, A2, c2, r3, r4, r5, own_same r6 fun k hk2 => hk k (Nat.le_trans hb (own_lt r6 k hk2).1)⟩
      · intro k Wa Wb h1 ht
        exact h1.touch ht (fun j hj h => by rw [hs1] at h; omega) (by have := HX2.out; omega) HT2.out (fun x hx => by rw [hx]; exact HX2.out.2)
      · rintro cd Wa Wb ⟨h0, k, h1, h2⟩ ht
        exact ⟨h0, k, h1, h2.touch ht (fun j hj h => by rw [hs1] at h; omega) (by have := HX2.out; omega) HT2.out (fun x hx => by rw [hx]; exact HX2.out.2)⟩
      · intro l x y Wa K1 hK1
        gi_wp2_with fail
        exact hK1
      · intro l k x y b Wr hk hx hbb hI hlt
        obtain ⟨rfl, hbz, lk, A2, c2, hlk, rfl, hlk2, hrow⟩ := hx hbb
        obtain ⟨wb, woff, A3, c3, hA, hwb, hwc, hwe, _⟩ := (HW.out.below hI.b).at hlk
        have CS := equal_any Wr lk lk _ _ hrow.holds hwe (by omega)
        rw [decide_eq_true rfl] at CS
        have CS := Lib.hid CS
        subst hA
        have hc1 := hI.want.cell
        have hc2 := hI.cnt.cell
        have hf2 := hI.cnt.frozen
        have hc3 := hI.stp.cell
        have hkn : k < n := by rw [HN.out]; exact hk
        have j1 : ((k : Int) ≥ (n : Int)) = False := eq_false (by omega)
        have j2 : ((n : Int) ≤ (k : Int)) = False := eq_false (by omega)
        have j3 : (n ≤ k) = False := eq_false (by omega)
        have j4 : ((0 : Int) ≤ (k : Int)) = True := eq_true (by omega)
        have j5 : ((k : Int) < (n : Int)) = True := eq_true (by omega)
        have j6 : (k < n) = True := eq_true hkn
        have hk64 : wrap64 ((k : Int) + 1) = ((k + 1 : Nat) : Int) := by have := HNL.out; unfold wrap64; omega
        have hk64' : IntKind.i64.wrap ((k : Int) + 1) = ((k + 1 : Nat) : Int) := by have := HNL.out; rw [IntWalk.i64_in _ (by omega)]; omega
        have HI := Lib.hid hI
        have HBZ := Lib.hid hbz
        have HBB := Lib.hid hbb
        have HLT := Lib.hid hlt
        have h1l : 1 ≤ 8 - 1 - 1 := by decide
        clear hx hlk hrow hwe hI hk hbz hlt hbb hlk2 hkn
        generalize lk.length = nl at *
        generalize hk1 : k + 1 = k1 at *
        have HK1e := Lib.hid hk1
        clear hk1
        by_cases hst : (k1 : Int) = st
        · have q1 : ((k1 : Int) == st) = true := by simpa using hst
          have q2 : ((k1 : Int) = st) = True := eq_true hst
          have HST := Lib.hid hst
          clear hst
          gi_wp2_with (first | (gi_at_call 18; refine (CallsIn.inRound l (callsIn_wide.2 CS.out)).mono ?_; rintro e Ws ⟨rfl, hb2⟩; have B2 := Lib.hid hb2; have hc1' := (hb2.cell (p := ⟨w.heap.size, 0, none⟩) HI.out.want.lt).trans hc1; have hc3' := (hb2.cell (p := ⟨w.heap.size + 1, 0, none⟩) HI.out.stp.lt).trans hc3; have hc2' := (hb2.cell (p := ⟨W1.heap.size, 0, none⟩) HI.out.cnt.lt).trans hc2; have hf2' : Ws.frozen? ⟨W1.heap.size, 0, none⟩ = false := Box.frozen (HI.out.cnt.same (hb2.block _ HI.out.cnt.lt)); have hcn : (Ws.setCell ⟨W1.heap.size, 0, none⟩ (.int .i64 (k1 : Int))).cell? ⟨W1.heap.size, 0, none⟩ = some (.int .i64 (k1 : Int)) := Box.cell (Box.set (HI.out.cnt.same (hb2.block _ HI.out.cnt.lt)) _); have hcs : (Ws.setCell ⟨W1.heap.size, 0, none⟩ (.int .i64 (k1 : Int))).cell? ⟨w.heap.size + 1, 0, none⟩ = some (.int .i64 st) := Box.cell (Box.other (HI.out.stp.same (hb2.block _ HI.out.stp.lt)) (by have := HX2.out; omega)); clear hb2))
          have hB3 := HI.out.touch (U := fun _ => False) (Touch.of_below B2.out) (fun _ _ h => h) (by have := HX2.out; omega) HT2.out (fun x hx => by rw [hx]; exact HX2.out.2)
          have hB4 := hB3.next (by have := HX2.out; omega) HT2.out (fun x hx => by rw [hx]; exact HX2.out.2)
          rw [HK1e.out] at hB4
          refine ⟨⟨?_, ?_⟩, rfl, k1, HST.out, hB4⟩
          · have := B2.out.size
            simpa [World.setCell] using this
          · intro j hj
            have hlt := HLT.out
            rw [hs1] at hlt hj
            exact (Below.heap_setCell Ws ⟨W1.heap.size, 0, none⟩ _ j (by show j ≠ W1.heap.size; omega)).trans (B2.out.block j (by omega))
        · have q1 : ((k1 : Int) == st) = false := by simpa using hst
          have q2 : ((k1 : Int) = st) = False := eq_false hst
          clear hst
          gi_wp2_with (first | (gi_at_call 18; refine (CallsIn.inRound l (callsIn_wide.2 CS.out)).mono ?_; rintro e Ws ⟨rfl, hb2⟩; have B2 := Lib.hid hb2; have hc1' := (hb2.cell (p := ⟨w.heap.size, 0, none⟩) HI.out.want.lt).trans hc1; have hc3' := (hb2.cell (p := ⟨w.heap.size + 1, 0, none⟩) HI.out.stp.lt).trans hc3; have hc2' := (hb2.cell (p := ⟨W1.heap.size, 0, none⟩) HI.out.cnt.lt).trans hc2; have hf2' : Ws.frozen? ⟨W1.heap.size, 0, none⟩ = false := Box.frozen (HI.out.cnt.same (hb2.block _ HI.out.cnt.lt)); have hcn : (Ws.setCell ⟨W1.heap.size, 0, none⟩ (.int .i64 (k1 : Int))).cell? ⟨W1.heap.size, 0, none⟩ = some (.int .i64 (k1 : Int)) := Box.cell (Box.set (HI.out.cnt.same (hb2.block _ HI.out.cnt.lt)) _); have hcs : (Ws.setCell ⟨W1.heap.size, 0, none⟩ (.int .i64 (k1 : Int))).cell? ⟨w.heap.size + 1, 0, none⟩ = some (.int .i64 st) := Box.cell (Box.other (HI.out.stp.same (hb2.block _ HI.out.stp.lt)) (by have := HX2.out; omega)); clear hb2))
          have hB3 := HI.out.touch (U := fun _ => False) (Touch.of_below B2.out) (fun _ _ h => h) (by have := HX2.out; omega) HT2.out (fun x hx => by rw [hx]; exact HX2.out.2)
          have hB4 := hB3.next (by have := HX2.out; omega) HT2.out (fun x hx => by rw [hx]; exact HX2.out.2)
          rw [HK1e.out] at hB4
          refine ⟨⟨?_, ?_⟩, by rw [HK1e.out]; exact hB4⟩
          · have := B2.out.size
            simpa [World.setCell] using this
          · intro j hj
            have hlt := HLT.out
            have hbz := HBZ.out
            have hbb := HBB.out
            rw [hs1] at hlt hj hbb
            have hjn : j ≠ W1.heap.size ∧ j < Wr.heap.size := by
              rcases hj with hj | hj | hj | hj
              · have h1 : j < W1.heap.size := HT2.out j hj
                omega
              · omega
              · omega
              · omega
            exact (Below.heap_setCell Ws ⟨W1.heap.size, 0, none⟩ _ j hjn.1).trans (B2.out.block j hjn.2)
      · intro W2 hI hK2
        rw [← HN.out] at hI
        obtain ⟨j2, hj2, hI⟩ : ∃ j2 : Nat, j2 = n ∧ TI (fun j => K j ∨ j = w.heap.size + 3) (fun x => x = b1) w W W1.heap.size (.slice A n c) st j2 W2 := ⟨n, rfl, hI⟩
        have HJ : Hid (j2 = n ∨ (j2 : Int) = st) := Lib.hid (.inl hj2)
        clear hj2
        obtain ⟨b2, hb2⟩ : ∃ b2, b2 = W1.heap.size + 1 := ⟨_, rfl⟩
        rw [hs1, ← hb2] at hK2
        rw [hs1, ← hb2]
        have HB12 : Hid (b1 < b2) := Lib.hid (by have := HX2.out; omega)
        have hc1 := hI.want.cell
        have hc2 := hI.cnt.cell
        have hc3 := hI.stp.cell
        have hac := hI.ans.cell
        have haf := hI.ans.frozen
        have HI2 := Lib.hid hI
        have HK2 := Lib.hid hK2
        have HK1' := Lib.hid (hI.dfr b1 rfl)
        have CL : Hid (Calls Try.prog 22 #[.pointer (some ⟨g, 0, none⟩)] W2.drew fun e w' => e = .returned (.int .i64 (n : Int)) ∧ W2.drew = w') := Lib.hid (by
          rw [HN.out]
          exact len_any W2.drew g S ((HL.out.to ⟨HI2.out.b.size, fun k hk hl => HI2.out.b.block k hl⟩).below (Below.refl _ _).drew))
        clear hI hK2 hs1 hb2 hgi
        by_cases hjn : j2 = n
        · have e0 : (j2 : Int) = (n : Int) := by rw [hjn]
          have e1 : ((j2 : Int) != (n : Int)) = false := by simp [e0]
          clear e0 hjn
          gi_wp2_with fail
          rw [roundsIn_succ]
          gi_wp2_with fail
          refine wpIn_noPanic ?_
          gi_region_with (first
            | (gi_at_call 22; refine (callsIn_wide.2 CL.out).mono ?_; rintro e w5 ⟨rfl, rfl⟩))
          all_goals
            refine NoPanic.normal ?_
            gi_wp2_with fail
            have hw1 : ∀ x, x ≠ w.heap.size + 2 → (W2.setCell ⟨w.heap.size + 1 + 1, 0, none⟩ (.bool true)).drew.heap[x]? = W2.heap[x]? := fun x hx => Below.heap_setCell _ _ _ x hx
            have hnb : ∀ {x}, W2.heap[x]? = some (.deferred (some [])) → x ≠ w.heap.size + 2 := fun {x} hx e => by rw [e, HI2.out.ans] at hx; cases hx
            have hd2 := (hw1 b2 (hnb HK2.out)).trans HK2.out
            have hd1 := (hw1 b1 (hnb HK1'.out)).trans HK1'.out
            refine ⟨by simp, .inl ⟨_, _, rfl, run_takeDeferred hd2, ?_⟩⟩
            have hd1' := (World.putObj_heap_other (w := (W2.setCell ⟨w.heap.size + 1 + 1, 0, none⟩ (.bool true)).drew) (r := b2) (o := .deferred none) (show b1 ≠ b2 by have := HB12.out; omega)).trans hd1
            refine ⟨by simp, .inl ⟨_, _, rfl, run_takeDeferred hd1', ?_⟩⟩
            have hne1 : w.heap.size + 2 ≠ b1 := fun e => hnb HK1'.out e.symm
            have hne2 : w.heap.size + 2 ≠ b2 := fun e => hnb HK2.out e.symm
            have hbx : Box (((W2.setCell ⟨w.heap.size + 1 + 1, 0, none⟩ (.bool true)).drew.putObj b2 (.deferred none)).putObj b1 (.deferred none)) (w.heap.size + 1 + 1) (.bool true) 4 :=
              ((HI2.out.ans.set (.bool true)).same (World.putObj_heap_other (w := (W2.setCell ⟨w.heap.size + 1 + 1, 0, none⟩ (.bool true)).drew) hne2)).same (World.putObj_heap_other hne1)
            have hc := hbx.cell
            have hge := HX2.out
            have hlt := HB12.out
            refine ⟨.bool true, by simp [results, Try.results19, go_sem, hc], rfl, ?_⟩
            have hS : Below w.heap.size w (W2.setCell ⟨w.heap.size + 1 + 1, 0, none⟩ (.bool true)).drew := (HI2.out.b.setCell (p := ⟨w.heap.size + 1 + 1, 0, none⟩) (by show w.heap.size ≤ w.heap.size + 1 + 1; omega) _).drew
            have hP2 := hS.trans ((Touch.putObj (T := fun x => x = b2) _ b2 (.deferred none) rfl).below hS.size fun x hx => by omega)
            exact hP2.trans ((Touch.putObj (T := fun x => x = b1) _ b1 (.deferred none) rfl).below hP2.size fun x hx => by omega)
        · have hst : (j2 : Int) = st := HJ.out.resolve_left hjn
          have e1 : ((j2 : Int) != (n : Int)) = true := by simp; omega
          have e2 : ((j2 : Int) != st) = false := by simp [hst]
          clear hst hjn
          gi_wp2_with fail
          rw [roundsIn_succ]
          gi_wp2_with fail
          refine wpIn_noPanic ?_
          gi_region_with (first
            | (gi_at_call 22; refine (callsIn_wide.2 CL.out).mono ?_; rintro e w5 ⟨rfl, rfl⟩))
          all_goals
            refine NoPanic.normal ?_
            gi_wp2_with fail
            have hw1 : ∀ x, x ≠ w.heap.size + 2 → (W2.setCell ⟨w.heap.size + 1 + 1, 0, none⟩ (.bool true)).drew.heap[x]? = W2.heap[x]? := fun x hx => Below.heap_setCell _ _ _ x hx
            have hnb : ∀ {x}, W2.heap[x]? = some (.deferred (some [])) → x ≠ w.heap.size + 2 := fun {x} hx e => by rw [e, HI2.out.ans] at hx; cases hx
            have hd2 := (hw1 b2 (hnb HK2.out)).trans HK2.out
            have hd1 := (hw1 b1 (hnb HK1'.out)).trans HK1'.out
            refine ⟨by simp, .inl ⟨_, _, rfl, run_takeDeferred hd2, ?_⟩⟩
            have hd1' := (World.putObj_heap_other (w := (W2.setCell ⟨w.heap.size + 1 + 1, 0, none⟩ (.bool true)).drew) (r := b2) (o := .deferred none) (show b1 ≠ b2 by have := HB12.out; omega)).trans hd1
            refine ⟨by simp, .inl ⟨_, _, rfl, run_takeDeferred hd1', ?_⟩⟩
            have hne1 : w.heap.size + 2 ≠ b1 := fun e => hnb HK1'.out e.symm
            have hne2 : w.heap.size + 2 ≠ b2 := fun e => hnb HK2.out e.symm
            have hbx : Box (((W2.setCell ⟨w.heap.size + 1 + 1, 0, none⟩ (.bool true)).drew.putObj b2 (.deferred none)).putObj b1 (.deferred none)) (w.heap.size + 1 + 1) (.bool true) 4 :=
              ((HI2.out.ans.set (.bool true)).same (World.putObj_heap_other (w := (W2.setCell ⟨w.heap.size + 1 + 1, 0, none⟩ (.bool true)).drew) hne2)).same (World.putObj_heap_other hne1)
            have hc := hbx.cell
            have hge := HX2.out
            have hlt := HB12.out
            refine ⟨.bool true, by simp [results, Try.results19, go_sem, hc], rfl, ?_⟩
            have hS : Below w.heap.size w (W2.setCell ⟨w.heap.size + 1 + 1, 0, none⟩ (.bool true)).drew := (HI2.out.b.setCell (p := ⟨w.heap.size + 1 + 1, 0, none⟩) (by show w.heap.size ≤ w.heap.size + 1 + 1; omega) _).drew
            have hP2 := hS.trans ((Touch.putObj (T := fun x => x = b2) _ b2 (.deferred none) rfl).below hS.size fun x hx => by omega)
            exact hP2.trans ((Touch.putObj (T := fun x => x = b1) _ b1 (.deferred none) rfl).below hP2.size fun x hx => by omega)
      · rintro cd W2 ⟨rfl, j2, hj2, hI⟩ hK2
        have HJ : Hid (j2 = n ∨ (j2 : Int) = st) := Lib.hid (.inr hj2)
        clear hj2
        obtain ⟨b2, hb2⟩ : ∃ b2, b2 = W1.heap.size + 1 := ⟨_, rfl⟩
        rw [hs1, ← hb2] at hK2
        rw [hs1, ← hb2]
        have HB12 : Hid (b1 < b2) := Lib.hid (by have := HX2.out; omega)
        have hc1 := hI.want.cell
        have hc2 := hI.cnt.cell
        have hc3 := hI.stp.cell
        have hac := hI.ans.cell
        have haf := hI.ans.frozen
        have HI2 := Lib.hid hI
        have HK2 := Lib.hid hK2
        have HK1' := Lib.hid (hI.dfr b1 rfl)
        have CL : Hid (Calls Try.prog 22 #[.pointer (some ⟨g, 0, none⟩)] W2.drew fun e w' => e = .returned (.int .i64 (n : Int)) ∧ W2.drew = w') := Lib.hid (by
          rw [HN.out]
          exact len_any W2.drew g S ((HL.out.to ⟨HI2.out.b.size, fun k hk hl => HI2.out.b.block k hl⟩).below (Below.refl _ _).drew))
        clear hI hK2 hs1 hb2 hgi
        by_cases hjn : j2 = n
        · have e0 : (j2 : Int) = (n : Int) := by rw [hjn]
          have e1 : ((j2 : Int) != (n : Int)) = false := by simp [e0]
          clear e0 hjn
          gi_wp2_with fail
          rw [roundsIn_succ]
          gi_wp2_with fail
          refine wpIn_noPanic ?_
          gi_region_with (first
            | (gi_at_call 22; refine (callsIn_wide.2 CL.out).mono ?_; rintro e w5 ⟨rfl, rfl⟩))
          all_goals
            refine NoPanic.normal ?_
            gi_wp2_with fail
            have hw1 : ∀ x, x ≠ w.heap.size + 2 → (W2.setCell ⟨w.heap.size + 1 + 1, 0, none⟩ (.bool true)).drew.heap[x]? = W2.heap[x]? := fun x hx => Below.heap_setCell _ _ _ x hx
            have hnb : ∀ {x}, W2.heap[x]? = some (.deferred (some [])) → x ≠ w.heap.size + 2 := fun {x} hx e => by rw [e, HI2.out.ans] at hx; cases hx
            have hd2 := (hw1 b2 (hnb HK2.out)).trans HK2.out
            have hd1 := (hw1 b1 (hnb HK1'.out)).trans HK1'.out
            refine ⟨by simp, .inl ⟨_, _, rfl, run_takeDeferred hd2, ?_⟩⟩
            have hd1' := (World.putObj_heap_other (w := (W2.setCell ⟨w.heap.size + 1 + 1, 0, none⟩ (.bool true)).drew) (r := b2) (o := .deferred none) (show b1 ≠ b2 by have := HB12.out; omega)).trans hd1
            refine ⟨by simp, .inl ⟨_, _, rfl, run_takeDeferred hd1', ?_⟩⟩
            have hne1 : w.heap.size + 2 ≠ b1 := fun e => hnb HK1'.out e.symm
            have hne2 : w.heap.size + 2 ≠ b2 := fun e => hnb HK2.out e.symm
            have hbx : Box (((W2.setCell ⟨w.heap.size + 1 + 1, 0, none⟩ (.bool true)).drew.putObj b2 (.deferred none)).putObj b1 (.deferred none)) (w.heap.size + 1 + 1) (.bool true) 4 :=
              ((HI2.out.ans.set (.bool true)).same (World.putObj_heap_other (w := (W2.setCell ⟨w.heap.size + 1 + 1, 0, none⟩ (.bool true)).drew) hne2)).same (World.putObj_heap_other hne1)
            have hc := hbx.cell
            have hge := HX2.out
            have hlt := HB12.out
            refine ⟨.bool true, by simp [results, Try.results19, go_sem, hc], rfl, ?_⟩
            have hS : Below w.heap.size w (W2.setCell ⟨w.heap.size + 1 + 1, 0, none⟩ (.bool true)).drew := (HI2.out.b.setCell (p := ⟨w.heap.size + 1 + 1, 0, none⟩) (by show w.heap.size ≤ w.heap.size + 1 + 1; omega) _).drew
            have hP2 := hS.trans ((Touch.putObj (T := fun x => x = b2) _ b2 (.deferred none) rfl).below hS.size fun x hx => by omega)
            exact hP2.trans ((Touch.putObj (T := fun x => x = b1) _ b1 (.deferred none) rfl).below hP2.size fun x hx => by omega)
        · have hst : (j2 : Int) = st := HJ.out.resolve_left hjn
          have e1 : ((j2 : Int) != (n : Int)) = true := by simp; omega
          have e2 : ((j2 : Int) != st) = false := by simp [hst]
          clear hst hjn
          gi_wp2_with fail
          rw [roundsIn_succ]
          gi_wp2_with fail
          refine wpIn_noPanic ?_
          gi_region_with (first
            | (gi_at_call 22; refine (callsIn_wide.2 CL.out).mono ?_; rintro e w5 ⟨rfl, rfl⟩))
          all_goals
            refine NoPanic.normal ?_
            gi_wp2_with fail
            have hw1 : ∀ x, x ≠ w.heap.size + 2 → (W2.setCell ⟨w.heap.size + 1 + 1, 0, none⟩ (.bool true)).drew.heap[x]? = W2.heap[x]? := fun x hx => Below.heap_setCell _ _ _ x hx
            have hnb : ∀ {x}, W2.heap[x]? = some (.deferred (some [])) → x ≠ w.heap.size + 2 := fun {x} hx e => by rw [e, HI2.out.ans] at hx; cases hx
            have hd2 := (hw1 b2 (hnb HK2.out)).trans HK2.out
            have hd1 := (hw1 b1 (hnb HK1'.out)).trans HK1'.out
            refine ⟨by simp, .inl ⟨_, _, rfl, run_takeDeferred hd2, ?_⟩⟩
            have hd1' := (World.putObj_heap_other (w := (W2.setCell ⟨w.heap.size + 1 + 1, 0, none⟩ (.bool true)).drew) (r := b2) (o := .deferred none) (show b1 ≠ b2 by have := HB12.out; omega)).trans hd1
            refine ⟨by simp, .inl ⟨_, _, rfl, run_takeDeferred hd1', ?_⟩⟩
            have hne1 : w.heap.size + 2 ≠ b1 := fun e => hnb HK1'.out e.symm
            have hne2 : w.heap.size + 2 ≠ b2 := fun e => hnb HK2.out e.symm
            have hbx : Box (((W2.setCell ⟨w.heap.size + 1 + 1, 0, none⟩ (.bool true)).drew.putObj b2 (.deferred none)).putObj b1 (.deferred none)) (w.heap.size + 1 + 1) (.bool true) 4 :=
              ((HI2.out.ans.set (.bool true)).same (World.putObj_heap_other (w := (W2.setCell ⟨w.heap.size + 1 + 1, 0, none⟩ (.bool true)).drew) hne2)).same (World.putObj_heap_other hne1)
            have hc := hbx.cell
            have hge := HX2.out
            have hlt := HB12.out
            refine ⟨.bool true, by simp [results, Try.results19, go_sem, hc], rfl, ?_⟩
            have hS : Below w.heap.size w (W2.setCell ⟨w.heap.size + 1 + 1, 0, none⟩ (.bool true)).drew := (HI2.out.b.setCell (p := ⟨w.heap.size + 1 + 1, 0, none⟩) (by show w.heap.size ≤ w.heap.size + 1 + 1; omega) _).drew
            have hP2 := hS.trans ((Touch.putObj (T := fun x => x = b2) _ b2 (.deferred none) rfl).below hS.size fun x hx => by omega)
            exact hP2.trans ((Touch.putObj (T := fun x => x = b1) _ b1 (.deferred none) rfl).below hP2.size fun x hx => by omega)
  · rintro cd W1 ⟨rfl, j1, hj1, hI⟩ hK1
    have HJ : Hid (j1 = n ∨ (j1 : Int) = st) := Lib.hid (.inr hj1)
    clear hj1
    obtain ⟨b1, hb1⟩ : ∃ b1, b1 = W.heap.size + 1 := ⟨_, rfl⟩
    rw [hs1, ← hb1] at hK1
    rw [hs1, ← hb1]
    have hlt1 : b1 < W1.heap.size := (Array.getElem?_eq_some_iff.1 hK1).1
    have HX2 : Hid (w.heap.size + 3 < b1 ∧ b1 < W1.heap.size) := Lib.hid ⟨by have := HX.out.2.2.2.1; omega, hlt1⟩
    have HT2 : Hid (∀ j, (K j ∨ j = w.heap.size + 3) → j < W1.heap.size) := Lib.hid fun j hj => Nat.lt_of_lt_of_le (HT.out j hj) hI.sm.size
    have hc1 := hI.want.cell
    have hc2 := hI.cnt.cell
    have hc3 := hI.stp.cell
    have HI1 := Lib.hid hI
    have HK1 := Lib.hid hK1
    clear hI hK1 hs1 hb1 hlt1 hgi
    by_cases hjn : j1 = n
    · have e0 : (j1 : Int) = (n : Int) := by rw [hjn]
      have e1 : ((j1 : Int) != (n : Int)) = false := by simp [e0]
      clear e0 hjn
      gi_wp2_with fail
      rw [roundsIn_succ]
      gi_wp2_with fail
      have hgi : TI (fun j => K j ∨ j = w.heap.size + 3) (fun x => x = b1) w W W1.heap.size (.slice A n c) st 0 (W1.alloc (.cells #[.int .i64 0] 3)) := ⟨HI1.out.want.same (Below.heap_alloc _ _ _ (by have := HX2.out; omega)), HI1.out.stp.same (Below.heap_alloc _ _ _ (by have := HX2.out; omega)), HI1.out.ans.same (Below.heap_alloc _ _ _ (by have := HX2.out; omega)), World.alloc_heap_new W1 _, HI1.out.b.alloc (by have := HX2.out; omega) _, HI1.out.sm.trans ⟨by simp, fun j hj => Below.heap_alloc _ _ _ (HT2.out j hj)⟩, fun x hx => by rw [hx]; exact (Below.heap_alloc _ _ _ HX2.out.2).trans HK1.out⟩
      have hs1 : (W1.alloc (.cells #[.int .i64 0] 3)).heap.size = W1.heap.size + 1 := by simp
      refine range_law2s 9 10 (R := fun k x y b Wz => (W1.alloc (.cells #[.int .i64 0] 3)).heap.size + 2 ≤ b → AllR S.es k x y b Wz) rfl (enters_of Try.func34 (by kernel_rfl) rfl)
        ((all_iter (W1.alloc (.cells #[.int .i64 0] 3)) (w.heap.size + 3) S.es (G.out.to ⟨hgi.sm.size, fun j hj _ => hgi.sm.block j hj⟩) (fun j hj => Nat.lt_of_lt_of_le (HT2.out j (.inl hj)) (by simp))).weak fun k x y b Wz h _ => h) ?_ (fun j hj => Nat.lt_of_lt_of_le (HT2.out j hj) (by simp))
        (fun k Wz => TI (fun j => K j ∨ j = w.heap.size + 3) (fun x => x = b1) w W W1.heap.size (.slice A n c) st k Wz) (fun cd Wz => cd = .exit 2 ∧ ∃ k : Nat, (k : Int) = st ∧ TI (fun j => K j ∨ j = w.heap.size + 3) (fun x => x = b1) w W W1.heap.size (.slice A n c) st k Wz) ?_ ?_ hgi ?_ ?_ ?_ ?_
      · rintro k x y b Wa Wb hr hz hk hb
        obtain ⟨r1, r2, l, A2, c2, r3, r4, r5, r6⟩ := hr hb
        exact ⟨r1, Nat.le_trans r2 hz, l, A2, c2, r3, r4, r5, own_same r6 fun k hk2 => hk k (Nat.le_trans hb (own_lt r6 k hk2).1)⟩
      · intro k Wa Wb h1 ht
        exact h1.touch ht (fun j hj h => by rw [hs1] at h; omega) (by have := HX2.out; omega) HT2.out (fun x hx => by rw [hx]; exact HX2.out.2)
      · rintro cd Wa Wb ⟨h0, k, h1, h2⟩ ht
        exact ⟨h0, k, h1, h2.touch ht (fun j hj h => by rw [hs1] at h; omega) (by have := HX2.out; omega) HT2.out (fun x hx => by rw [hx]; exact HX2.out.2)⟩
      · intro l x y Wa K1 hK1
        gi_wp2_with fail
        exact hK1
      · intro l k x y b Wr hk hx hbb hI hlt
        obtain ⟨rfl, hbz, lk, A2, c2, hlk, rfl, hlk2, hrow⟩ := hx hbb
        obtain ⟨wb, woff, A3, c3, hA, hwb, hwc, hwe, _⟩ := (HW.out.below hI.b).at hlk
        have CS := equal_any Wr lk lk _ _ hrow.holds hwe (by omega)
        rw [decide_eq_true rfl] at CS
        have CS := Lib.hid CS
        subst hA
        have hc1 := hI.want.cell
        have hc2 := hI.cnt.cell
        have hf2 := hI.cnt.frozen
        have hc3 := hI.stp.cell
        have hkn : k < n := by rw [HN.out]; exact hk
        have j1 : ((k : Int) ≥ (n : Int)) = False := eq_false (by omega)
        have j2 : ((n : Int) ≤ (k : Int)) = False := eq_false (by omega)
        have j3 : (n ≤ k) = False := eq_false (by omega)
        have j4 : ((0 : Int) ≤ (k : Int)) = True := eq_true (by omega)
        have j5 : ((k : Int) < (n : Int)) = True := eq_true (by omega)
        have j6 : (k < n) = True := eq_true hkn
        have hk64 : wrap64 ((k : Int) + 1) = ((k + 1 : Nat) : Int) := by have := HNL.out; unfold wrap64; omega
        have hk64' : IntKind.i64.wrap ((k : Int) + 1) = ((k + 1 : Nat) : Int) := by have := HNL.out; rw [IntWalk.i64_in _ (by omega)]; omega
        have HI := Lib.hid hI
        have HBZ := Lib.hid hbz
        have HBB := Lib.hid hbb
        have HLT := Lib.hid hlt
        have h1l : 1 ≤ 8 - 1 - 1 := by decide
        clear hx hlk hrow hwe hI hk hbz hlt hbb hlk2 hkn
        generalize lk.length = nl at *
        generalize hk1 : k + 1 = k1 at *
        have HK1e := Lib.hid hk1
        clear hk1
        by_cases hst : (k1 : Int) = st
        · have q1 : ((k1 : Int) == st) = true := by simpa using hst
          have q2 : ((k1 : Int) = st) = True := eq_true hst
          have HST := Lib.hid hst
          clear hst
          gi_wp2_with (first | (gi_at_call 18; refine (CallsIn.inRound l (callsIn_wide.2 CS.out)).mono ?_; rintro e Ws ⟨rfl, hb2⟩; have B2 := Lib.hid hb2; have hc1' := (hb2.cell (p := ⟨w.heap.size, 0, none⟩) HI.out.want.lt).trans hc1; have hc3' := (hb2.cell (p := ⟨w.heap.size + 1, 0, none⟩) HI.out.stp.lt).trans hc3; have hc2' := (hb2.cell (p := ⟨W1.heap.size, 0, none⟩) HI.out.cnt.lt).trans hc2; have hf2' : Ws.frozen? ⟨W1.heap.size, 0, none⟩ = false := Box.frozen (HI.out.cnt.same (hb2.block _ HI.out.cnt.lt)); have hcn : (Ws.setCell ⟨W1.heap.size, 0, none⟩ (.int .i64 (k1 : Int))).cell? ⟨W1.heap.size, 0, none⟩ = some (.int .i64 (k1 : Int)) := Box.cell (Box.set (HI.out.cnt.same (hb2.block _ HI.out.cnt.lt)) _); have hcs : (Ws.setCell ⟨W1.heap.size, 0, none⟩ (.int .i64 (k1 : Int))).cell? ⟨w.heap.size + 1, 0, none⟩ = some (.int .i64 st) := Box.cell (Box.other (HI.out.stp.same (hb2.block _ HI.out.stp.lt)) (by have := HX2.out; omega)); clear hb2))
          have hB3 := HI.out.touch (U := fun _ => False) (Touch.of_below B2.out) (fun _ _ h => h) (by have := HX2.out; omega) HT2.out (fun x hx => by rw [hx]; exact HX2.out.2)
          have hB4 := hB3.next (by have := HX2.out; omega) HT2.out (fun x hx => by rw [hx]; exact HX2.out.2)
          rw [HK1e.out] at hB4
          refine ⟨⟨?_, ?_⟩, rfl, k1, HST.out, hB4⟩
          · have := B2.out.size
            simpa [World.setCell] using this
          · intro j hj
            have hlt := HLT.out
            rw [hs1] at hlt hj
            exact (Below.heap_setCell Ws ⟨W1.heap.size, 0, none⟩ _ j (by show j ≠ W1.heap.size; omega)).trans (B2.out.block j (by omega))
        · have q1 : ((k1 : Int) == st) = false := by simpa using hst
          have q2 : ((k1 : Int) = st) = False := eq_false hst
          clear hst
          gi_wp2_with (first | (gi_at_call 18; refine (CallsIn.inRound l (callsIn_wide.2 CS.out)).mono ?_; rintro e Ws ⟨rfl, hb2⟩; have B2 := Lib.hid hb2; have hc1' := (hb2.cell (p := ⟨w.heap.size, 0, none⟩) HI.out.want.lt).trans hc1; have hc3' := (hb2.cell (p := ⟨w.heap.size + 1, 0, none⟩) HI.out.stp.lt).trans hc3; have hc2' := (hb2.cell (p := ⟨W1.heap.size, 0, none⟩) HI.out.cnt.lt).trans hc2; have hf2' : Ws.frozen? ⟨W1.heap.size, 0, none⟩ = false := Box.frozen (HI.out.cnt.same (hb2.block _ HI.out.cnt.lt)); have hcn : (Ws.setCell ⟨W1.heap.size, 0, none⟩ (.int .i64 (k1 : Int))).cell? ⟨W1.heap.size, 0, none⟩ = some (.int .i64 (k1 : Int)) := Box.cell (Box.set (HI.out.cnt.same (hb2.block _ HI.out.cnt.lt)) _); have hcs : (Ws.setCell ⟨W1.heap.size, 0, none⟩ (.int .i64 (k1 : Int))).cell? ⟨w.heap.size + 1, 0, none⟩ = some (.int .i64 st) := Box.cell (Box.other (HI.out.stp.same (hb2.block _ HI.out.stp.lt)) (by have := HX2.out; omega)); clear hb2))
          have hB3 := HI.out.touch (U := fun _ => False) (Touch.of_below B2.out) (fun _ _ h => h) (by have := HX2.out; omega) HT2.out (fun x hx => by rw [hx]; exact HX2.out.2)
          have hB4 := hB3.next (by have := HX2.out; omega) HT2.out (fun x hx => by rw [hx]; exact HX2.out.2)
          rw [HK1e.out] at hB4
          refine ⟨⟨?_, ?_⟩, by rw [HK1e.out]; exact hB4⟩
          · have := B2.out.size
            simpa [World.setCell] using this
          · intro j hj
            have hlt := HLT.out
            have hbz := HBZ.out
            have hbb := HBB.out
            rw [hs1] at hlt hj hbb
            have hjn : j ≠ W1.heap.size ∧ j < Wr.heap.size := by
              rcases hj with hj | hj | hj | hj
              · have h1 : j < W1.heap.size := HT2.out j hj
                omega
              · omega
              · omega
              · omega
            exact (Below.heap_setCell Ws ⟨W1.heap.size, 0, none⟩ _ j hjn.1).trans (B2.out.block j hjn.2)
      · intro W2 hI hK2
        rw [← HN.out] at hI
        obtain ⟨j2, hj2, hI⟩ : ∃ j2 : Nat, j2 = n ∧ TI (fun j => K j ∨ j = w.heap.size + 3) (fun x => x = b1) w W W1.heap.size (.slice A n c) st j2 W2 := ⟨n, rfl, hI⟩
        have HJ : Hid (j2 = n ∨ (j2 : Int) = st) := Lib.hid (.inl hj2)
        clear hj2
        obtain ⟨b2, hb2⟩ : ∃ b2, b2 = W1.heap.size + 1 := ⟨_, rfl⟩
        rw [hs1, ← hb2] at hK2
        rw [hs1, ← hb2]
        have HB12 : Hid (b1 < b2) := Lib.hid (by have := HX2.out; omega)
        have hc1 := hI.want.cell
        have hc2 := hI.cnt.cell
        have hc3 := hI.stp.cell
        have hac := hI.ans.cell
        have haf := hI.ans.frozen
        have HI2 := Lib.hid hI
        have HK2 := Lib.hid hK2
        have HK1' := Lib.hid (hI.dfr b1 rfl)
        have CL : Hid (Calls Try.prog 22 #[.pointer (some ⟨g, 0, none⟩)] W2.drew fun e w' => e = .returned (.int .i64 (n : Int)) ∧ W2.drew = w') := Lib.hid (by
          rw [HN.out]
          exact len_any W2.drew g S ((HL.out.to ⟨HI2.out.b.size, fun k hk hl => HI2.out.b.block k hl⟩).below (Below.refl _ _).drew))
        clear hI hK2 hs1 hb2 hgi
        by_cases hjn : j2 = n
        · have e0 : (j2 : Int) = (n : Int) := by rw [hjn]
          have e1 : ((j2 : Int) != (n : Int)) = false := by simp [e0]
          clear e0 hjn
          gi_wp2_with fail
          rw [roundsIn_succ]
          gi_wp2_with fail
          refine wpIn_noPanic ?_
          gi_region_with (first
            | (gi_at_call 22; refine (callsIn_wide.2 CL.out).mono ?_; rintro e w5 ⟨rfl, rfl⟩))
          all_goals
            refine NoPanic.normal ?_
            gi_wp2_with fail
            have hw1 : ∀ x, x ≠ w.heap.size + 2 → (W2.setCell ⟨w.heap.size + 1 + 1, 0, none⟩ (.bool true)).drew.heap[x]? = W2.heap[x]? := fun x hx => Below.heap_setCell _ _ _ x hx
            have hnb : ∀ {x}, W2.heap[x]? = some (.deferred (some [])) → x ≠ w.heap.size + 2 := fun {x} hx e => by rw [e, HI2.out.ans] at hx; cases hx
            have hd2 := (hw1 b2 (hnb HK2.out)).trans HK2.out
            have hd1 := (hw1 b1 (hnb HK1'.out)).trans HK1'.out
            refine ⟨by simp, .inl ⟨_, _, rfl, run_takeDeferred hd2, ?_⟩⟩
            have hd1' := (World.putObj_heap_other (w := (W2.setCell ⟨w.heap.size + 1 + 1, 0, none⟩ (.bool true)).drew) (r := b2) (o := .deferred none) (show b1 ≠ b2 by have := HB12.out; omega)).trans hd1
            refine ⟨by simp, .inl ⟨_, _, rfl, run_takeDeferred hd1', ?_⟩⟩
            have hne1 : w.heap.size + 2 ≠ b1 := fun e => hnb HK1'.out e.symm
            have hne2 : w.heap.size + 2 ≠ b2 := fun e => hnb HK2.out e.symm
            have hbx : Box (((W2.setCell ⟨w.heap.size + 1 + 1, 0, none⟩ (.bool true)).drew.putObj b2 (.deferred none)).putObj b1 (.deferred none)) (w.heap.size + 1 + 1) (.bool true) 4 :=
              ((HI2.out.ans.set (.bool true)).same (World.putObj_heap_other (w := (W2.setCell ⟨w.heap.size + 1 + 1, 0, none⟩ (.bool true)).drew) hne2)).same (World.putObj_heap_other hne1)
            have hc := hbx.cell
            have hge := HX2.out
            have hlt := HB12.out
            refine ⟨.bool true, by simp [results, Try.results19, go_sem, hc], rfl, ?_⟩
            have hS : Below w.heap.size w (W2.setCell ⟨w.heap.size + 1 + 1, 0, none⟩ (.bool true)).drew := (HI2.out.b.setCell (p := ⟨w.heap.size + 1 + 1, 0, none⟩) (by show w.heap.size ≤ w.heap.size + 1 + 1; omega) _).drew
            have hP2 := hS.trans ((Touch.putObj (T := fun x => x = b2) _ b2 (.deferred none) rfl).below hS.size fun x hx => by omega)
            exact hP2.trans ((Touch.putObj (T := fun x => x = b1) _ b1 (.deferred none) rfl).below hP2.size fun x hx => by omega)
        · have hst : (j2 : Int) = st := HJ.out.resolve_left hjn
          have e1 : ((j2 : Int) != (n : Int)) = true := by simp; omega
          have e2 : ((j2 : Int) != st) = false := by simp [hst]
          clear hst hjn
          gi_wp2_with fail
          rw [roundsIn_succ]
          gi_wp2_with fail
          refine wpIn_noPanic ?_
          gi_region_with (first
            | (gi_at_call 22; refine (callsIn_wide.2 CL.out).mono ?_; rintro e w5 ⟨rfl, rfl⟩))
          all_goals
            refine NoPanic.normal ?_
            gi_wp2_with fail
            have hw1 : ∀ x, x ≠ w.heap.size + 2 → (W2.setCell ⟨w.heap.size + 1 + 1, 0, none⟩ (.bool true)).drew.heap[x]? = W2.heap[x]? := fun x hx => Below.heap_setCell _ _ _ x hx
            have hnb : ∀ {x}, W2.heap[x]? = some (.deferred (some [])) → x ≠ w.heap.size + 2 := fun {x} hx e => by rw [e, HI2.out.ans] at hx; cases hx
            have hd2 := (hw1 b2 (hnb HK2.out)).trans HK2.out
            have hd1 := (hw1 b1 (hnb HK1'.out)).trans HK1'.out
            refine ⟨by simp, .inl ⟨_, _, rfl, run_takeDeferred hd2, ?_⟩⟩
            have hd1' := (World.putObj_heap_other (w := (W2.setCell ⟨w.heap.size + 1 + 1, 0, none⟩ (.bool true)).drew) (r := b2) (o := .deferred none) (show b1 ≠ b2 by have := HB12.out; omega)).trans hd1
            refine ⟨by simp, .inl ⟨_, _, rfl, run_takeDeferred hd1', ?_⟩⟩
            have hne1 : w.heap.size + 2 ≠ b1 := fun e => hnb HK1'.out e.symm
            have hne2 : w.heap.size + 2 ≠ b2 := fun e => hnb HK2.out e.symm
            have hbx : Box (((W2.setCell ⟨w.heap.size + 1 + 1, 0, none⟩ (.bool true)).drew.putObj b2 (.deferred none)).putObj b1 (.deferred none)) (w.heap.size + 1 + 1) (.bool true) 4 :=
              ((HI2.out.ans.set (.bool true)).same (World.putObj_heap_other (w := (W2.setCell ⟨w.heap.size + 1 + 1, 0, none⟩ (.bool true)).drew) hne2)).same (World.putObj_heap_other hne1)
            have hc := hbx.cell
            have hge := HX2.out
            have hlt := HB12.out
            refine ⟨.bool true, by simp [results, Try.results19, go_sem, hc], rfl, ?_⟩
            have hS : Below w.heap.size w (W2.setCell ⟨w.heap.size + 1 + 1, 0, none⟩ (.bool true)).drew := (HI2.out.b.setCell (p := ⟨w.heap.size + 1 + 1, 0, none⟩) (by show w.heap.size ≤ w.heap.size + 1 + 1; omega) _).drew
            have hP2 := hS.trans ((Touch.putObj (T := fun x => x = b2) _ b2 (.deferred none) rfl).below hS.size fun x hx => by omega)
            exact hP2.trans ((Touch.putObj (T := fun x => x = b1) _ b1 (.deferred none) rfl).below hP2.size fun x hx => by omega)
      · rintro cd W2 ⟨rfl, j2, hj2, hI⟩ hK2
        have HJ : Hid (j2 = n ∨ (j2 : Int) = st) := Lib.hid (.inr hj2)
        clear hj2
        obtain ⟨b2, hb2⟩ : ∃ b2, b2 = W1.heap.size + 1 := ⟨_, rfl⟩
        rw [hs1, ← hb2] at hK2
        rw [hs1, ← hb2]
        have HB12 : Hid (b1 < b2) := Lib.hid (by have := HX2.out; omega)
        have hc1 := hI.want.cell
        have hc2 := hI.cnt.cell
        have hc3 := hI.stp.cell
        have hac := hI.ans.cell
        have haf := hI.ans.frozen
        have HI2 := Lib.hid hI
        have HK2 := Lib.hid hK2
        have HK1' := Lib.hid (hI.dfr b1 rfl)
        have CL : Hid (Calls Try.prog 22 #[.pointer (some ⟨g, 0, none⟩)] W2.drew fun e w' => e = .returned (.int .i64 (n : Int)) ∧ W2.drew = w') := Lib.hid (by
          rw [HN.out]
          exact len_any W2.drew g S ((HL.out.to ⟨HI2.out.b.size, fun k hk hl => HI2.out.b.block k hl⟩).below (Below.refl _ _).drew))
        clear hI hK2 hs1 hb2 hgi
        by_cases hjn : j2 = n
        · have e0 : (j2 : Int) = (n : Int) := by rw [hjn]
          have e1 : ((j2 : Int) != (n : Int)) = false := by simp [e0]
          clear e0 hjn
          gi_wp2_with fail
          rw [roundsIn_succ]
          gi_wp2_with fail
          refine wpIn_noPanic ?_
          gi_region_with (first
            | (gi_at_call 22; refine (callsIn_wide.2 CL.out).mono ?_; rintro e w5 ⟨rfl, rfl⟩))
          all_goals
            refine NoPanic.normal ?_
            gi_wp2_with fail
            have hw1 : ∀ x, x ≠ w.heap.size + 2 → (W2.setCell ⟨w.heap.size + 1 + 1, 0, none⟩ (.bool true)).drew.heap[x]? = W2.heap[x]? := fun x hx => Below.heap_setCell _ _ _ x hx
            have hnb : ∀ {x}, W2.heap[x]? = some (.deferred (some [])) → x ≠ w.heap.size + 2 := fun {x} hx e => by rw [e, HI2.out.ans] at hx; cases hx
            have hd2 := (hw1 b2 (hnb HK2.out)).trans HK2.out
            have hd1 := (hw1 b1 (hnb HK1'.out)).trans HK1'.out
            refine ⟨by simp, .inl ⟨_, _, rfl, run_takeDeferred hd2, ?_⟩⟩
            have hd1' := (World.putObj_heap_other (w := (W2.setCell ⟨w.heap.size + 1 + 1, 0, none⟩ (.bool true)).drew) (r := b2) (o := .deferred none) (show b1 ≠ b2 by have := HB12.out; omega)).trans hd1
            refine ⟨by simp, .inl ⟨_, _, rfl, run_takeDeferred hd1', ?_⟩⟩
            have hne1 : w.heap.size + 2 ≠ b1 := fun e => hnb HK1'.out e.symm
            have hne2 : w.heap.size + 2 ≠ b2 := fun e => hnb HK2.out e.symm
            have hbx : Box (((W2.setCell ⟨w.heap.size + 1 + 1, 0, none⟩ (.bool true)).drew.putObj b2 (.deferred none)).putObj b1 (.deferred none)) (w.heap.size + 1 + 1) (.bool true) 4 :=
              ((HI2.out.ans.set (.bool true)).same (World.putObj_heap_other (w := (W2.setCell ⟨w.heap.size + 1 + 1, 0, none⟩ (.bool true)).drew) hne2)).same (World.putObj_heap_other hne1)
            have hc := hbx.cell
            have hge := HX2.out
            have hlt := HB12.out
            refine ⟨.bool true, by simp [results, Try.results19, go_sem, hc], rfl, ?_⟩
            have hS : Below w.heap.size w (W2.setCell ⟨w.heap.size + 1 + 1, 0, none⟩ (.bool true)).drew := (HI2.out.b.setCell (p := ⟨w.heap.size + 1 + 1, 0, none⟩) (by show w.heap.size ≤ w.heap.size + 1 + 1; omega) _).drew
            have hP2 := hS.trans ((Touch.putObj (T := fun x => x = b2) _ b2 (.deferred none) rfl).below hS.size fun x hx => by omega)
            exact hP2.trans ((Touch.putObj (T := fun x => x = b1) _ b1 (.deferred none) rfl).below hP2.size fun x hx => by omega)
        · have hst : (j2 : Int) = st := HJ.out.resolve_left hjn
          have e1 : ((j2 : Int) != (n : Int)) = true := by simp; omega
          have e2 : ((j2 : Int) != st) = false := by simp [hst]
          clear hst hjn
          gi_wp2_with fail
          rw [roundsIn_succ]
          gi_wp2_with fail
          refine wpIn_noPanic ?_
          gi_region_with (first
            | (gi_at_call 22; refine (callsIn_wide.2 CL.out).mono ?_; rintro e w5 ⟨rfl, rfl⟩))
          all_goals
            refine NoPanic.normal ?_
            gi_wp2_with fail
            have hw1 : ∀ x, x ≠ w.heap.size + 2 → (W2.setCell ⟨w.heap.size + 1 + 1, 0, none⟩ (.bool true)).drew.heap[x]? = W2.heap[x]? := fun x hx => Below.heap_setCell _ _ _ x hx
            have hnb : ∀ {x}, W2.heap[x]? = some (.deferred (some [])) → x ≠ w.heap.size + 2 := fun {x} hx e => by rw [e, HI2.out.ans] at hx; cases hx
            have hd2 := (hw1 b2 (hnb HK2.out)).trans HK2.out
            have hd1 := (hw1 b1 (hnb HK1'.out)).trans HK1'.out
            refine ⟨by simp, .inl ⟨_, _, rfl, run_takeDeferred hd2, ?_⟩⟩
            have hd1' := (World.putObj_heap_other (w := (W2.setCell ⟨w.heap.size + 1 + 1, 0, none⟩ (.bool true)).drew) (r := b2) (o := .deferred none) (show b1 ≠ b2 by have := HB12.out; omega)).trans hd1
            refine ⟨by simp, .inl ⟨_, _, rfl, run_takeDeferred hd1', ?_⟩⟩
            have hne1 : w.heap.size + 2 ≠ b1 := fun e => hnb HK1'.out e.symm
            have hne2 : w.heap.size + 2 ≠ b2 := fun e => hnb HK2.out e.symm
            have hbx : Box (((W2.setCell ⟨w.heap.size + 1 + 1, 0, none⟩ (.bool true)).drew.putObj b2 (.deferred none)).putObj b1 (.deferred none)) (w.heap.size + 1 + 1) (.bool true) 4 :=
              ((HI2.out.ans.set (.bool true)).same (World.putObj_heap_other (w := (W2.setCell ⟨w.heap.size + 1 + 1, 0, none⟩ (.bool true)).drew) hne2)).same (World.putObj_heap_other hne1)
            have hc := hbx.cell
            have hge := HX2.out
            have hlt := HB12.out
            refine ⟨.bool true, by simp [results, Try.results19, go_sem, hc], rfl, ?_⟩
            have hS : Below w.heap.size w (W2.setCell ⟨w.heap.size + 1 + 1, 0, none⟩ (.bool true)).drew := (HI2.out.b.setCell (p := ⟨w.heap.size + 1 + 1, 0, none⟩) (by show w.heap.size ≤ w.heap.size + 1 + 1; omega) _).drew
            have hP2 := hS.trans ((Touch.putObj (T := fun x => x = b2) _ b2 (.deferred none) rfl).below hS.size fun x hx => by omega)
            exact hP2.trans ((Touch.putObj (T := fun x => x = b1) _ b1 (.deferred none) rfl).below hP2.size fun x hx => by omega)
    · have hst : (j1 : Int) = st := HJ.out.resolve_left hjn
      have e1 : ((j1 : Int) != (n : Int)) = true := by simp; omega
      have e2 : ((j1 : Int) != st) = false := by simp [hst]
      clear hst hjn
      gi_wp2_with fail
      rw [roundsIn_succ]
      gi_wp2_with fail
      have hgi : TI (fun j => K j ∨ j = w.heap.size + 3) (fun x => x = b1) w W W1.heap.size (.slice A n c) st 0 (W1.alloc (.cells #[.int .i64 0] 3)) := ⟨HI1.out.want.same (Below.heap_alloc _ _ _ (by have := HX2.out; omega)), HI1.out.stp.same (Below.heap_alloc _ _ _ (by have := HX2.out; omega)), HI1.out.ans.same (Below.heap_alloc _ _ _ (by have := HX2.out; omega)), World.alloc_heap_new W1 _, HI1.out.b.alloc (by have := HX2.out; omega) _, HI1.out.sm.trans ⟨by simp, fun j hj => Below.heap_alloc _ _ _ (HT2.out j hj)⟩, fun x hx => by rw [hx]; exact (Below.heap_alloc _ _ _ HX2.out.2).trans HK1.out⟩
      have hs1 : (W1.alloc (.cells #[.int .i64 0] 3)).heap.size = W1.heap.size + 1 := by simp
      refine range_law2s 9 10 (R := fun k x y b Wz => (W1.alloc (.cells #[.int .i64 0] 3)).heap.size + 2 ≤ b → AllR S.es k x y b Wz) rfl (enters_of Try.func34 (by kernel_rfl) rfl)
        ((all_iter (W1.alloc (.cells #[.int .i64 0] 3)) (w.heap.size + 3) S.es (G.out.to ⟨hgi.sm.size, fun j hj _ => hgi.sm.block j hj⟩) (fun j hj => Nat.lt_of_lt_of_le (HT2.out j (.inl hj)) (by simp))).weak fun k x y b Wz h _ => h) ?_ (fun j hj => Nat.lt_of_lt_of_le (HT2.out j hj) (by simp))
        (fun k Wz => TI (fun j => K j ∨ j = w.heap.size + 3) (fun x => x = b1) w W W1.heap.size (.slice A n c) st k Wz) (fun cd Wz => cd = .exit 2 ∧ ∃ k : Nat, (k : Int) = st ∧ TI (fun j => K j ∨ j = w.heap.size + 3) (fun x => x = b1) w W W1.heap.size (.slice A n c) st k Wz) ?_ ?_ hgi ?_ ?_ ?_ ?_
      · rintro k x y b Wa Wb hr hz hk hb
        obtain ⟨r1, r2, l, A2, c2, r3, r4, r5, r6⟩ := hr hb
        exact ⟨r1, Nat.le_trans r2 hz, l, A2, c2, r3, r4, r5, own_same r6 fun k hk2 => hk k (Nat.le_trans hb (own_lt r6 k hk2).1)⟩
      · intro k Wa Wb h1 ht
        exact h1.touch ht (fun j hj h => by rw [hs1] at h; omega) (by have := HX2.out; omega) HT2.out (fun x hx => by rw [hx]; exact HX2.out.2)
      · rintro cd Wa Wb ⟨h0, k, h1, h2⟩ ht
        exact ⟨h0, k, h1, h2.touch ht (fun j hj h => by rw [hs1] at h; omega) (by have := HX2.out; omega) HT2.out (fun x hx => by rw [hx]; exact HX2.out.2)⟩
      · intro l x y Wa K1 hK1
        gi_wp2_with fail
        exact hK1
      · intro l k x y b Wr hk hx hbb hI hlt
        obtain ⟨rfl, hbz, lk, A2, c2, hlk, rfl, hlk2, hrow⟩ := hx hbb
        obtain ⟨wb, woff, A3, c3, hA, hwb, hwc, hwe, _⟩ := (HW.out.below hI.b).at hlk
        have CS := equal_any Wr lk lk _ _ hrow.holds hwe (by omega)
        rw [decide_eq_true rfl] at CS
        have CS := Lib.hid CS
        subst hA
        have hc1 := hI.want.cell
        have hc2 := hI.cnt.cell
        have hf2 := hI.cnt.frozen
        have hc3 := hI.stp.cell
        have hkn : k < n := by rw [HN.out]; exact hk
        have j1 : ((k : Int) ≥ (n : Int)) = False := eq_false (by omega)
        have j2 : ((n : Int) ≤ (k : Int)) = False := eq_false (by omega)
        have j3 : (n ≤ k) = False := eq_false (by omega)
        have j4 : ((0 : Int) ≤ (k : Int)) = True := eq_true (by omega)
        have j5 : ((k : Int) < (n : Int)) = True := eq_true (by omega)
        have j6 : (k < n) = True := eq_true hkn
        have hk64 : wrap64 ((k : Int) + 1) = ((k + 1 : Nat) : Int) := by have := HNL.out; unfold wrap64; omega
        have hk64' : IntKind.i64.wrap ((k : Int) + 1) = ((k + 1 : Nat) : Int) := by have := HNL.out; rw [IntWalk.i64_in _ (by omega)]; omega
        have HI := Lib.hid hI
        have HBZ := Lib.hid hbz
        have HBB := Lib.hid hbb
        have HLT := Lib.hid hlt
        have h1l : 1 ≤ 8 - 1 - 1 := by decide
        clear hx hlk hrow hwe hI hk hbz hlt hbb hlk2 hkn
        generalize lk.length = nl at *
        generalize hk1 : k + 1 = k1 at *
        have HK1e := Lib.hid hk1
        clear hk1
        by_cases hst : (k1 : Int) = st
        · have q1 : ((k1 : Int) == st) = true := by simpa using hst
          have q2 : ((k1 : Int) = st) = True := eq_true hst
          have HST := Lib.hid hst
          clear hst
          gi_wp2_with (first | (gi_at_call 18; refine (CallsIn.inRound l (callsIn_wide.2 CS.out)).mono ?_; rintro e Ws ⟨rfl, hb2⟩; have B2 := Lib.hid hb2; have hc1' := (hb2.cell (p := ⟨w.heap.size, 0, none⟩) HI.out.want.lt).trans hc1; have hc3' := (hb2.cell (p := ⟨w.heap.size + 1, 0, none⟩) HI.out.stp.lt).trans hc3; have hc2' := (hb2.cell (p := ⟨W1.heap.size, 0, none⟩) HI.out.cnt.lt).trans hc2; have hf2' : Ws.frozen? ⟨W1.heap.size, 0, none⟩ = false := Box.frozen (HI.out.cnt.same (hb2.block _ HI.out.cnt.lt)); have hcn : (Ws.setCell ⟨W1.heap.size, 0, none⟩ (.int .i64 (k1 : Int))).cell? ⟨W1.heap.size, 0, none⟩ = some (.int .i64 (k1 : Int)) := Box.cell (Box.set (HI.out.cnt.same (hb2.block _ HI.out.cnt.lt)) _); have hcs : (Ws.setCell ⟨W1.heap.size, 0, none⟩ (.int .i64 (k1 : Int))).cell? ⟨w.heap.size + 1, 0, none⟩ = some (.int .i64 st) := Box.cell (Box.other (HI.out.stp.same (hb2.block _ HI.out.stp.lt)) (by have := HX2.out; omega)); clear hb2))
          have hB3 := HI.out.touch (U := fun _ => False) (Touch.of_below B2.out) (fun _ _ h => h) (by have := HX2.out; omega) HT2.out (fun x hx => by rw [hx]; exact HX2.out.2)
          have hB4 := hB3.next (by have := HX2.out; omega) HT2.out (fun x hx => by rw [hx]; exact HX2.out.2)
          rw [HK1e.out] at hB4
          refine ⟨⟨?_, ?_⟩, rfl, k1, HST.out, hB4⟩
          · have := B2.out.size
            simpa [World.setCell] using this
          · intro j hj
            have hlt := HLT.out
            rw [hs1] at hlt hj
            exact (Below.heap_setCell Ws ⟨W1.heap.size, 0, none⟩ _ j (by show j ≠ W1.heap.size; omega)).trans (B2.out.block j (by omega))
        · have q1 : ((k1 : Int) == st) = false := by simpa using hst
          have q2 : ((k1 : Int) = st) = False := eq_false hst
          clear hst
          gi_wp2_with (first | (gi_at_call 18; refine (CallsIn.inRound l (callsIn_wide.2 CS.out)).mono ?_; rintro e Ws ⟨rfl, hb2⟩; have B2 := Lib.hid hb2; have hc1' := (hb2.cell (p := ⟨w.heap.size, 0, none⟩) HI.out.want.lt).trans hc1; have hc3' := (hb2.cell (p := ⟨w.heap.size + 1, 0, none⟩) HI.out.stp.lt).trans hc3; have hc2' := (hb2.cell (p := ⟨W1.heap.size, 0, none⟩) HI.out.cnt.lt).trans hc2; have hf2' : Ws.frozen? ⟨W1.heap.size, 0, none⟩ = false := Box.frozen (HI.out.cnt.same (hb2.block _ HI.out.cnt.lt)); have hcn : (Ws.setCell ⟨W1.heap.size, 0, none⟩ (.int .i64 (k1 : Int))).cell? ⟨W1.heap.size, 0, none⟩ = some (.int .i64 (k1 : Int)) := Box.cell (Box.set (HI.out.cnt.same (hb2.block _ HI.out.cnt.lt)) _); have hcs : (Ws.setCell ⟨W1.heap.size, 0, none⟩ (.int .i64 (k1 : Int))).cell? ⟨w.heap.size + 1, 0, none⟩ = some (.int .i64 st) := Box.cell (Box.other (HI.out.stp.same (hb2.block _ HI.out.stp.lt)) (by have := HX2.out; omega)); clear hb2))
          have hB3 := HI.out.touch (U := fun _ => False) (Touch.of_below B2.out) (fun _ _ h => h) (by have := HX2.out; omega) HT2.out (fun x hx => by rw [hx]; exact HX2.out.2)
          have hB4 := hB3.next (by have := HX2.out; omega) HT2.out (fun x hx => by rw [hx]; exact HX2.out.2)
          rw [HK1e.out] at hB4
          refine ⟨⟨?_, ?_⟩, by rw [HK1e.out]; exact hB4⟩
          · have := B2.out.size
            simpa [World.setCell] using this
          · intro j hj
            have hlt := HLT.out
            have hbz := HBZ.out
            have hbb := HBB.out
            rw [hs1] at hlt hj hbb
            have hjn : j ≠ W1.heap.size ∧ j < Wr.heap.size := by
              rcases hj with hj | hj | hj | hj
              · have h1 : j < W1.heap.size := HT2.out j hj
                omega
              · omega
              · omega
              · omega
            exact (Below.heap_setCell Ws ⟨W1.heap.size, 0, none⟩ _ j hjn.1).trans (B2.out.block j hjn.2)
      · intro W2 hI hK2
        rw [← HN.out] at hI
        obtain ⟨j2, hj2, hI⟩ : ∃ j2 : Nat, j2 = n ∧ TI (fun j => K j ∨ j = w.heap.size + 3) (fun x => x = b1) w W W1.heap.size (.slice A n c) st j2 W2 := ⟨n, rfl, hI⟩
        have HJ : Hid (j2 = n ∨ (j2 : Int) = st) := Lib.hid (.inl hj2)
        clear hj2
        obtain ⟨b2, hb2⟩ : ∃ b2, b2 = W1.heap.size + 1 := ⟨_, rfl⟩
        rw [hs1, ← hb2] at hK2
        rw [hs1, ← hb2]
        have HB12 : Hid (b1 < b2) := Lib.hid (by have := HX2.out; omega)
        have hc1 := hI.want.cell
        have hc2 := hI.cnt.cell
        have hc3 := hI.stp.cell
        have hac := hI.ans.cell
        have haf := hI.ans.frozen
        have HI2 := Lib.hid hI
        have HK2 := Lib.hid hK2
        have HK1' := Lib.hid (hI.dfr b1 rfl)
        have CL : Hid (Calls Try.prog 22 #[.pointer (some ⟨g, 0, none⟩)] W2.drew fun e w' => e = .returned (.int .i64 (n : Int)) ∧ W2.drew = w') := Lib.hid (by
          rw [HN.out]
          exact len_any W2.drew g S ((HL.out.to ⟨HI2.out.b.size, fun k hk hl => HI2.out.b.block k hl⟩).below (Below.refl _ _).drew))
        clear hI hK2 hs1 hb2 hgi
        by_cases hjn : j2 = n
        · have e0 : (j2 : Int) = (n : Int) := by rw [hjn]
          have e1 : ((j2 : Int) != (n : Int)) = false := by simp [e0]
          clear e0 hjn
          gi_wp2_with fail
          rw [roundsIn_succ]
          gi_wp2_with fail
          refine wpIn_noPanic ?_
          gi_region_with (first
            | (gi_at_call 22; refine (callsIn_wide.2 CL.out).mono ?_; rintro e w5 ⟨rfl, rfl⟩))
          all_goals
            refine NoPanic.normal ?_
            gi_wp2_with fail
            have hw1 : ∀ x, x ≠ w.heap.size + 2 → (W2.setCell ⟨w.heap.size + 1 + 1, 0, none⟩ (.bool true)).drew.heap[x]? = W2.heap[x]? := fun x hx => Below.heap_setCell _ _ _ x hx
            have hnb : ∀ {x}, W2.heap[x]? = some (.deferred (some [])) → x ≠ w.heap.size + 2 := fun {x} hx e => by rw [e, HI2.out.ans] at hx; cases hx
            have hd2 := (hw1 b2 (hnb HK2.out)).trans HK2.out
            have hd1 := (hw1 b1 (hnb HK1'.out)).trans HK1'.out
            refine ⟨by simp, .inl ⟨_, _, rfl, run_takeDeferred hd2, ?_⟩⟩
            have hd1' := (World.putObj_heap_other (w := (W2.setCell ⟨w.heap.size + 1 + 1, 0, none⟩ (.bool true)).drew) (r := b2) (o := .deferred none) (show b1 ≠ b2 by have := HB12.out; omega)).trans hd1
            refine ⟨by simp, .inl ⟨_, _, rfl, run_takeDeferred hd1', ?_⟩⟩
            have hne1 : w.heap.size + 2 ≠ b1 := fun e => hnb HK1'.out e.symm
            have hne2 : w.heap.size + 2 ≠ b2 := fun e => hnb HK2.out e.symm
            have hbx : Box (((W2.setCell ⟨w.heap.size + 1 + 1, 0, none⟩ (.bool true)).drew.putObj b2 (.deferred none)).putObj b1 (.deferred none)) (w.heap.size + 1 + 1) (.bool true) 4 :=
              ((HI2.out.ans.set (.bool true)).same (World.putObj_heap_other (w := (W2.setCell ⟨w.heap.size + 1 + 1, 0, none⟩ (.bool true)).drew) hne2)).same (World.putObj_heap_other hne1)
            have hc := hbx.cell
            have hge := HX2.out
            have hlt := HB12.out
            refine ⟨.bool true, by simp [results, Try.results19, go_sem, hc], rfl, ?_⟩
            have hS : Below w.heap.size w (W2.setCell ⟨w.heap.size + 1 + 1, 0, none⟩ (.bool true)).drew := (HI2.out.b.setCell (p := ⟨w.heap.size + 1 + 1, 0, none⟩) (by show w.heap.size ≤ w.heap.size + 1 + 1; omega) _).drew
            have hP2 := hS.trans ((Touch.putObj (T := fun x => x = b2) _ b2 (.deferred none) rfl).below hS.size fun x hx => by omega)
            exact hP2.trans ((Touch.putObj (T := fun x => x = b1) _ b1 (.deferred none) rfl).below hP2.size fun x hx => by omega)
        · have hst : (j2 : Int) = st := HJ.out.resolve_left hjn
          have e1 : ((j2 : Int) != (n : Int)) = true := by simp; omega
          have e2 : ((j2 : Int) != st) = false := by simp [hst]
          clear hst hjn
          gi_wp2_with fail
          rw [roundsIn_succ]
          gi_wp2_with fail
          refine wpIn_noPanic ?_
          gi_region_with (first
            | (gi_at_call 22; refine (callsIn_wide.2 CL.out).mono ?_; rintro e w5 ⟨rfl, rfl⟩))
          all_goals
            refine NoPanic.normal ?_
            gi_wp2_with fail
            have hw1 : ∀ x, x ≠ w.heap.size + 2 → (W2.setCell ⟨w.heap.size + 1 + 1, 0, none⟩ (.bool true)).drew.heap[x]? = W2.heap[x]? := fun x hx => Below.heap_setCell _ _ _ x hx
            have hnb : ∀ {x}, W2.heap[x]? = some (.deferred (some [])) → x ≠ w.heap.size + 2 := fun {x} hx e => by rw [e, HI2.out.ans] at hx; cases hx
            have hd2 := (hw1 b2 (hnb HK2.out)).trans HK2.out
            have hd1 := (hw1 b1 (hnb HK1'.out)).trans HK1'.out
            refine ⟨by simp, .inl ⟨_, _, rfl, run_takeDeferred hd2, ?_⟩⟩
            have hd1' := (World.putObj_heap_other (w := (W2.setCell ⟨w.heap.size + 1 + 1, 0, none⟩ (.bool true)).drew) (r := b2) (o := .deferred none) (show b1 ≠ b2 by have := HB12.out; omega)).trans hd1
            refine ⟨by simp, .inl ⟨_, _, rfl, run_takeDeferred hd1', ?_⟩⟩
            have hne1 : w.heap.size + 2 ≠ b1 := fun e => hnb HK1'.out e.symm
            have hne2 : w.heap.size + 2 ≠ b2 := fun e => hnb HK2.out e.symm
            have hbx : Box (((W2.setCell ⟨w.heap.size + 1 + 1, 0, none⟩ (.bool true)).drew.putObj b2 (.deferred none)).putObj b1 (.deferred none)) (w.heap.size + 1 + 1) (.bool true) 4 :=
              ((HI2.out.ans.set (.bool true)).same (World.putObj_heap_other (w := (W2.setCell ⟨w.heap.size + 1 + 1, 0, none⟩ (.bool true)).drew) hne2)).same (World.putObj_heap_other hne1)
            have hc := hbx.cell
            have hge := HX2.out
            have hlt := HB12.out
            refine ⟨.bool true, by simp [results, Try.results19, go_sem, hc], rfl, ?_⟩
            have hS : Below w.heap.size w (W2.setCell ⟨w.heap.size + 1 + 1, 0, none⟩ (.bool true)).drew := (HI2.out.b.setCell (p := ⟨w.heap.size + 1 + 1, 0, none⟩) (by show w.heap.size ≤ w.heap.size + 1 + 1; omega) _).drew
            have hP2 := hS.trans ((Touch.putObj (T := fun x => x = b2) _ b2 (.deferred none) rfl).below hS.size fun x hx => by omega)
            exact hP2.trans ((Touch.putObj (T := fun x => x = b1) _ b1 (.deferred none) rfl).below hP2.size fun x hx => by omega)
      · rintro cd W2 ⟨rfl, j2, hj2, hI⟩ hK2
        have HJ : Hid (j2 = n ∨ (j2 : Int) = st) := Lib.hid (.inr hj2)
        clear hj2
        obtain ⟨b2, hb2⟩ : ∃ b2, b2 = W1.heap.size + 1 := ⟨_, rfl⟩
        rw [hs1, ← hb2] at hK2
        rw [hs1, ← hb2]
        have HB12 : Hid (b1 < b2) := Lib.hid (by have := HX2.out; omega)
        have hc1 := hI.want.cell
        have hc2 := hI.cnt.cell
        have hc3 := hI.stp.cell
        have hac := hI.ans.cell
        have haf := hI.ans.frozen
        have HI2 := Lib.hid hI
        have HK2 := Lib.hid hK2
        have HK1' := Lib.hid (hI.dfr b1 rfl)
        have CL : Hid (Calls Try.prog 22 #[.pointer (some ⟨g, 0, none⟩)] W2.drew fun e w' => e = .returned (.int .i64 (n : Int)) ∧ W2.drew = w') := Lib.hid (by
          rw [HN.out]
          exact len_any W2.drew g S ((HL.out.to ⟨HI2.out.b.size, fun k hk hl => HI2.out.b.block k hl⟩).below (Below.refl _ _).drew))
        clear hI hK2 hs1 hb2 hgi
        by_cases hjn : j2 = n
        · have e0 : (j2 : Int) = (n : Int) := by rw [hjn]
          have e1 : ((j2 : Int) != (n : Int)) = false := by simp [e0]
          clear e0 hjn
          gi_wp2_with fail
          rw [roundsIn_succ]
          gi_wp2_with fail
          refine wpIn_noPanic ?_
          gi_region_with (first
            | (gi_at_call 22; refine (callsIn_wide.2 CL.out).mono ?_; rintro e w5 ⟨rfl, rfl⟩))
          all_goals
            refine NoPanic.normal ?_
            gi_wp2_with fail
            have hw1 : ∀ x, x ≠ w.heap.size + 2 → (W2.setCell ⟨w.heap.size + 1 + 1, 0, none⟩ (.bool true)).drew.heap[x]? = W2.heap[x]? := fun x hx => Below.heap_setCell _ _ _ x hx
            have hnb : ∀ {x}, W2.heap[x]? = some (.deferred (some [])) → x ≠ w.heap.size + 2 := fun {x} hx e => by rw [e, HI2.out.ans] at hx; cases hx
            have hd2 := (hw1 b2 (hnb HK2.out)).trans HK2.out
            have hd1 := (hw1 b1 (hnb HK1'.out)).trans HK1'.out
            refine ⟨by simp, .inl ⟨_, _, rfl, run_takeDeferred hd2, ?_⟩⟩
            have hd1' := (World.putObj_heap_other (w := (W2.setCell ⟨w.heap.size + 1 + 1, 0, none⟩ (.bool true)).drew) (r := b2) (o := .deferred none) (show b1 ≠ b2 by have := HB12.out; omega)).trans hd1
            refine ⟨by simp, .inl ⟨_, _, rfl, run_takeDeferred hd1', ?_⟩⟩
            have hne1 : w.heap.size + 2 ≠ b1 := fun e => hnb HK1'.out e.symm
            have hne2 : w.heap.size + 2 ≠ b2 := fun e => hnb HK2.out e.symm
            have hbx : Box (((W2.setCell ⟨w.heap.size + 1 + 1, 0, none⟩ (.bool true)).drew.putObj b2 (.deferred none)).putObj b1 (.deferred none)) (w.heap.size + 1 + 1) (.bool true) 4 :=
              ((HI2.out.ans.set (.bool true)).same (World.putObj_heap_other (w := (W2.setCell ⟨w.heap.size + 1 + 1, 0, none⟩ (.bool true)).drew) hne2)).same (World.putObj_heap_other hne1)
            have hc := hbx.cell
            have hge := HX2.out
            have hlt := HB12.out
            refine ⟨.bool true, by simp [results, Try.results19, go_sem, hc], rfl, ?_⟩
            have hS : Below w.heap.size w (W2.setCell ⟨w.heap.size + 1 + 1, 0, none⟩ (.bool true)).drew := (HI2.out.b.setCell (p := ⟨w.heap.size + 1 + 1, 0, none⟩) (by show w.heap.size ≤ w.heap.size + 1 + 1; omega) _).drew
            have hP2 := hS.trans ((Touch.putObj (T := fun x => x = b2) _ b2 (.deferred none) rfl).below hS.size fun x hx => by omega)
            exact hP2.trans ((Touch.putObj (T := fun x => x = b1) _ b1 (.deferred none) rfl).below hP2.size fun x hx => by omega)
        · have hst : (j2 : Int) = st := HJ.out.resolve_left hjn
          have e1 : ((j2 : Int) != (n : Int)) = true := by simp; omega
          have e2 : ((j2 : Int) != st) = false := by simp [hst]
          clear hst hjn
          gi_wp2_with fail
          rw [roundsIn_succ]
          gi_wp2_with fail
          refine wpIn_noPanic ?_
          gi_region_with (first
            | (gi_at_call 22; refine (callsIn_wide.2 CL.out).mono ?_; rintro e w5 ⟨rfl, rfl⟩))
          all_goals
            refine NoPanic.normal ?_
            gi_wp2_with fail
            have hw1 : ∀ x, x ≠ w.heap.size + 2 → (W2.setCell ⟨w.heap.size + 1 + 1, 0, none⟩ (.bool true)).drew.heap[x]? = W2.heap[x]? := fun x hx => Below.heap_setCell _ _ _ x hx
            have hnb : ∀ {x}, W2.heap[x]? = some (.deferred (some [])) → x ≠ w.heap.size + 2 := fun {x} hx e => by rw [e, HI2.out.ans] at hx; cases hx
            have hd2 := (hw1 b2 (hnb HK2.out)).trans HK2.out
            have hd1 := (hw1 b1 (hnb HK1'.out)).trans HK1'.out
            refine ⟨by simp, .inl ⟨_, _, rfl, run_takeDeferred hd2, ?_⟩⟩
            have hd1' := (World.putObj_heap_other (w := (W2.setCell ⟨w.heap.size + 1 + 1, 0, none⟩ (.bool true)).drew) (r := b2) (o := .deferred none) (show b1 ≠ b2 by have := HB12.out; omega)).trans hd1
            refine ⟨by simp, .inl ⟨_, _, rfl, run_takeDeferred hd1', ?_⟩⟩
            have hne1 : w.heap.size + 2 ≠ b1 := fun e => hnb HK1'.out e.symm
            have hne2 : w.heap.size + 2 ≠ b2 := fun e => hnb HK2.out e.symm
            have hbx : Box (((W2.setCell ⟨w.heap.size + 1 + 1, 0, none⟩ (.bool true)).drew.putObj b2 (.deferred none)).putObj b1 (.deferred none)) (w.heap.size + 1 + 1) (.bool true) 4 :=
              ((HI2.out.ans.set (.bool true)).same (World.putObj_heap_other (w := (W2.setCell ⟨w.heap.size + 1 + 1, 0, none⟩ (.bool true)).drew) hne2)).same (World.putObj_heap_other hne1)
            have hc := hbx.cell
            have hge := HX2.out
            have hlt := HB12.out
            refine ⟨.bool true, by simp [results, Try.results19, go_sem, hc], rfl, ?_⟩
            have hS : Below w.heap.size w (W2.setCell ⟨w.heap.size + 1 + 1, 0, none⟩ (.bool true)).drew := (HI2.out.b.setCell (p := ⟨w.heap.size + 1 + 1, 0, none⟩) (by show w.heap.size ≤ w.heap.size + 1 + 1; omega) _).drew
            have hP2 := hS.trans ((Touch.putObj (T := fun x => x = b2) _ b2 (.deferred none) rfl).below hS.size fun x hx => by omega)
            exact hP2.trans ((Touch.putObj (T := fun x => x = b1) _ b1 (.deferred none) rfl).below hP2.size fun x hx => by omega)
end
end Go.Proofs.Ytknekldnipdpeaa
