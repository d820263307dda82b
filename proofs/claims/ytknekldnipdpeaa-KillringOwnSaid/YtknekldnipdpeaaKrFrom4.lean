/-
  From: a new ring with the entries.
-/
import Derived.Test.YtknekldnipdpeaaKrFrom3
namespace Go.Proofs.Ytknekldnipdpeaa
open Go.RowKit Go.Shelf Go.Lib
attribute [local go_sem] Oper.semAt_some

set_option maxRecDepth 1000000 in
theorem backward_any (w : World) (A : Option Addr) (n c : Nat) : Calls Try.prog 33 #[.slice A n c] w fun e w' => e = .returned (.func (.func 38) #[] #[.pointer (some ⟨w.heap.size, 0, none⟩)]) ∧ w' = w.alloc (.cells #[.slice A n c] 26) := by
  go_enter Try.func33, Try.ntmps33
  go_wp2
  go_ret
  exact ⟨rfl, rfl⟩
set_option maxRecDepth 1000000 in
set_option maxHeartbeats 8000000 in
theorem from_ok (w : World) (ls : List (List Int)) (A : Option Addr) (n c : Nat) (h : Mat w (.slice A n c) ls) (hok : fromOk ls) : Calls Try.prog 20 #[.slice A n c] w fun e w' => ∃ g K, e = .returned (.tuple #[.pointer (some ⟨g, 0, none⟩), .int .i64 0]) ∧ RAt K w' g ⟨ls, 0⟩ ∧ (∀ k, K k → w.heap.size ≤ k) ∧ w.heap.size ≤ g ∧ Below w.heap.size w w' := by
  have hn : n = ls.length := by
    obtain ⟨A', c', e⟩ := h.form
    injection e
  refine (callsIn_wide (n := 8)).1 ?_
  refine callsIn_of_wp_marks Try.func20 rfl trivial ?_ rfl
  simp only [Try.ntmps20, List.size_toArray, List.length_cons, List.length_nil, Nat.reduceAdd, Nat.reduceSub, Array.replicate_succ, Array.replicate_zero, List.push_toArray, List.append_toArray, List.nil_append, List.cons_append]
  have hdep : Fence.wide.depth.isSome = false := rfl
  have hf0 : Fence.wide.fn 32 := trivial
  have hf1 : Fence.wide.fn 9 := trivial
  have hf2 : Fence.wide.fn 33 := trivial
  have hf3 : Fence.wide.fn 27 := trivial
  have hf4 : Fence.wide.fn 26 := trivial
  have CC := containsFunc_any w ls A n c h
  rw [hok.2] at CC
  have CC := Lib.hid CC
  have i1 : ((n : Int) > 60) = False := eq_false (by have := hok.1; omega)
  have i2 : ((60 : Int) < (n : Int)) = False := eq_false (by have := hok.1; omega)
  have i3 : (60 < n) = False := eq_false (by have := hok.1; omega)
  have HM := Lib.hid h
  have HOK := Lib.hid hok
  have HN := Lib.hid hn
  clear h hok hn
  gi_wp2_with (first
    | (gi_at_call 32; refine (callsIn_wide.2 CC.out).mono ?_; rintro e w1 ⟨rfl, rfl⟩)
    | (gi_at_call 9; refine (callsIn_wide.2 (new_any _)).mono ?_; rintro e w1 ⟨rfl, hr, hb⟩; have R1 := Lib.hid hr; have B1 := Lib.hid hb; clear hr hb)
    | (gi_at_call 33; refine (callsIn_wide.2 (backward_any _ A n c)).mono ?_; rintro e w2 ⟨rfl, rfl⟩))
  obtain ⟨W0, hW0⟩ : ∃ W0, W0 = (w1.alloc (.cells #[.pointer (some ⟨w.heap.size, 0, none⟩)] 23)).alloc (.cells #[.slice A n c] 26) := ⟨_, rfl⟩
  have hz1 : (w1.alloc (.cells #[.pointer (some ⟨w.heap.size, 0, none⟩)] 23)).heap.size = w1.heap.size + 1 := by simp
  have hz : W0.heap.size = w1.heap.size + 2 := by rw [hW0]; simp
  have hg1 : w.heap.size < w1.heap.size := R1.out.lt
  have hb1 : Below w1.heap.size w1 W0 := by rw [hW0]; exact ((Below.refl _ _).alloc (Nat.le_refl _) _).alloc (by simp) _
  have hkb : Box W0 w1.heap.size (.pointer (some ⟨w.heap.size, 0, none⟩)) 23 := by
    rw [hW0]; exact (Below.heap_alloc _ _ _ (by simp)).trans (World.alloc_heap_new w1 _)
  have hbb : Box W0 (w1.heap.size + 1) (.slice A n c) 26 := by
    have := World.alloc_heap_new (w1.alloc (.cells #[.pointer (some ⟨w.heap.size, 0, none⟩)] 23)) (.cells #[.slice A n c] 26)
    rw [← hW0, hz1] at this
    exact this
  have hB0 : Below w.heap.size w W0 := B1.out.trans (hb1.mono B1.out.size)
  have hfi : FI w w.heap.size w1.heap.size (w1.heap.size + 1) W0.heap.size (.slice A n c) (ls.drop (n - 0)) W0 := by
    have he : ls.drop (n - 0) = [] := List.drop_eq_nil_iff.2 (by have := HN.out; omega)
    rw [he]
    exact ⟨hkb, hbb, hB0, fun _ => False, R1.out.below hb1, fun _ h => h.elim⟩
  have hbnd : w.heap.size ≤ W0.heap.size ∧ w.heap.size < W0.heap.size ∧ w1.heap.size < W0.heap.size ∧ w1.heap.size + 1 < W0.heap.size := by omega
  have HBND := Lib.hid hbnd
  rw [← hW0]
  refine range_lawBs 6 (R := BackR w ls) rfl (enters_of Try.func38 (by kernel_rfl) rfl) (back_iter w W0 (w1.heap.size + 1) ls A n c HM.out hbb hB0) (fun _ _ _ _ _ _ h ht => ⟨Nat.le_trans h.1 ht.size, h.2⟩) (fun k hk => by have := HBND.out; omega)
    (fun k W => FI w w.heap.size w1.heap.size (w1.heap.size + 1) W0.heap.size (.slice A n c) (ls.drop (n - k)) W) (fun _ _ => False) (fun k W W' h ht => h.touch HBND.out ht) (fun _ _ _ h _ => h) hfi ?_ ?_ ?_ (fun _ _ h => h.elim)
  · intro l x y Wa K1 hK1
    gi_wp2_with fail
    exact hK1
  · rintro l k x y b Wr hk ⟨hbz, lk, A2, c2, hlk, rfl, hh⟩ hbb2 hI hlt
    have hc0 := hI.box.cell
    obtain ⟨Kp, hR, hKp⟩ := hI.ring
    obtain ⟨vs, nw, hrow, hents⟩ := hR.row
    have hl1024 : lk.length ≤ 1024 := by
      have h1 := HOK.out.2
      have h2 := List.any_eq_false.1 h1 lk (List.mem_of_getElem? hlk)
      simp [longB] at h2
      omega
    have CC2 := Lib.hid (cloneRow Wr.drew (.slice A2 lk.length c2) lk ((hh.below hI.b).below (Below.refl _ _).drew) (by omega))
    have CP := Lib.hid fun W A3 n3 c3 (hW : Row W w.heap.size vs nw (ls.drop (n - k)).length 0) => push_any W w.heap.size vs nw _ _ hW A3 n3 c3
    have hd : ls.drop (n - (k + 1)) = lk :: ls.drop (n - k) := by
      have hlt2 : n - (k + 1) < ls.length := by have := HN.out; omega
      rw [List.drop_eq_getElem_cons hlt2, show n - (k + 1) + 1 = n - k by have := HN.out; omega]
      have : ls[n - (k + 1)]? = some lk := by rw [show n - (k + 1) = ls.length - 1 - k by have := HN.out; omega]; exact hlk
      rw [List.getElem?_eq_getElem hlt2] at this
      rw [Option.some.inj this]
    have hlen60 : (lk :: ls.drop (n - k)).length ≤ 60 := by rw [← hd, List.length_drop]; have := HOK.out.1; omega
    have FIN : Hid (∀ w2 w3 A3 c3, Below Wr.drew.heap.size Wr.drew w2 → RRow w2 Wr.drew.heap.size (.slice A3 lk.length c3) lk → Touch (Only w.heap.size) w2 w3 → Row w3 w.heap.size (vs.set (nextS nw) (.slice A3 lk.length c3)) (nextS nw) (min ((ls.drop (n - k)).length + 1) 60) 0 → FI w w.heap.size w1.heap.size (w1.heap.size + 1) W0.heap.size (.slice A n c) (ls.drop (n - (k + 1))) w3 ∧ Touch (Only w.heap.size) Wr w3) := Lib.hid (by
      intro w2 w3 A3 c3 hb2 hrr ht3 hrow3
      have hb : Below Wr.heap.size Wr w2 := ⟨hb2.os, hb2.tape, hb2.output, hb2.size, hb2.block⟩
      have t1 : Touch (Only w.heap.size) Wr w3 := (Touch.of_below hb).trans ht3
      have hgl := hR.lt
      have hrr2 : RRow w3 Wr.heap.size (.slice A3 lk.length c3) lk := own_same hrr fun k hk => ht3.block k (own_lt hrr k hk).2 fun e => by
        have := own_lt hrr k hk
        simp only [Only] at e
        have h1 : Wr.drew.heap.size = Wr.heap.size := rfl
        omega
      have hp := hR.pushed hrow hents hl1024 hrow3 (RIn.own hrr2 fun k h1 h2 => .inr ⟨h1, h2⟩) t1
      rw [List.take_of_length_le hlen60, ← hd] at hp
      have hbnd := HBND.out
      refine ⟨⟨hI.box.same (t1.block _ hI.box.lt (by simp only [Only]; omega)), hI.src.same (t1.block _ hI.src.lt (by simp only [Only]; omega)), hI.b.trans (t1.below hI.b.size fun k hk => by simp only [Only] at hk; omega), _, hp, ?_⟩, t1⟩
      rintro k (hk | ⟨hk, _⟩)
      · exact hKp k hk
      · omega)
    have HROW := Lib.hid hrow
    have HGL := Lib.hid hR.lt
    have HLT := Lib.hid hlt
    have HBZ := Lib.hid hbz
    have hcd : Wr.drew.cell? ⟨w1.heap.size, 0, none⟩ = some (.pointer (some ⟨w.heap.size, 0, none⟩)) := hc0
    have HBXL := Lib.hid hI.box.lt
    have h1l : 1 ≤ 8 - 1 - 1 := by decide
    clear hh hI hR hKp hrow hents hl1024 hd hlen60 hlt hbz hbb2 hlk hk hc0
    generalize lk.length = nl at *
    gi_wp2_with fail
    gi_region_with (first
      | (gi_at_call 27; refine (CallsIn.inRound l (callsIn_wide.2 CC2.out)).mono ?_; rintro e w2 ⟨A3, c3, rfl, hrr, hb⟩; have hrow := HROW.out.same ((hb.block w.heap.size HGL.out).trans rfl); have hc2 := (hb.cell (p := ⟨w1.heap.size, 0, none⟩) HBXL.out).trans hcd; have RR := Lib.hid hrr; have BB := Lib.hid hb; have RW := Lib.hid hrow; clear hrr hb hrow)
      | (gi_at_call 26; refine (CallsIn.inRound l (callsIn_wide.2 (CP.out _ _ _ _ RW.out))).mono ?_; rintro e w3 ⟨rfl, hrow3, ht3⟩; have FF := Lib.hid (FIN.out _ _ _ _ BB.out RR.out ht3 hrow3); clear hrow3 ht3))
    all_goals
      gi_wp2_with fail
      refine ⟨⟨FF.out.2.size, ?_⟩, FF.out.1⟩
      intro j hj
      have hbnd := HBND.out
      have hlt := HLT.out
      have hbz := HBZ.out
      exact FF.out.2.block j (by omega) (by simp only [Only]; omega)
  · intro W2 hI hK2
    rw [show n - ls.length = 0 by have := HN.out; omega, List.drop_zero] at hI
    have hc0 := hI.box.cell
    have HI := Lib.hid hI
    have HK2 := Lib.hid hK2
    clear hI hK2
    gi_wp2_with fail
    refine ⟨by simp, .inl ⟨_, _, rfl, run_takeDeferred HK2.out, ?_⟩⟩
    have hbnd := HBND.out
    have h3 := HI.out.touch hbnd (Touch.putObj (T := fun j => j = W0.heap.size ∨ j = W0.heap.size + 1) W2 W0.heap.size (.deferred none) (.inl rfl))
    obtain ⟨Kp, hR, hKp⟩ := h3.ring
    exact ⟨.tuple #[.pointer (some ⟨w.heap.size, 0, none⟩), .int .i64 0], by simp [results, Try.results20, go_sem], w.heap.size, Kp, rfl, hR, fun k hk => by have := hKp k hk; omega, Nat.le_refl _, h3.b⟩
end Go.Proofs.Ytknekldnipdpeaa
