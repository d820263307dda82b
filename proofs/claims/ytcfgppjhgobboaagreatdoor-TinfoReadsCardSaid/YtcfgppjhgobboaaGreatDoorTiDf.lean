/-
  The document's reader of package tinfo: flags.
  The document's reader of package tinfo: numbers.
  The document's reader of package tinfo: a text of a table.
  The document's reader of package tinfo: five counts.
-/
import Derived.Test.YtcfgppjhgobboaaGreatDoorTiDr
import Derived.Test.YtcfgppjhgobboaaGreatDoorTmLong
namespace Go.Proofs.YtcfgppjhgobboaaGreatDoor
section
open Go.RowKit Go.Shelf Go.Lib
attribute [local go_sem] Oper.semAt_some

/-- behind the reading of a row of capabilities, by the document -/
def DCapsPost (w : World) (kb : Nat) (v : Value) (b : List UInt8) (s : RS) (l : List CapD) (e : Ending) (w' : World) : Prop := ∃ u, e = .returned u ∧ CapRow w' u l ∧ (∀ k, u.ownBlock = some k → w.heap.size ≤ k) ∧ DStep w kb v b s w'
theorem DCapsPost.nil {w w' : World} {kb : Nat} {v : Value} {b : List UInt8} {s : RS} (h : DStep w kb v b s w') : DCapsPost w kb v b s [] (.returned (.slice none 0 0)) w' := ⟨_, rfl, World.ownsRow_nil _ _ _ _, (fun j hj => by cases hj), h⟩
/-- while capabilities are read: those that are there, where the reader is -/
def DCapsR (w : World) (kb : Nat) (v : Value) (b : List UInt8) (s : RS) (l : List CapD) (sz n : Nat) (u i : Value) (W : World) : Prop :=
  ∃ k : Nat, i = .int .i64 k ∧ k ≤ n ∧ CapRow W u (l.take k) ∧ (∀ j, u.ownBlock = some j → w.heap.size ≤ j) ∧ DStep w kb v b { s with pos := s.pos + k * sz } W
theorem DCapsR.next {w : World} {kb : Nat} {v : Value} {b : List UInt8} {s s0 : RS} {l : List CapD} {sz n : Nat} {W2 W' : World} {u v' : Value} {k : Nat} {z : CapD} (h0 : DrAt w kb v b s0) (hk : k < n) (ho : ∀ j, u.ownBlock = some j → w.heap.size ≤ j) (hz : l.take (k + 1) = l.take k ++ [z])
    (hS : DStep w kb v b { s with pos := s.pos + (k + 1) * sz } W2) (hr : CapRow W' v' (l.take k ++ [z])) (hg : W2.grownBy W' u.ownBlock) (hv : v'.ownBlock = u.ownBlock ∨ v'.ownBlock = some W2.heap.size) : DCapsR w kb v b s l sz n v' (.int .i64 ((k : Int) + 1)) W' := by
  refine ⟨k + 1, by go_num, hk, by rw [hz]; exact hr, fun j hj => ?_, hS.over h0 (grown_below hg hS.ht.size fun j hj => ho j hj)⟩
  rcases hv with hv | hv
  · exact ho j (hv ▸ hj)
  · rw [hv] at hj; injection hj with hj; have := hS.ht.size; omega
/-- in a round: the reader, the row so far, a capability in a box of its own -/
structure DBox (w W : World) (kb nb : Nat) (v : Value) (b : List UInt8) (s : RS) (u : Value) (l : List CapD) (c : CapD) : Prop where
  st : DStep w kb v b s W
  row : CapRow W u l
  box : W.heap[nb]? = some (.cells #[.int .i64 c.st, .int .i64 c.num, str c.text] 37 (0, 0))
  base : w.heap.size ≤ nb
  own : ∀ j, u.ownBlock = some j → w.heap.size ≤ j ∧ j < nb
section
variable {w W W' : World} {kb nb : Nat} {v : Value} {b : List UInt8} {s s0 : RS} {u : Value} {l : List CapD} {c : CapD}
theorem DBox.below (h : DBox w W kb nb v b s u l c) (hb : Below W.heap.size W W') : DBox w W' kb nb v b s u l c :=
  ⟨h.st.next hb, own_same h.row fun j hj => hb.block j (own_lt h.row j hj).2, (hb.block _ (Array.getElem?_eq_some_iff.1 h.box).1).trans h.box, h.base, h.own⟩
theorem DBox.made (h : DStep w kb v b s W) (hr : CapRow W u l) (ho : ∀ j, u.ownBlock = some j → w.heap.size ≤ j) (c : CapD) : DBox w (W.alloc (.cells #[.int .i64 c.st, .int .i64 c.num, str c.text] 37)) kb W.heap.size v b s u l c := by
  have hb := (Below.refl _ W).alloc (Nat.le_refl _) (.cells #[.int .i64 c.st, .int .i64 c.num, str c.text] 37)
  exact ⟨h.next hb, own_same hr fun j hj => hb.block j (own_lt hr j hj).2, World.alloc_heap_new _ _, h.ht.size, fun j hj => ⟨ho j hj, (own_lt hr j hj).2⟩⟩
theorem DBox.set (h : DBox w W kb nb v b s u l c) (h0 : DrAt w kb v b s0) {j : Nat} {x : Value} {c' : CapD} (hc : (#[.int .i64 c.st, .int .i64 c.num, str c.text] : Array Value).setIfInBounds j x = #[.int .i64 c'.st, .int .i64 c'.num, str c'.text]) : DBox w (W.setCell ⟨nb, j, none⟩ x) kb nb v b s u l c' := by
  have ht := Touch.setCell (T := fun k => k = nb) W ⟨nb, j, none⟩ x rfl
  have hx := heap_setCell_same W nb j _ _ x h.box
  rw [hc] at hx
  exact ⟨h.st.over h0 (ht.below h.st.ht.size fun k hk => by have := h.base; omega), own_same h.row fun k hk => ht.block k (own_lt h.row k hk).2 (by have := h.own k hk; omega), hx, h.base, h.own⟩
theorem DBox.touch (h : DBox w W kb nb v b s u l c) (h0 : DrAt w kb v b s0) {s' : RS} (hs : DStep W kb v b s' W') : DBox w W' kb nb v b s' u l c := by
  have hlt := h0.lt
  exact ⟨h.st.trans hs, own_same h.row fun k hk => hs.ht.block k (own_lt h.row k hk).2 (by have := h.own k hk; omega), (hs.ht.block nb (Array.getElem?_eq_some_iff.1 h.box).1 (by have := h.base; omega)).trans h.box, h.base, h.own⟩
theorem DBox.up (h : DBox w W kb nb v b s u l c) (h0 : DrAt w kb v b s0) {q d : Nat} (hl : q + d ≤ b.length) : DBox w (W.setCell ⟨kb, 1, none⟩ (.int .i64 ((q : Int) + (d : Int)))) kb nb v b { s with pos := q + d } u l c := by
  have := h.st.rd.step.setPos (q + d) hl
  rw [Int.natCast_add] at this
  exact h.touch h0 this
theorem DBox.cells (h : DBox w W kb nb v b s u l c) :
    W.cell? ⟨nb, 0, none⟩ = some (.int .i64 c.st) ∧ W.cell? ⟨nb, 1, none⟩ = some (.int .i64 c.num) ∧ W.cell? ⟨nb, 2, none⟩ = some (str c.text) ∧ W.frozen? ⟨nb, 0, none⟩ = false ∧ W.frozen? ⟨nb, 1, none⟩ = false ∧ W.frozen? ⟨nb, 2, none⟩ = false :=
  ⟨cell_of_row W nb 0 _ _ _ h.box, cell_of_row W nb 1 _ _ _ h.box, cell_of_row W nb 2 _ _ _ h.box, frozen_of_row W nb 0 _ _ h.box, frozen_of_row W nb 1 _ _ h.box, frozen_of_row W nb 2 _ _ h.box⟩
end
def DFlagsPost (w : World) (kb : Nat) (v : Value) (b : List UInt8) (s : RS) (n : Int) : Ending → World → Prop :=
  DCapsPost w kb v b (skipS b.length s n) (if needB b.length s n then flagsAt b s.pos n.toNat else [])

set_option maxRecDepth 100000 in
set_option maxHeartbeats 2000000 in
theorem dflags_any (w : World) (kb : Nat) (v : Value) (b : List UInt8) (s : RS) (n : Int) (h : DrAt w kb v b s) (hn : -1000000 ≤ n) (hn2 : n ≤ 1000000) (hn3 : s.e = 0 → 0 ≤ n ∧ n ≤ 1000) :
    Calls Tryz.prog 76 #[.pointer (some ⟨kb, 0, none⟩), .int .i64 n] w (DFlagsPost w kb v b s n) := by
  have CN := Lib.hid (dneed_any w kb v b s n h hn hn2)
  unfold DFlagsPost
  cases hok : needB b.length s n with
  | false =>
    rw [hok] at CN
    rw [skipS_not hok, if_neg (by decide)]
    clear h hok
    go_enter Tryz.func76, Tryz.ntmps76
    go_wp2_with (go_at_call 80; (refine (CN.out).mono ?_); rintro e w1 ⟨rfl, hs⟩; have H1 := Lib.hid hs; clear hs)
    go_ret
    exact DCapsPost.nil H1.out
  | true =>
    rw [hok, needS_of hok] at CN
    rw [skipS_need hok, if_pos rfl]
    have hb0 : s.e = 0 ∧ (s.pos : Int) + n ≤ (b.length : Int) := by unfold needB at hok; simpa using hok
    obtain ⟨m, rfl⟩ : ∃ m : Nat, n = m := ⟨n.toNat, by have := hn3 hb0.1; omega⟩
    rw [Int.toNat_natCast]
    have hm : m ≤ 1000 := by have := hn3 hb0.1; omega
    have hpl : s.pos + m ≤ b.length := by omega
    have hbs := build_st 1
    have H0 := Lib.hid h
    have HPL := Lib.hid (And.intro hpl hm)
    have HS0 := Lib.hid h.step
    clear h hok hn hn2 hn3 hb0 hm
    go_enter Tryz.func76, Tryz.ntmps76
    go_wp2_with (go_at_call 80; (refine (CN.out).mono ?_); rintro e w1 ⟨rfl, hs⟩; have H1 := Lib.hid hs; clear hs)
    generalize hl : flagsAt b s.pos m = l at *
    have HNX : Hid (∀ k, k < m → l.take (k + 1) = l.take k ++ [capOfFlag (byteAt b (s.pos + k))]) := Lib.hid (fun k hk => by rw [← hl]; exact flagsAt_take b s.pos m k hk)
    have HLL : Hid (l.length = m) := Lib.hid (by rw [← hl]; exact flagsAt_length _ _ _)
    have HI := Lib.hid (show DCapsR w kb v b s l 1 m (.slice none 0 0) (.int .i64 0) w1 from ⟨0, rfl, Nat.zero_le _, World.ownsRow_nil _ _ _ _, (fun j hj => by cases hj), by rw [Nat.zero_mul, Nat.add_zero]; exact H1.out⟩)
    clear hl hpl
    go_loopw [5, 6] (fun u i wr => DCapsR w kb v b s l 1 m u i wr) (fun _ i _ => m - (RowKit.intOf i).toNat)
    case atStart => exact HI.out
    case round =>
      obtain ⟨k, rfl, hk, hrow, hown, hst⟩ := hrel
      obtain ⟨B0, bc, rfl⟩ := hrow.form
      have HR := Lib.hid (And.intro hrow (And.intro hown hst))
      have hlen : (l.take k).length = k := by rw [List.length_take, HLL.out]; omega
      rw [hlen] at HR ⊢
      by_cases hlt : k < m
      · obtain ⟨q, hq⟩ : ∃ q, s.pos + k = q := ⟨_, rfl⟩
        have hqb : q < b.length := by have := HPL.out; omega
        simp only [Nat.mul_one, hq] at hst
        have hd := DBox.made hst hrow hown ⟨1, 0, []⟩
        have hne : kb ≠ wr.heap.size := by have := hst.rd.lt; omega
        obtain ⟨A, cap, rfl, _, _⟩ := hst.rd.val.form
        obtain ⟨ka, oa, rfl, hka, _⟩ := hst.rd.val.cell (i := q) hqb
        have hne2 : ka ≠ wr.heap.size := by omega
        have hbig := hst.rd.val.size.2
        have i1 : (0 : Int) ≤ (k : Int) := by omega
        have i2 : (k : Int) < (m : Int) := by omega
        have i3 : (0 : Int) ≤ (q : Int) := by omega
        have i7 : (m : Int) ≤ 1000 := by have := HPL.out.2; omega
        have i4 : (q : Int) < (b.length : Int) := by omega
        have i5 : (q : Int) + 1 ≤ 140737488351232 := by omega
        have HNK := Lib.hid (HNX.out k hlt)
        rw [hq] at HNK
        have HLK := Lib.hid (And.intro hlt (show q + 1 ≤ b.length by omega))
        have HQ := Lib.hid hq
        have HQB := Lib.hid hqb
        have HC0 : Hid (capOfFlag (byteAt b q) = ⟨if (byteAt b q).toNat = 0 then 0 else if (byteAt b q).toNat = 254 then 2 else 1, 0, []⟩) := Lib.hid (by
          unfold capOfFlag
          have e0 : byteAt b q = 0 ↔ (byteAt b q).toNat = 0 := by rw [← UInt8.toNat_inj]; rfl
          have e1 : byteAt b q = 254 ↔ (byteAt b q).toNat = 254 := by rw [← UInt8.toNat_inj]; rfl
          simp only [e0, e1])
        have HD := Lib.hid hd
        obtain ⟨c0, c1, c2, c3, c4, f0, f1, f2, f3, f4⟩ := HD.out.st.rd.cells
        obtain ⟨z0, z1, z2, z3, z4, z5⟩ := HD.out.cells
        obtain ⟨ka', oa', e, _, hcell⟩ := HD.out.st.rd.val.cell (i := q) HQB.out; injection e with e; injection e with e1 e2; subst e1 e2
        have hown0 := hown
        clear hrow hown hk hst hka hqb hq HR hd
        obtain ⟨x, hxq⟩ : ∃ x, byteAt b q = x := ⟨_, rfl⟩
        rw [hxq] at HNK HC0 hcell
        have HXQ := Lib.hid hxq
        clear hxq
        have HOWN := Lib.hid (show ∀ j, (Value.slice B0 k bc).ownBlock = some j → w.heap.size ≤ j by rw [hlen] at hown0; exact hown0)
        have HLE := Lib.hid hlen
        clear hown0 hlen
        by_cases h0 : x.toNat = 0
        · rw [h0] at HC0
          have hxe : ((x.toNat : Nat) : Int) = 0 := by omega
          rw [hxe] at hcell
          clear h0
          go_wp2
          have hd := HD.out
          clear HD
          change DBox _ (wr.alloc (.cells #[.int .i64 1, .int .i64 0, .string ⟨#[]⟩] 37)) _ _ _ _ _ _ _ _ at hd
          generalize (wr.alloc (.cells #[.int .i64 1, .int .i64 0, .string ⟨#[]⟩] 37)) = w3 at *
          go_quiet (fail)
          have hd2 := hd.below (drewN_below w3 nq)
          clear hd
          clear c0 c1 c2 c3 c4 f0 f1 f2 f3 f4 z0 z1 z2 z3 z4 z5 hcell
          generalize w3.drewN nq = w4 at *
          have hd := hd2
          clear hd2
          obtain ⟨c0, c1, c2, c3, c4, f0, f1, f2, f3, f4⟩ := hd.st.rd.cells
          obtain ⟨z0, z1, z2, z3, z4, z5⟩ := hd.cells
          obtain ⟨ka', oa', e, _, hcell⟩ := hd.st.rd.val.cell (i := q) HQB.out
          injection e with e
          injection e with e1 e2
          subst e1 e2
          rw [HXQ.out] at hcell
          clear nq
          rw [hxe] at hcell
          go_wp2
          have hd2 := hd.set H0.out (j := 0) (x := .int .i64 0) (c' := ⟨0, 0, []⟩) rfl
          clear hd
          clear c0 c1 c2 c3 c4 f0 f1 f2 f3 f4 z0 z1 z2 z3 z4 z5 hcell
          generalize w4.setCell ⟨wr.heap.size, 0, none⟩ (.int .i64 0) = w5 at *
          have hd := hd2
          clear hd2
          obtain ⟨c0, c1, c2, c3, c4, f0, f1, f2, f3, f4⟩ := hd.st.rd.cells
          obtain ⟨z0, z1, z2, z3, z4, z5⟩ := hd.cells
          obtain ⟨ka', oa', e, _, hcell⟩ := hd.st.rd.val.cell (i := q) HQB.out
          injection e with e
          injection e with e1 e2
          subst e1 e2
          rw [HXQ.out] at hcell
          rw [hxe] at hcell
          go_quiet (fail)
          have hd2 := hd.below (drewN_below w5 nq)
          clear hd
          clear c0 c1 c2 c3 c4 f0 f1 f2 f3 f4 z0 z1 z2 z3 z4 z5 hcell
          generalize w5.drewN nq = w6 at *
          have hd := hd2
          clear hd2
          obtain ⟨c0, c1, c2, c3, c4, f0, f1, f2, f3, f4⟩ := hd.st.rd.cells
          obtain ⟨z0, z1, z2, z3, z4, z5⟩ := hd.cells
          obtain ⟨ka', oa', e, _, hcell⟩ := hd.st.rd.val.cell (i := q) HQB.out
          injection e with e
          injection e with e1 e2
          subst e1 e2
          rw [HXQ.out] at hcell
          clear nq
          have HD5 : Hid (DBox w (w6.setCell ⟨kb, 1, none⟩ (.int .i64 ((q : Int) + 1))) kb wr.heap.size _ b _ _ _ _) := Lib.hid (hd.up (d := 1) H0.out HLK.out.2)
          have hx := World.alloc_heap_new (w6.setCell ⟨kb, 1, none⟩ (.int .i64 ((q : Int) + 1))) (.cells #[.int .i64 0, .int .i64 0, str []] 37)
          rw [show (w6.setCell ⟨kb, 1, none⟩ (.int .i64 ((q : Int) + 1))).heap.size = w6.heap.size by simp] at hx
          have HX := Lib.hid (fun j => cell_of_row _ w6.heap.size j _ _ _ hx)
          have HR5 : Hid (CapRow (w6.setCell ⟨kb, 1, none⟩ (.int .i64 ((q : Int) + 1))) (.slice B0 k bc) (l.take k)) := Lib.hid (by have := HD5.out.row; rwa [HLE.out] at this)
          have HS2 : Hid (DStep w kb _ b { s with pos := s.pos + (k + 1) * 1 } ((w6.setCell ⟨kb, 1, none⟩ (.int .i64 ((q : Int) + 1))).alloc (.cells #[.int .i64 0, .int .i64 0, str []] 37))) := Lib.hid (by rw [show s.pos + (k + 1) * 1 = q + 1 by have := HQ.out; omega]; exact HD5.out.st.next ((Below.refl _ _).alloc (Nat.le_refl _) _))
          clear hx hd hcell
          go_wp2_with (at_builtin; refine wpList_append_cap (by rfl) (.tmp 49) (.tmp 51) (by rfl) (.slice B0 k bc) (l.take k) (by rfl) (own_same HR5.out fun j hj => Below.heap_alloc _ _ _ (own_lt HR5.out j hj).2) ⟨0, 0, []⟩ (by rfl) (HX.out 0) (HX.out 1) (HX.out 2) (by rw [List.length_take]; have := HPL.out; have := HLK.out; omega) ?_; intro v' w' hr' hg' hv'; have H1 := Lib.hid hr'; have H2 := Lib.hid hg'; have H3 := Lib.hid hv'; clear hr' hg' hv')
          go_roundw
          case rel => exact DCapsR.next H0.out HLK.out.1 HOWN.out (HNK.out.trans (congrArg (fun z => l.take k ++ [z]) HC0.out)) HS2.out H1.out H2.out H3.out
          case measure => have := HLK.out.1; simp [RowKit.intOf]; omega
        · by_cases h1 : x.toNat = 254
          · rw [h1] at HC0
            have hxe : ((x.toNat : Nat) : Int) = 254 := by omega
            rw [hxe] at hcell
            clear h0 h1
            go_wp2
            have hd := HD.out
            clear HD
            change DBox _ (wr.alloc (.cells #[.int .i64 1, .int .i64 0, .string ⟨#[]⟩] 37)) _ _ _ _ _ _ _ _ at hd
            generalize (wr.alloc (.cells #[.int .i64 1, .int .i64 0, .string ⟨#[]⟩] 37)) = w3 at *
            go_quiet (fail)
            have hd2 := hd.below (drewN_below w3 nq)
            clear hd
            clear c0 c1 c2 c3 c4 f0 f1 f2 f3 f4 z0 z1 z2 z3 z4 z5 hcell
            generalize w3.drewN nq = w4 at *
            have hd := hd2
            clear hd2
            obtain ⟨c0, c1, c2, c3, c4, f0, f1, f2, f3, f4⟩ := hd.st.rd.cells
            obtain ⟨z0, z1, z2, z3, z4, z5⟩ := hd.cells
            obtain ⟨ka', oa', e, _, hcell⟩ := hd.st.rd.val.cell (i := q) HQB.out
            injection e with e
            injection e with e1 e2
            subst e1 e2
            rw [HXQ.out] at hcell
            clear nq
            rw [hxe] at hcell
            go_wp2
            go_quiet (fail)
            have hd2 := hd.below (drewN_below w4 nq)
            clear hd
            clear c0 c1 c2 c3 c4 f0 f1 f2 f3 f4 z0 z1 z2 z3 z4 z5 hcell
            generalize w4.drewN nq = w5 at *
            have hd := hd2
            clear hd2
            obtain ⟨c0, c1, c2, c3, c4, f0, f1, f2, f3, f4⟩ := hd.st.rd.cells
            obtain ⟨z0, z1, z2, z3, z4, z5⟩ := hd.cells
            obtain ⟨ka', oa', e, _, hcell⟩ := hd.st.rd.val.cell (i := q) HQB.out
            injection e with e
            injection e with e1 e2
            subst e1 e2
            rw [HXQ.out] at hcell
            clear nq
            have hd2 := hd.set H0.out (j := 0) (x := .int .i64 2) (c' := ⟨2, 0, []⟩) rfl
            clear hd
            have hd := hd2
            clear hd2
            have HD5 : Hid (DBox w ((w5.setCell ⟨wr.heap.size, 0, none⟩ (.int .i64 2)).setCell ⟨kb, 1, none⟩ (.int .i64 ((q : Int) + 1))) kb wr.heap.size _ b _ _ _ _) := Lib.hid (hd.up (d := 1) H0.out HLK.out.2)
            have hx := World.alloc_heap_new ((w5.setCell ⟨wr.heap.size, 0, none⟩ (.int .i64 2)).setCell ⟨kb, 1, none⟩ (.int .i64 ((q : Int) + 1))) (.cells #[.int .i64 2, .int .i64 0, str []] 37)
            rw [show ((w5.setCell ⟨wr.heap.size, 0, none⟩ (.int .i64 2)).setCell ⟨kb, 1, none⟩ (.int .i64 ((q : Int) + 1))).heap.size = w5.heap.size by simp] at hx
            have HX := Lib.hid (fun j => cell_of_row _ w5.heap.size j _ _ _ hx)
            have HR5 : Hid (CapRow ((w5.setCell ⟨wr.heap.size, 0, none⟩ (.int .i64 2)).setCell ⟨kb, 1, none⟩ (.int .i64 ((q : Int) + 1))) (.slice B0 k bc) (l.take k)) := Lib.hid (by have := HD5.out.row; rwa [HLE.out] at this)
            have HS2 : Hid (DStep w kb _ b { s with pos := s.pos + (k + 1) * 1 } (((w5.setCell ⟨wr.heap.size, 0, none⟩ (.int .i64 2)).setCell ⟨kb, 1, none⟩ (.int .i64 ((q : Int) + 1))).alloc (.cells #[.int .i64 2, .int .i64 0, str []] 37))) := Lib.hid (by rw [show s.pos + (k + 1) * 1 = q + 1 by have := HQ.out; omega]; exact HD5.out.st.next ((Below.refl _ _).alloc (Nat.le_refl _) _))
            clear hx hd hcell
            go_wp2_with (at_builtin; refine wpList_append_cap (by rfl) (.tmp 49) (.tmp 51) (by rfl) (.slice B0 k bc) (l.take k) (by rfl) (own_same HR5.out fun j hj => Below.heap_alloc _ _ _ (own_lt HR5.out j hj).2) ⟨2, 0, []⟩ (by rfl) (HX.out 0) (HX.out 1) (HX.out 2) (by rw [List.length_take]; have := HPL.out; have := HLK.out; omega) ?_; intro v' w' hr' hg' hv'; have H1 := Lib.hid hr'; have H2 := Lib.hid hg'; have H3 := Lib.hid hv'; clear hr' hg' hv')
            go_roundw
            case rel => exact DCapsR.next H0.out HLK.out.1 HOWN.out (HNK.out.trans (congrArg (fun z => l.take k ++ [z]) HC0.out)) HS2.out H1.out H2.out H3.out
            case measure => have := HLK.out.1; simp [RowKit.intOf]; omega
          · rw [if_neg h0, if_neg h1] at HC0
            have hx0 : (((x.toNat : Nat) : Int) == 0) = false := by simp; omega
            have hx1 : (((x.toNat : Nat) : Int) == 254) = false := by simp; omega
            clear h0 h1
            go_wp2
            have hd := HD.out
            clear HD
            change DBox _ (wr.alloc (.cells #[.int .i64 1, .int .i64 0, .string ⟨#[]⟩] 37)) _ _ _ _ _ _ _ _ at hd
            generalize (wr.alloc (.cells #[.int .i64 1, .int .i64 0, .string ⟨#[]⟩] 37)) = w3 at *
            go_quiet (fail)
            have hd2 := hd.below (drewN_below w3 nq)
            clear hd
            clear c0 c1 c2 c3 c4 f0 f1 f2 f3 f4 z0 z1 z2 z3 z4 z5 hcell
            generalize w3.drewN nq = w4 at *
            have hd := hd2
            clear hd2
            obtain ⟨c0, c1, c2, c3, c4, f0, f1, f2, f3, f4⟩ := hd.st.rd.cells
            obtain ⟨z0, z1, z2, z3, z4, z5⟩ := hd.cells
            obtain ⟨ka', oa', e, _, hcell⟩ := hd.st.rd.val.cell (i := q) HQB.out
            injection e with e
            injection e with e1 e2
            subst e1 e2
            rw [HXQ.out] at hcell
            clear nq
            go_wp2
            go_quiet (fail)
            have hd2 := hd.below (drewN_below w4 nq)
            clear hd
            clear c0 c1 c2 c3 c4 f0 f1 f2 f3 f4 z0 z1 z2 z3 z4 z5 hcell
            generalize w4.drewN nq = w5 at *
            have hd := hd2
            clear hd2
            obtain ⟨c0, c1, c2, c3, c4, f0, f1, f2, f3, f4⟩ := hd.st.rd.cells
            obtain ⟨z0, z1, z2, z3, z4, z5⟩ := hd.cells
            obtain ⟨ka', oa', e, _, hcell⟩ := hd.st.rd.val.cell (i := q) HQB.out
            injection e with e
            injection e with e1 e2
            subst e1 e2
            rw [HXQ.out] at hcell
            clear nq
            have HD5 : Hid (DBox w (w5.setCell ⟨kb, 1, none⟩ (.int .i64 ((q : Int) + 1))) kb wr.heap.size _ b _ _ _ _) := Lib.hid (hd.up (d := 1) H0.out HLK.out.2)
            have hx := World.alloc_heap_new (w5.setCell ⟨kb, 1, none⟩ (.int .i64 ((q : Int) + 1))) (.cells #[.int .i64 1, .int .i64 0, str []] 37)
            rw [show (w5.setCell ⟨kb, 1, none⟩ (.int .i64 ((q : Int) + 1))).heap.size = w5.heap.size by simp] at hx
            have HX := Lib.hid (fun j => cell_of_row _ w5.heap.size j _ _ _ hx)
            have HR5 : Hid (CapRow (w5.setCell ⟨kb, 1, none⟩ (.int .i64 ((q : Int) + 1))) (.slice B0 k bc) (l.take k)) := Lib.hid (by have := HD5.out.row; rwa [HLE.out] at this)
            have HS2 : Hid (DStep w kb _ b { s with pos := s.pos + (k + 1) * 1 } ((w5.setCell ⟨kb, 1, none⟩ (.int .i64 ((q : Int) + 1))).alloc (.cells #[.int .i64 1, .int .i64 0, str []] 37))) := Lib.hid (by rw [show s.pos + (k + 1) * 1 = q + 1 by have := HQ.out; omega]; exact HD5.out.st.next ((Below.refl _ _).alloc (Nat.le_refl _) _))
            clear hx hd hcell
            go_wp2_with (at_builtin; refine wpList_append_cap (by rfl) (.tmp 49) (.tmp 51) (by rfl) (.slice B0 k bc) (l.take k) (by rfl) (own_same HR5.out fun j hj => Below.heap_alloc _ _ _ (own_lt HR5.out j hj).2) ⟨1, 0, []⟩ (by rfl) (HX.out 0) (HX.out 1) (HX.out 2) (by rw [List.length_take]; have := HPL.out; have := HLK.out; omega) ?_; intro v' w' hr' hg' hv'; have H1 := Lib.hid hr'; have H2 := Lib.hid hg'; have H3 := Lib.hid hv'; clear hr' hg' hv')
            go_roundw
            case rel => exact DCapsR.next H0.out HLK.out.1 HOWN.out (HNK.out.trans (congrArg (fun z => l.take k ++ [z]) HC0.out)) HS2.out H1.out H2.out H3.out
            case measure => have := HLK.out.1; simp [RowKit.intOf]; omega
      · obtain rfl : m = k := by omega
        have hall : l.take m = l := List.take_of_length_le (by rw [HLL.out]; exact Nat.le_refl _)
        rw [hall] at HR
        clear hall hrow hown hlen hk hst
        go_wp2_with fail
        go_ret
        exact ⟨_, rfl, HR.out.1, HR.out.2.1, by have := HR.out.2.2; rwa [Nat.mul_one] at this⟩
end

section
open Go.RowKit Go.Shelf Go.Lib
attribute [local go_sem] Oper.semAt_some

theorem DrAt.big {W : World} {kb : Nat} {v : Value} {b : List UInt8} {s : RS} (h : DrAt W kb v b s) : b.length ≤ 140737488351232 := by
  obtain ⟨A, cap, rfl, _, _⟩ := h.val.form
  exact h.val.size.2
theorem row_kb {w W W' : World} {kb : Nat} {v : Value} {b : List UInt8} {s0 : RS} {u : Value} {l : List CapD} (hr : CapRow W u l) (ho : ∀ j, u.ownBlock = some j → w.heap.size ≤ j) (h0 : DrAt w kb v b s0) (ht : Touch (fun k => k = kb) W W') : CapRow W' u l :=
  own_same hr fun j hj => ht.block j (own_lt hr j hj).2 (by have := ho j hj; have := h0.lt; omega)
theorem wrap_u16 (n : Int) : IntKind.u16.wrap n = n % 65536 := by
  simp [IntKind.wrap, IntKind.bits, IntKind.signed]
theorem u16_short2 (x y : UInt8) : IntKind.u16.wrap (short2 x y) = (x.toNat : Int) + (y.toNat : Int) * 256 := by
  have hx := x.toNat_lt
  have hy := y.toNat_lt
  rw [wrap_u16]
  unfold short2
  split <;> omega
theorem wide_val (x y z u : UInt8) : wrap64 (wrap32 (bits .or .u32 (IntKind.u16.wrap (short2 x y) % 4294967296) (IntKind.u16.wrap (short2 z u) % 4294967296 * 65536 % 4294967296))) = int4 x y z u := by
  have hx := x.toNat_lt
  have hy := y.toNat_lt
  have hz := z.toNat_lt
  have hu := u.toNat_lt
  rw [u16_short2, u16_short2]
  rw [show ((x.toNat : Int) + (y.toNat : Int) * 256) % 4294967296 = (x.toNat : Int) + (y.toNat : Int) * 256 by omega, show ((z.toNat : Int) + (u.toNat : Int) * 256) % 4294967296 * 65536 % 4294967296 = ((z.toNat : Int) + (u.toNat : Int) * 256) * 65536 by omega]
  rw [u32_or16 ((x.toNat : Int) + (y.toNat : Int) * 256) (((z.toNat : Int) + (u.toNat : Int) * 256) * 65536) (by omega) (by omega) (by omega) (by omega) (by omega)]
  unfold int4 wrap32
  split
  · rw [IntWalk.wrap64_in _ (by constructor <;> omega)]; omega
  · rw [IntWalk.wrap64_in _ (by constructor <;> omega)]; omega
theorem wide_at (b : List UInt8) (q : Nat) : wrap64 (wrap32 (bits .or .u32 (IntKind.u16.wrap (shortAt b q) % 4294967296) (IntKind.u16.wrap (shortAt b (q + 2)) % 4294967296 * 65536 % 4294967296))) = wideAt b q := wide_val _ _ _ _
def DNumsPost (w : World) (kb : Nat) (v : Value) (b : List UInt8) (s : RS) (n : Int) : Ending → World → Prop :=
  DCapsPost w kb v b (skipS b.length s (n * (sizeOf s.wide : Nat))) (if needB b.length s (n * (sizeOf s.wide : Nat)) then (numsAt s.wide b s.pos n.toNat).map capOfNum else [])
set_option maxRecDepth 100000 in
set_option maxHeartbeats 4000000 in
theorem dnums2_any (w : World) (kb : Nat) (v : Value) (b : List UInt8) (s : RS) (n : Int) (hw : s.wide = false) (h : DrAt w kb v b s) (hn : -100000 ≤ n) (hn2 : n ≤ 100000) (hn3 : s.e = 0 → 0 ≤ n ∧ n ≤ 1000) :
    Calls Tryz.prog 77 #[.pointer (some ⟨kb, 0, none⟩), .int .i64 n] w (DNumsPost w kb v b s n) := by
  unfold DNumsPost
  rw [hw, show ((sizeOf false : Nat) : Int) = 2 from rfl]
  obtain ⟨c0, c1, c2, c3, c4, f0, f1, f2, f3, f4⟩ := h.cells
  rw [hw] at c4
  have HW := Lib.hid hw
  have CN := Lib.hid (dneed_any w kb v b s (n * 2) h (by omega) (by omega))
  cases hok : needB b.length s (n * 2) with
  | false =>
    rw [hok] at CN
    rw [skipS_not hok, if_neg (by decide)]
    clear h hok
    go_enter Tryz.func77, Tryz.ntmps77
    go_wp2_with (go_at_call 80; (refine (CN.out).mono ?_); rintro e w1 ⟨rfl, hs⟩; have H1 := Lib.hid hs; clear hs)
    go_ret
    exact DCapsPost.nil H1.out
  | true =>
    rw [hok, needS_of hok] at CN
    rw [skipS_need hok, if_pos rfl]
    have hb0 : s.e = 0 ∧ (s.pos : Int) + n * 2 ≤ (b.length : Int) := by unfold needB at hok; simpa using hok
    obtain ⟨m, rfl⟩ : ∃ m : Nat, n = m := ⟨n.toNat, by have := hn3 hb0.1; omega⟩
    rw [Int.toNat_natCast, show ((m : Int) * 2).toNat = m * 2 by omega]
    have hm : m ≤ 1000 := by have := hn3 hb0.1; omega
    have hpl : s.pos + m * 2 ≤ b.length := by omega
    have H0 := Lib.hid h
    have HPL := Lib.hid (And.intro hpl hm)
    clear h hok hn hn2 hn3 hb0 hw
    go_enter Tryz.func77, Tryz.ntmps77
    go_wp2_with (go_at_call 80; (refine (CN.out).mono ?_); rintro e w1 ⟨rfl, hs⟩; have H1 := Lib.hid hs; clear hs)
    generalize hl0 : numsAt false b s.pos m = l0 at *
    generalize hl : l0.map capOfNum = l at *
    have HNX : Hid (∀ k, k < m → l.take (k + 1) = l.take k ++ [capOfNum (numAt false b (s.pos + 2 * k))]) := Lib.hid (fun k hk => by
      rw [← hl, ← hl0, ← List.map_take, ← List.map_take, numsAt_take false b s.pos m k hk, List.map_append]
      rfl)
    have HLL : Hid (l.length = m) := Lib.hid (by rw [← hl, ← hl0, List.length_map]; exact numsAt_length _ _ _ _)
    have HI := Lib.hid (show DCapsR w kb v b s l 2 m (.slice none 0 0) (.int .i64 0) w1 from ⟨0, rfl, Nat.zero_le _, World.ownsRow_nil _ _ _ _, (fun j hj => by cases hj), by rw [Nat.zero_mul, Nat.add_zero]; exact H1.out⟩)
    clear hl hl0 hpl c0 c1 c2 c3 c4 f0 f1 f2 f3 f4 hm
    go_loopw [5, 7] (fun u i wr => DCapsR w kb v b s l 2 m u i wr) (fun _ i _ => m - (RowKit.intOf i).toNat)
    case atStart => exact HI.out
    case round =>
      obtain ⟨k, rfl, hk, hrow, hown, hst⟩ := hrel
      obtain ⟨B0, bc, rfl⟩ := hrow.form
      have HR := Lib.hid (And.intro hrow (And.intro hown hst))
      have hlen : (l.take k).length = k := by rw [List.length_take, HLL.out]; omega
      rw [hlen] at HR ⊢
      by_cases hlt : k < m
      · obtain ⟨q, hq⟩ : ∃ q, s.pos + k * 2 = q := ⟨_, rfl⟩
        have hqb : q + 2 ≤ b.length := by have := HPL.out; omega
        rw [hq] at hst HR
        have hbig := hst.rd.big
        obtain ⟨c0, c1, c2, c3, c4, f0, f1, f2, f3, f4⟩ := hst.rd.cells
        simp only [HW.out] at c4
        have i1 : (0 : Int) ≤ (k : Int) := by omega
        have i2 : (k : Int) < (m : Int) := by omega
        have i3 : (0 : Int) ≤ (q : Int) := by omega
        have i7 : (m : Int) ≤ 1000 := by have := HPL.out.2; omega
        have i5 : (q : Int) + 2 ≤ 140737488351232 := by omega
        have HNK := Lib.hid (HNX.out k hlt)
        rw [show s.pos + 2 * k = q by omega] at HNK
        have HLK := Lib.hid (And.intro hlt hqb)
        have HQ := Lib.hid hq
        have HOWN := Lib.hid (show ∀ j, (Value.slice B0 k bc).ownBlock = some j → w.heap.size ≤ j by rw [hlen] at hown; exact hown)
        have CP : Hid (∀ W, DStep w kb v b { s with pos := q } W → ∀ (z : Int) (d : Nat), z = ((q + d : Nat) : Int) → d + 2 ≤ 2 → Calls Tryz.prog 81 #[.pointer (some ⟨kb, 0, none⟩), .int .i64 z] W fun e w' => e = .returned (.int .i64 (shortAt b (q + d))) ∧ ∃ n, w' = W.drewN n) := Lib.hid fun W hW z d hz hd => dpeek_at W kb v b _ z (q + d) hz hW.rd (by omega)
        have HST := Lib.hid hst
        clear hrow hown hlen hk hqb hq hst
        go_wp2_with (first
          | (go_at_call 81; (refine (CP.out _ HST.out _ 0 (by omega) (by omega)).mono ?_); rintro e w2 ⟨rfl, hs⟩; obtain ⟨N, rfl⟩ := hs)
          | (go_at_call 123; (refine (dcapOf_any _ _).mono ?_); rintro e w3 ⟨rfl, hB⟩
             have hS3 : DStep wr kb v b { s with pos := q + 2 } w3 := by
               have := ((HST.out.rd.step.next (drewN_below wr N)).setPos (q + 2) HLK.out.2)
               rw [Int.natCast_add] at this
               exact this.next hB
             have hr3 := row_kb HR.out.1 HOWN.out H0.out hS3.ht
             have hx := World.alloc_heap_new w3 (.cells #[.int .i64 (capOfNum (shortAt b (q + 0))).st, .int .i64 (capOfNum (shortAt b (q + 0))).num, str (capOfNum (shortAt b (q + 0))).text] 37)
             have HX := Lib.hid (fun j => cell_of_row _ w3.heap.size j _ _ _ hx)
             have HR3 := Lib.hid hr3
             have HS3 := Lib.hid hS3
             clear hx hr3 hS3 hB c0 c1 c2 c3 c4 f0 f1 f2 f3 f4)
          | (at_builtin; refine wpList_append_cap (by rfl) (.tmp 63) (.tmp 66) (by rfl) (.slice B0 k bc) (l.take k) (by rfl) (own_same HR3.out fun j hj => Below.heap_alloc _ _ _ (own_lt HR3.out j hj).2) (capOfNum (shortAt b (q + 0))) (by rfl) (HX.out 0) (HX.out 1) (HX.out 2) (by rw [List.length_take]; have := HPL.out; have := HLK.out; omega) ?_; intro v' w' hr' hg' hv'; have G1 := Lib.hid hr'; have G2 := Lib.hid hg'; have G3 := Lib.hid hv'; clear hr' hg' hv'))
        go_roundw
        case rel => exact DCapsR.next H0.out HLK.out.1 HOWN.out HNK.out (by rw [show s.pos + (k + 1) * 2 = q + 2 by have := HQ.out; omega]; exact (HST.out.trans HS3.out).next ((Below.refl _ _).alloc (Nat.le_refl _) _)) G1.out G2.out G3.out
        case measure => have := HLK.out.1; simp [RowKit.intOf]; omega
      · obtain rfl : m = k := by omega
        have hall : l.take m = l := List.take_of_length_le (by rw [HLL.out]; exact Nat.le_refl _)
        rw [hall] at HR
        clear hall hrow hown hlen hk hst
        go_wp2_with fail
        go_ret
        exact ⟨_, rfl, HR.out.1, HR.out.2.1, HR.out.2.2⟩
set_option maxRecDepth 100000 in
set_option maxHeartbeats 4000000 in
theorem dnums4_any (w : World) (kb : Nat) (v : Value) (b : List UInt8) (s : RS) (n : Int) (hw : s.wide = true) (h : DrAt w kb v b s) (hn : -100000 ≤ n) (hn2 : n ≤ 100000) (hn3 : s.e = 0 → 0 ≤ n ∧ n ≤ 1000) :
    Calls Tryz.prog 77 #[.pointer (some ⟨kb, 0, none⟩), .int .i64 n] w (DNumsPost w kb v b s n) := by
  unfold DNumsPost
  rw [hw, show ((sizeOf true : Nat) : Int) = 4 from rfl]
  obtain ⟨c0, c1, c2, c3, c4, f0, f1, f2, f3, f4⟩ := h.cells
  rw [hw] at c4
  have HW := Lib.hid hw
  have CN := Lib.hid (dneed_any w kb v b s (n * 4) h (by omega) (by omega))
  cases hok : needB b.length s (n * 4) with
  | false =>
    rw [hok] at CN
    rw [skipS_not hok, if_neg (by decide)]
    clear h hok
    go_enter Tryz.func77, Tryz.ntmps77
    go_wp2_with (go_at_call 80; (refine (CN.out).mono ?_); rintro e w1 ⟨rfl, hs⟩; have H1 := Lib.hid hs; clear hs)
    go_ret
    exact DCapsPost.nil H1.out
  | true =>
    rw [hok, needS_of hok] at CN
    rw [skipS_need hok, if_pos rfl]
    have hb0 : s.e = 0 ∧ (s.pos : Int) + n * 4 ≤ (b.length : Int) := by unfold needB at hok; simpa using hok
    obtain ⟨m, rfl⟩ : ∃ m : Nat, n = m := ⟨n.toNat, by have := hn3 hb0.1; omega⟩
    rw [Int.toNat_natCast, show ((m : Int) * 4).toNat = m * 4 by omega]
    have hm : m ≤ 1000 := by have := hn3 hb0.1; omega
    have hpl : s.pos + m * 4 ≤ b.length := by omega
    have H0 := Lib.hid h
    have HPL := Lib.hid (And.intro hpl hm)
    clear h hok hn hn2 hn3 hb0 hw
    go_enter Tryz.func77, Tryz.ntmps77
    go_wp2_with (go_at_call 80; (refine (CN.out).mono ?_); rintro e w1 ⟨rfl, hs⟩; have H1 := Lib.hid hs; clear hs)
    generalize hl0 : numsAt true b s.pos m = l0 at *
    generalize hl : l0.map capOfNum = l at *
    have HNX : Hid (∀ k, k < m → l.take (k + 1) = l.take k ++ [capOfNum (numAt true b (s.pos + 4 * k))]) := Lib.hid (fun k hk => by
      rw [← hl, ← hl0, ← List.map_take, ← List.map_take, numsAt_take true b s.pos m k hk, List.map_append]
      rfl)
    have HLL : Hid (l.length = m) := Lib.hid (by rw [← hl, ← hl0, List.length_map]; exact numsAt_length _ _ _ _)
    have HI := Lib.hid (show DCapsR w kb v b s l 4 m (.slice none 0 0) (.int .i64 0) w1 from ⟨0, rfl, Nat.zero_le _, World.ownsRow_nil _ _ _ _, (fun j hj => by cases hj), by rw [Nat.zero_mul, Nat.add_zero]; exact H1.out⟩)
    clear hl hl0 hpl c0 c1 c2 c3 c4 f0 f1 f2 f3 f4 hm
    go_loopw [5, 7] (fun u i wr => DCapsR w kb v b s l 4 m u i wr) (fun _ i _ => m - (RowKit.intOf i).toNat)
    case atStart => exact HI.out
    case round =>
      obtain ⟨k, rfl, hk, hrow, hown, hst⟩ := hrel
      obtain ⟨B0, bc, rfl⟩ := hrow.form
      have HR := Lib.hid (And.intro hrow (And.intro hown hst))
      have hlen : (l.take k).length = k := by rw [List.length_take, HLL.out]; omega
      rw [hlen] at HR ⊢
      by_cases hlt : k < m
      · obtain ⟨q, hq⟩ : ∃ q, s.pos + k * 4 = q := ⟨_, rfl⟩
        have hqb : q + 4 ≤ b.length := by have := HPL.out; omega
        rw [hq] at hst HR
        have hbig := hst.rd.big
        obtain ⟨c0, c1, c2, c3, c4, f0, f1, f2, f3, f4⟩ := hst.rd.cells
        simp only [HW.out] at c4
        have i1 : (0 : Int) ≤ (k : Int) := by omega
        have i2 : (k : Int) < (m : Int) := by omega
        have i3 : (0 : Int) ≤ (q : Int) := by omega
        have i7 : (m : Int) ≤ 1000 := by have := HPL.out.2; omega
        have i5 : (q : Int) + 4 ≤ 140737488351232 := by omega
        have HNK := Lib.hid (HNX.out k hlt)
        rw [show s.pos + 4 * k = q by omega] at HNK
        have HLK := Lib.hid (And.intro hlt hqb)
        have HQ := Lib.hid hq
        have HOWN := Lib.hid (show ∀ j, (Value.slice B0 k bc).ownBlock = some j → w.heap.size ≤ j by rw [hlen] at hown; exact hown)
        have CP : Hid (∀ W, DStep w kb v b { s with pos := q } W → ∀ (z : Int) (d : Nat), z = ((q + d : Nat) : Int) → d + 2 ≤ 4 → Calls Tryz.prog 81 #[.pointer (some ⟨kb, 0, none⟩), .int .i64 z] W fun e w' => e = .returned (.int .i64 (shortAt b (q + d))) ∧ ∃ n, w' = W.drewN n) := Lib.hid fun W hW z d hz hd => dpeek_at W kb v b _ z (q + d) hz hW.rd (by omega)
        have HST := Lib.hid hst
        clear hrow hown hlen hk hqb hq hst
        go_wp2_with (go_at_call 81; (refine (CP.out _ HST.out _ 0 (by omega) (by omega)).mono ?_); rintro e w2 ⟨rfl, hs⟩; obtain ⟨N, rfl⟩ := hs)
        have hst2 := HST.out.next (drewN_below wr N)
        have htt := (touch_drewN (fun k => k = kb) wr N)
        generalize hz : shortAt b (q + 0) = z0 at *
        clear c0 c1 c2 c3 c4 f0 f1 f2 f3 f4
        generalize wr.drewN N = w2 at *
        obtain ⟨c0, c1, c2, c3, c4, f0, f1, f2, f3, f4⟩ := hst2.rd.cells
        simp only [HW.out] at c4
        have HS2 := Lib.hid hst2
        have HTT := Lib.hid htt
        clear hst2 htt
        go_quiet ((go_at_call 81; first
          | exact Calls.quiet_of (CP.out _ (HS2.out.next (drewN_below _ _)) _ 0 (by omega) (by omega))
          | exact Calls.quiet_of (CP.out _ (HS2.out.next (drewN_below _ _)) _ 2 (by omega) (by omega))))
        have HS4 := Lib.hid (HS2.out.next (drewN_below w2 nq))
        have HR44 := Lib.hid (HTT.out.trans (touch_drewN (fun k => k = kb) w2 nq))
        clear c0 c1 c2 c3 c4 f0 f1 f2 f3 f4
        rw [wide_at b q]
        generalize w2.drewN nq = w4 at *
        obtain ⟨c0, c1, c2, c3, c4, f0, f1, f2, f3, f4⟩ := HS4.out.rd.cells
        have HZ := Lib.hid (show numAt true b q = wideAt b q from rfl)
        have HR4 := Lib.hid (row_kb HR.out.1 HOWN.out H0.out HR44.out)
        go_wp2_with (first
          | (go_at_call 123; (refine (dcapOf_any _ _).mono ?_); rintro e w3 ⟨rfl, hB⟩
             have hS3 : DStep w4 kb v b { s with pos := q + 4 } w3 := by
               have := (HS4.out.rd.step.setPos (q + 4) HLK.out.2)
               rw [Int.natCast_add] at this
               exact this.next hB
             have hr3 := row_kb HR4.out HOWN.out H0.out hS3.ht
             have hx := World.alloc_heap_new w3 (.cells #[.int .i64 (capOfNum (wideAt b q)).st, .int .i64 (capOfNum (wideAt b q)).num, str (capOfNum (wideAt b q)).text] 37)
             have HX := Lib.hid (fun j => cell_of_row _ w3.heap.size j _ _ _ hx)
             have HR3 := Lib.hid hr3
             have HS3 := Lib.hid hS3
             clear hx hr3 hS3 hB c0 c1 c2 c3 c4 f0 f1 f2 f3 f4)
          | (at_builtin; refine wpList_append_cap (by rfl) (.tmp 63) (.tmp 66) (by rfl) (.slice B0 k bc) (l.take k) (by rfl) (own_same HR3.out fun j hj => Below.heap_alloc _ _ _ (own_lt HR3.out j hj).2) (capOfNum (wideAt b q)) (by rfl) (HX.out 0) (HX.out 1) (HX.out 2) (by rw [List.length_take]; have := HPL.out; have := HLK.out; omega) ?_; intro v' w' hr' hg' hv'; have G1 := Lib.hid hr'; have G2 := Lib.hid hg'; have G3 := Lib.hid hv'; clear hr' hg' hv'))
        go_roundw
        case rel => exact DCapsR.next H0.out HLK.out.1 HOWN.out (HNK.out.trans (by rw [HZ.out])) (by rw [show s.pos + (k + 1) * 4 = q + 4 by have := HQ.out; omega]; exact (HS4.out.trans HS3.out).next ((Below.refl _ _).alloc (Nat.le_refl _) _)) G1.out G2.out G3.out
        case measure => have := HLK.out.1; simp [RowKit.intOf]; omega
      · obtain rfl : m = k := by omega
        have hall : l.take m = l := List.take_of_length_le (by rw [HLL.out]; exact Nat.le_refl _)
        rw [hall] at HR
        clear hall hrow hown hlen hk hst
        go_wp2_with fail
        go_ret
        exact ⟨_, rfl, HR.out.1, HR.out.2.1, HR.out.2.2⟩
theorem dnums_any (w : World) (kb : Nat) (v : Value) (b : List UInt8) (s : RS) (n : Int) (h : DrAt w kb v b s) (hn : -100000 ≤ n) (hn2 : n ≤ 100000) (hn3 : s.e = 0 → 0 ≤ n ∧ n ≤ 1000) :
    Calls Tryz.prog 77 #[.pointer (some ⟨kb, 0, none⟩), .int .i64 n] w (DNumsPost w kb v b s n) := by
  cases hw : s.wide with
  | false => exact dnums2_any w kb v b s n hw h hn hn2 hn3
  | true => exact dnums4_any w kb v b s n hw h hn hn2 hn3
end

section
open Go.RowKit Go.Shelf Go.Lib
attribute [local go_sem] Oper.semAt_some

theorem part_str (l : List UInt8) (p n : Nat) : (⟨l.toArray⟩ : ByteArray).extract p (p + n) = ⟨((l.drop p).take n).toArray⟩ := by
  apply ByteArray.ext
  rw [ByteArray.data_extract]
  simp [List.take_drop]
theorem textP_out {tab : List UInt8} {k : Nat} (h : ¬ k < tab.length) : textP tab k = none := by
  unfold textP
  by_cases h2 : (tab.length : Int) < k
  · rw [if_pos (.inr h2)]
  · rw [if_neg (by omega)]
    have e : k = tab.length := by omega
    subst e
    simp
set_option maxRecDepth 100000 in
theorem dtext_any (w : World) (tab : List UInt8) (k : Nat) (hb : tab.length ≤ 4000000) :
    Calls Tryz.prog 82 #[str tab, .int .i64 k] w (TextPost w (textP tab k)) := by
  have i0 : (0 : Int) ≤ (k : Int) := by omega
  by_cases hk : k < tab.length
  · have hdr := drop_str tab k
    have CI := Lib.hid (fun W => indexByte_any (tab.drop k) W)
    have i1 : (k : Int) < (tab.length : Int) := by omega
    rcases indexByte_isT (l := tab.drop k) with ⟨i, hi, hil⟩ | hi
    · rw [textP_at (by omega) hi]
      rw [hi] at CI
      rw [List.length_drop] at hil
      have hps := part_str tab k i
      have i2 : (0 : Int) ≤ (i : Int) := by omega
      have i3 : (k : Int) + (i : Int) ≤ (tab.length : Int) := by omega
      have i4 : (k : Int) ≤ (k : Int) + (i : Int) := by omega
      have i5 : IntKind.i64.wrap ((k : Int) + (i : Int)) = (k : Int) + (i : Int) := IntWalk.i64_in _ (by omega)
      have i6 : ((k : Int) + (i : Int)).toNat = k + i := by omega
      by_cases hbig : i ≤ 1000
      · rw [if_pos hbig]
        have i7 : ¬ (1000 : Int) < (i : Int) := by omega
        clear hi hil hbig
        go_enter Tryz.func82, Tryz.ntmps82
        go_wp2_with (go_at_call 78; refine (CI.out _).mono ?_; rintro e w' ⟨rfl, rfl⟩)
        go_ret2
        exact ⟨rfl, Below.refl _ _⟩
      · rw [if_neg hbig]
        have i7 : (1000 : Int) < (i : Int) := by omega
        clear hi hil hbig
        go_enter Tryz.func82, Tryz.ntmps82
        go_wp2_with (go_at_call 78; refine (CI.out _).mono ?_; rintro e w' ⟨rfl, rfl⟩)
        go_ret2
        exact ⟨rfl, Below.refl _ _⟩
    · rw [textP_open (by omega) hi]
      rw [hi] at CI
      clear hi
      go_enter Tryz.func82, Tryz.ntmps82
      go_wp2_with (go_at_call 78; refine (CI.out _).mono ?_; rintro e w' ⟨rfl, rfl⟩)
      go_ret2
      exact ⟨rfl, Below.refl _ _⟩
  · rw [textP_out hk]
    have i1 : ¬ (k : Int) < (tab.length : Int) := by omega
    clear hk
    go_enter Tryz.func82, Tryz.ntmps82
    go_wp2
    go_ret2
    exact ⟨rfl, Below.refl _ _⟩
end

section
open Go.RowKit Go.Shelf Go.Lib
attribute [local go_sem] Oper.semAt_some

/-- behind n shorts -/
def headS (len : Nat) (s : RS) : Nat → RS
  | 0 => s
  | n + 1 => skipS len (headS len s n) 2
/-- what n shorts are -/
def headL (b : List UInt8) (s : RS) (n : Nat) : List Int := (List.range n).map fun i => if needB b.length (headS b.length s i) 2 then shortAt b (headS b.length s i).pos else 0
theorem headL_next (b : List UInt8) (s : RS) (n : Nat) : headL b s (n + 1) = headL b s n ++ [if needB b.length (headS b.length s n) 2 then shortAt b (headS b.length s n).pos else 0] := by
  unfold headL
  rw [List.range_succ, List.map_append]
  rfl
theorem headL_length (b : List UInt8) (s : RS) (n : Nat) : (headL b s n).length = n := by unfold headL; simp
theorem headS_ok {len : Nat} {s : RS} (h : s.e = 0) : ∀ n, s.pos + 2 * n ≤ len → headS len s n = { s with pos := s.pos + 2 * n }
  | 0, _ => rfl
  | n + 1, hl => by
    unfold headS
    rw [headS_ok h n (by omega)]
    have := skipS_ok (len := len) (s := { s with pos := s.pos + 2 * n }) (n := 2) h (by simp only; omega)
    rw [show ((2 : Nat) : Int) = 2 from rfl] at this
    rw [this]
    simp only [Nat.mul_add, Nat.mul_one, Nat.add_assoc]
theorem headL_ok {b : List UInt8} {s : RS} (h : s.e = 0) (n : Nat) (hl : s.pos + 2 * n ≤ b.length) : headL b s n = shortsAt b s.pos n := by
  unfold headL shortsAt numsAt
  apply List.map_congr_left
  intro i hi
  have hi := List.mem_range.1 hi
  rw [headS_ok h i (by omega)]
  unfold needB
  simp only [h]
  have : ((s.pos + 2 * i : Nat) : Int) + 2 ≤ (b.length : Int) := by omega
  simp only [decide_true, Bool.true_and, this, if_true]
  rfl
theorem headS_ends {len : Nat} {s : RS} (h : s.e = 0) (hp : s.pos ≤ len) : ∀ n, len < s.pos + 2 * n → Ends len (headS len s n)
  | 0, hl => by omega
  | n + 1, hl => by
    unfold headS
    rcases Nat.lt_or_ge len (s.pos + 2 * n) with h1 | h1
    · exact (headS_ends h hp n h1).skip
    · rw [headS_ok h n h1]
      have := skipS_bad (len := len) (s := { s with pos := s.pos + 2 * n }) (n := 2) h (by simp only; omega)
      rw [show ((2 : Nat) : Int) = 2 from rfl] at this
      rw [this]
      exact ⟨rfl, rfl⟩
/-- behind the five counts -/
def DHeadPost (w : World) (kb : Nat) (v : Value) (b : List UInt8) (s : RS) (e : Ending) (w' : World) : Prop :=
  ∃ u, e = .returned (.tuple #[u, .int .i64 s.pos]) ∧ IntRow w' u (headL b s 5) ∧ (∀ k, u.ownBlock = some k → w.heap.size ≤ k) ∧ DStep w kb v b (headS b.length s 5) w'
def DHeadR (w : World) (kb : Nat) (v : Value) (b : List UInt8) (s : RS) (u i : Value) (W : World) : Prop :=
  ∃ k : Nat, i = .int .i64 k ∧ k ≤ 5 ∧ IntRow W u (headL b s k) ∧ (∀ j, u.ownBlock = some j → w.heap.size ≤ j) ∧ DStep w kb v b (headS b.length s k) W
theorem DHeadR.next {w : World} {kb : Nat} {v : Value} {b : List UInt8} {s s0 : RS} {W2 W' : World} {u v' : Value} {k : Nat} (h0 : DrAt w kb v b s0) (hk : k < 5) (ho : ∀ j, u.ownBlock = some j → w.heap.size ≤ j)
    (hS : DStep w kb v b (headS b.length s (k + 1)) W2) (hr : IntRow W' v' (headL b s k ++ [if needB b.length (headS b.length s k) 2 then shortAt b (headS b.length s k).pos else 0])) (hg : W2.grownBy W' u.ownBlock) (hv : v'.ownBlock = u.ownBlock ∨ v'.ownBlock = some W2.heap.size) : DHeadR w kb v b s v' (.int .i64 ((k : Int) + 1)) W' := by
  refine ⟨k + 1, by go_num, hk, by rw [headL_next]; exact hr, fun j hj => ?_, hS.over h0 (grown_below hg hS.ht.size fun j hj => ho j hj)⟩
  rcases hv with hv | hv
  · exact ho j (hv ▸ hj)
  · rw [hv] at hj; injection hj with hj; have := hS.ht.size; omega
theorem rowI_kb {w W W' : World} {kb : Nat} {v : Value} {b : List UInt8} {s0 : RS} {u : Value} {l : List Int} (hr : IntRow W u l) (ho : ∀ j, u.ownBlock = some j → w.heap.size ≤ j) (h0 : DrAt w kb v b s0) (ht : Touch (fun k => k = kb) W W') : IntRow W' u l :=
  own_same hr fun j hj => ht.block j (own_lt hr j hj).2 (by have := ho j hj; have := h0.lt; omega)
set_option maxRecDepth 100000 in
set_option maxHeartbeats 2000000 in
theorem dhead_any (w : World) (kb : Nat) (v : Value) (b : List UInt8) (s : RS) (h : DrAt w kb v b s) :
    Calls Tryz.prog 74 #[.pointer (some ⟨kb, 0, none⟩)] w (DHeadPost w kb v b s) := by
  obtain ⟨c0, c1, c2, c3, c4, f0, f1, f2, f3, f4⟩ := h.cells
  have H0 := Lib.hid h
  have HI := Lib.hid (show DHeadR w kb v b s (.slice none 0 0) (.int .i64 0) w from ⟨0, rfl, Nat.zero_le _, World.ownsRow_nil _ _ _ _, (fun j hj => by cases hj), h.step⟩)
  clear h
  obtain ⟨q, hq⟩ : ∃ q, s.pos = q := ⟨_, rfl⟩
  have HQ := Lib.hid hq
  rw [hq] at c1
  clear hq
  go_enter Tryz.func74, Tryz.ntmps74
  go_wp2
  clear c0 c1 c2 c3 c4 f0 f1 f2 f3 f4
  go_loopw [5, 6] (fun u i wr => DHeadR w kb v b s u i wr) (fun _ i _ => 5 - (RowKit.intOf i).toNat)
  case atStart => exact HI.out
  case round =>
    obtain ⟨k, rfl, hk, hrow, hown, hst⟩ := hrel
    obtain ⟨B0, bc, rfl⟩ := hrow.form
    rw [headL_length] at hrow hown
    have HR := Lib.hid (And.intro hrow (And.intro hown hst))
    rw [headL_length]
    by_cases hlt : k < 5
    · have i1 : (0 : Int) ≤ (k : Int) := by omega
      have i2 : (k : Int) < 5 := by omega
      have HLK := Lib.hid hlt
      have CS := Lib.hid (dshort_any wr kb v b _ hst.rd)
      obtain ⟨z, hz⟩ : ∃ z, (if needB b.length (headS b.length s k) 2 then shortAt b (headS b.length s k).pos else 0) = z := ⟨_, rfl⟩
      rw [hz] at CS
      have HZ := Lib.hid hz
      clear hrow hown hst hk hz
      go_wp2_with (first
        | (go_at_call 73; (refine (CS.out).mono ?_); rintro e w2 ⟨rfl, hs⟩; have HS2 := Lib.hid (HR.out.2.2.trans hs); have HR2 := Lib.hid (rowI_kb HR.out.1 HR.out.2.1 H0.out hs.ht); clear hs; have hx := World.alloc_heap_new w2 (.cells #[.int .i64 z] 3); have HX := Lib.hid (cell_of_row _ w2.heap.size 0 _ _ _ hx); clear hx)
        | (at_builtin; refine wpList_append_int (by rfl) (.tmp 15) (.tmp 18) (by rfl) (.slice B0 k bc) (headL b s k) (by rfl) (own_same HR2.out fun j hj => Below.heap_alloc _ _ _ (own_lt HR2.out j hj).2) z (by rfl) HX.out (by rw [headL_length]; have := HLK.out; omega) ?_; intro v' w' hr' hg' hv'; have G1 := Lib.hid hr'; have G2 := Lib.hid hg'; have G3 := Lib.hid hv'; clear hr' hg' hv'))
      go_roundw
      case rel => exact DHeadR.next H0.out HLK.out HR.out.2.1 (HS2.out.next ((Below.refl _ _).alloc (Nat.le_refl _) _)) (by rw [HZ.out]; exact G1.out) G2.out G3.out
      case measure => have := HLK.out; simp [RowKit.intOf]; omega
    · have hk5 : k = 5 := by omega
      have i2 : ¬ (k : Int) < 5 := by omega
      have HK5 := Lib.hid hk5
      clear hrow hown hst hk hk5 hlt
      go_wp2_with fail
      go_ret2
      obtain rfl := HK5.out
      exact ⟨.slice B0 5 bc, by rw [HQ.out]; rfl, HR.out.1, HR.out.2.1, HR.out.2.2⟩
end
end Go.Proofs.YtcfgppjhgobboaaGreatDoor
