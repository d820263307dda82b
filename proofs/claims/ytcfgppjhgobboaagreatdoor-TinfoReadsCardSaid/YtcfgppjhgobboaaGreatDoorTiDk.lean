/-
  The document's reader of package tinfo: a table's texts by their shorts.
  The document's reader of package tinfo on its way: its block, the counts, what has been read, the entry's box. No program is walked here, and nothing is assumed.
  The document's reader of package tinfo: what is wrong first in the extended part. No program is walked here, and nothing is assumed.
  The document's reader of package tinfo: the first part.
-/
import Derived.Test.YtcfgppjhgobboaaGreatDoorTiDf
import Derived.Test.YtcfgppjhgobboaaGreatDoorTiExt1
import Derived.Test.YtcfgppjhgobboaaGreatDoorTiTerm2
namespace Go.Proofs.YtcfgppjhgobboaaGreatDoor
section
open Go.RowKit Go.Shelf Go.Lib
attribute [local go_sem] Oper.semAt_some

/-- behind a table's texts, by the document -/
def DTakenPost (w : World) (kb : Nat) (v : Value) (b : List UInt8) (s : RS) (p : Nat) (tab : List UInt8) (is : List Int) (e : Ending) (w' : World) : Prop :=
  match firstBad is.length (textBad tab is) with
  | some i => (∃ A m c z, e = .returned (.tuple #[.slice A m c, .int .i64 z])) ∧ DStep w kb v b { s with e := 33, bad := p + 2 * i } w'
  | none => ∃ u, e = .returned (.tuple #[u, .int .i64 (endOf is (textsOf tab is) (-1, 0)).2]) ∧ CapRow w' u (textsOf tab is) ∧ (∀ k, u.ownBlock = some k → w.heap.size ≤ k) ∧ DStep w kb v b s w'
theorem DTakenPost.bad {w w' : World} {kb : Nat} {v : Value} {b : List UInt8} {s : RS} {p : Nat} {tab : List UInt8} {is : List Int} {k : Nat} (hk : k < is.length) (hg : ∀ j, j < k → textBad tab is j = false) (hb : textBad tab is k = true) {A : Option Addr} {m c : Nat} {z : Int} (h : DStep w kb v b { s with e := 33, bad := p + 2 * k } w') : DTakenPost w kb v b s p tab is (.returned (.tuple #[.slice A m c, .int .i64 z])) w' := by
  unfold DTakenPost
  rw [firstBad_some hk hb hg]
  exact ⟨⟨A, m, c, z, rfl⟩, h⟩
theorem DTakenPost.ok {w w' : World} {kb : Nat} {v : Value} {b : List UInt8} {s : RS} {p : Nat} {tab : List UInt8} {is : List Int} {u : Value} {z : Int} (hg : ∀ j, j < is.length → textBad tab is j = false) (hz : (endOf is (textsOf tab is) (-1, 0)).2 = z) (hr : CapRow w' u (textsOf tab is)) (ho : ∀ k, u.ownBlock = some k → w.heap.size ≤ k) (h : DStep w kb v b s w') : DTakenPost w kb v b s p tab is (.returned (.tuple #[u, .int .i64 z])) w' := by
  unfold DTakenPost
  rw [firstBad_none.2 hg]
  exact ⟨u, by rw [hz], hr, ho, h⟩
def DTakenG (w : World) (kb : Nat) (v : Value) (b : List UInt8) (s : RS) (tab : List UInt8) (is : List Int) (k : Nat) (x y : Int) (u : Value) (W : World) : Prop :=
  (∀ j, j < k → textBad tab is j = false) ∧ endOf is (textsOf tab is) (-1, 0) = endOf (is.drop k) ((textsOf tab is).drop k) (x, y) ∧ CapRow W u ((textsOf tab is).take k) ∧ (∀ j, u.ownBlock = some j → w.heap.size ≤ j) ∧ DStep w kb v b s W
def DTakenB (w : World) (kb : Nat) (v : Value) (b : List UInt8) (s : RS) (p : Nat) (tab : List UInt8) (is : List Int) (k : Nat) (u : Value) (W : World) : Prop :=
  ∃ j, k = j + 1 ∧ textBad tab is j = true ∧ (∀ i, i < j → textBad tab is i = false) ∧ (∃ A c, u = .slice A k c) ∧ DStep w kb v b { s with e := 33, bad := p + 2 * j } W
/-- while a table's texts are taken -/
def DTakenR (w : World) (kb : Nat) (v : Value) (b : List UInt8) (s : RS) (p : Nat) (tab : List UInt8) (is : List Int) (n : Nat) (u e m i : Value) (W : World) : Prop :=
  ∃ (k : Nat) (x y : Int), i = .int .i64 k ∧ m = .int .i64 x ∧ e = .int .i64 y ∧ k ≤ n ∧ -1 ≤ x ∧ (DTakenG w kb v b s tab is k x y u W ∨ DTakenB w kb v b s p tab is k u W)
theorem DTakenR.good {w : World} {kb : Nat} {v : Value} {b : List UInt8} {s s0 : RS} {p : Nat} {tab : List UInt8} {is : List Int} {n k : Nat} {x y x' y' : Int} {u v' : Value} {W2 W' : World} {z : Int} {c : CapD} (h0 : DrAt w kb v b s0) (hk : k < n) (hx : -1 ≤ x')
    (hg : ∀ j, j < k → textBad tab is j = false) (hkb : textBad tab is k = false) (hz : is[k]? = some z) (hc : textCap tab z = some c) (he : endOf is (textsOf tab is) (-1, 0) = endOf (is.drop k) ((textsOf tab is).drop k) (x, y)) (hxy : (if x < z then (z, z + c.text.length + 1) else (x, y)) = (x', y'))
    (ho : ∀ j, u.ownBlock = some j → w.heap.size ≤ j) (hS : DStep w kb v b s W2) (hr : CapRow W' v' ((textsOf tab is).take k ++ [c])) (hgr : W2.grownBy W' u.ownBlock) (hv : v'.ownBlock = u.ownBlock ∨ v'.ownBlock = some W2.heap.size) : DTakenR w kb v b s p tab is n v' (.int .i64 y') (.int .i64 x') (.int .i64 ((k : Int) + 1)) W' := by
  refine ⟨k + 1, x', y', by go_num, rfl, rfl, hk, hx, .inl ⟨fun j hj => ?_, ?_, by rw [textsOf_take hz hc]; exact hr, fun j hj => ?_, hS.over h0 (grown_below hgr hS.ht.size fun j hj => ho j hj)⟩⟩
  · rcases Nat.lt_or_ge j k with h1 | h1
    · exact hg j h1
    · obtain rfl : j = k := by omega
      exact hkb
  · have hc2 : (textsOf tab is)[k]? = some c := by unfold textsOf; rw [List.getElem?_map, hz]; simp [hc]
    rw [he, endOf_step hz hc2, hxy]
  · rcases hv with hv | hv
    · exact ho j (hv ▸ hj)
    · rw [hv] at hj; injection hj with hj; have := hS.ht.size; omega
theorem DTakenR.bad {w : World} {kb : Nat} {v : Value} {b : List UInt8} {s s0 : RS} {p : Nat} {tab : List UInt8} {is : List Int} {n k : Nat} {x y : Int} {u v' : Value} {W2 W' : World} {l : List CapD} (h0 : DrAt w kb v b s0) (hk : k < n) (hx : -1 ≤ x) (hl : l.length = k + 1)
    (hg : ∀ j, j < k → textBad tab is j = false) (hkb : textBad tab is k = true)
    (ho : ∀ j, u.ownBlock = some j → w.heap.size ≤ j) (hS : DStep w kb v b { s with e := 33, bad := p + 2 * k } W2) (hr : CapRow W' v' l) (hgr : W2.grownBy W' u.ownBlock) : DTakenR w kb v b s p tab is n v' (.int .i64 y) (.int .i64 x) (.int .i64 ((k : Int) + 1)) W' := by
  obtain ⟨A, c, e⟩ := hr.form
  rw [hl] at e
  exact ⟨k + 1, x, y, by go_num, rfl, rfl, hk, hx, .inr ⟨k, rfl, hkb, hg, ⟨A, c, e⟩, hS.over h0 (grown_below hgr hS.ht.size fun j hj => ho j hj)⟩⟩
theorem textBad_at {tab : List UInt8} {is : List Int} {k : Nat} {z : Int} (hz : is[k]? = some z) : textBad tab is k = (textCap tab z).isNone := by
  unfold textBad
  rw [List.getD_eq_getElem?_getD, hz]
  rfl
theorem textCap_pos {tab : List UInt8} {z : Int} (h : 0 ≤ z) : textCap tab z = (textP tab z).map fun t => ⟨1, 0, t⟩ := by unfold textCap; rw [if_pos h]
theorem textCap_neg {tab : List UInt8} {z : Int} (h : ¬ 0 ≤ z) : textCap tab z = some ⟨stateOf z, 0, []⟩ := by unfold textCap; rw [if_neg h]
theorem dcapOf_pos (z : Int) (h : 0 ≤ z) (W : World) : Calls Tryz.prog 123 #[.int .i64 z] W fun e w' => e = .returned (.agg #[.int .i64 1, .int .i64 z, .string ⟨#[]⟩]) ∧ Below W.heap.size W w' := by
  refine (dcapOf_any W z).mono fun e w' hx => ⟨?_, hx.2⟩
  rw [hx.1, capOfNum_pos h]
theorem dcapOf_neg (z : Int) (h : ¬ 0 ≤ z) (W : World) : Calls Tryz.prog 123 #[.int .i64 z] W fun e w' => e = .returned (.agg #[.int .i64 (stateOf z), .int .i64 0, .string ⟨#[]⟩]) ∧ Below W.heap.size W w' := by
  refine (dcapOf_any W z).mono fun e w' hx => ⟨?_, hx.2⟩
  rw [hx.1, capOfNum_neg h]
set_option maxRecDepth 100000 in
set_option maxHeartbeats 4000000 in
theorem dtaken_any (w : World) (kb : Nat) (v : Value) (b : List UInt8) (s : RS) (tab : List UInt8) (p n : Nat) (h : DrAt w kb v b s) (hs : s.e = 0) (hb : tab.length ≤ 4000000) (hn : n ≤ 1000) (hp : p + 2 * n ≤ b.length) :
    Calls Tryz.prog 79 #[.pointer (some ⟨kb, 0, none⟩), str tab, .int .i64 p, .int .i64 n] w (DTakenPost w kb v b s p tab (shortsAt b p n)) := by
  have H0 := Lib.hid h
  have HE := Lib.hid hs
  have HBT := Lib.hid hb
  have HPN := Lib.hid (And.intro hn hp)
  have hbig := h.big
  have HIS := Lib.hid (fun k (hk : k < n) => shorts_at b p n k hk)
  have HIL : Hid ((shortsAt b p n).length = n) := Lib.hid (shorts_length b p n)
  have HI := Lib.hid (show DTakenR w kb v b s p tab (shortsAt b p n) n (.slice none 0 0) (.int .i64 0) (.int .i64 (-1)) (.int .i64 0) w from ⟨0, -1, 0, rfl, rfl, rfl, Nat.zero_le _, Int.le_refl _, .inl ⟨fun j hj => by omega, rfl, World.ownsRow_nil _ _ _ _, (fun j hj => by cases hj), h.step⟩⟩)
  have q1 : (p : Int) + 2000 ≤ 140737488361000 := by omega
  generalize his : shortsAt b p n = is at *
  clear h hs hb hp his
  go_enter Tryz.func79, Tryz.ntmps79
  go_wp2_with fail
  go_loopw [10, 11, 12, 13] (fun u e m i wr => DTakenR w kb v b s p tab is n u e m i wr) (fun _ _ _ i _ => n - (RowKit.intOf i).toNat)
  case atStart => exact HI.out
  case round =>
    obtain ⟨k, x, y, rfl, rfl, rfl, hk, hx, hor⟩ := hrel
    rcases hor with ⟨hgood, hend, hrow, hown, hst⟩ | ⟨j, hkj, hbad, hgood, ⟨A, c, rfl⟩, hst⟩
    · obtain ⟨B0, bc, rfl⟩ := hrow.form
      have HR := Lib.hid (And.intro hrow (And.intro hown hst))
      have HG := Lib.hid (And.intro hgood hend)
      have hlen : ((textsOf tab is).take k).length = k := by unfold textsOf; rw [List.length_take, List.length_map, HIL.out]; omega
      obtain ⟨c0, c1, c2, c3, c4, f0, f1, f2, f3, f4⟩ := hst.rd.cells
      simp only [HE.out] at c2
      have HOWN := Lib.hid hown
      have HLE := Lib.hid hlen
      rw [hlen] at HR HOWN ⊢
      by_cases hlt : k < n
      · have hz := HIS.out k hlt
        have hzb := short_bd b (p + 2 * k)
        have CP := Lib.hid (dpeek_at wr kb v b s ((p : Int) + 2 * (k : Int)) (p + 2 * k) (by push_cast; rfl) hst.rd (by have := HPN.out; omega))
        generalize shortAt b (p + 2 * k) = z at *
        have i1 : (0 : Int) ≤ (k : Int) := by omega
        have i2 : (k : Int) < (n : Int) := by omega
        have i3 : (n : Int) ≤ 1000 := by have := HPN.out.1; omega
        have HLK := Lib.hid hlt
        have HZ := Lib.hid hz
        have HX := Lib.hid hx
        obtain ⟨i4, i5⟩ := hzb
        clear hrow hown hst hgood hend hlen hk hz hlt hx
        by_cases h0 : 0 ≤ z
        · obtain ⟨m, rfl⟩ : ∃ m : Nat, z = m := ⟨z.toNat, by omega⟩
          have HC := Lib.hid (dcapOf_pos (m : Int) h0)
          have CT := Lib.hid (fun W => dtext_any W tab m HBT.out)
          have CF : Hid (∀ W, DrAt W kb v b s → Calls Tryz.prog 28 #[.pointer (some ⟨kb, 0, none⟩), .int .i64 33, .int .i64 ((p : Int) + 2 * (k : Int))] W fun e w' => e = .returned (.tuple #[]) ∧ DStep W kb v b { s with e := 33, bad := p + 2 * k } w') := Lib.hid (fun W hW => by have := dfail_any W kb v b s 33 (p + 2 * k) hW; rw [failS_ok HE.out] at this; rwa [show ((p + 2 * k : Nat) : Int) = (p : Int) + 2 * (k : Int) by push_cast; rfl] at this)
          cases ht : textP tab (m : Int) with
          | some t =>
            have CT : Hid (∀ W, Calls Tryz.prog 82 #[str tab, .int .i64 m] W fun e w' => e = .returned (.tuple #[str t, .bool true]) ∧ Below W.heap.size W w') := Lib.hid (by rw [ht] at CT; exact CT.out)
            have HNB : Hid (textBad tab is k = false ∧ textCap tab (m : Int) = some ⟨1, 0, t⟩) := Lib.hid ⟨by rw [textBad_at HZ.out, textCap_pos h0, ht]; rfl, by rw [textCap_pos h0, ht]; rfl⟩
            have htl := textP_len ht
            have i6 : (t.length : Int) ≤ 1000 := by omega
            clear h0 ht htl
            by_cases hxm : x < (m : Int)
            · have HXZ : Hid ((if x < (m : Int) then ((m : Int), (m : Int) + ((⟨1, 0, t⟩ : CapD).text.length : Int) + 1) else (x, y)) = ((m : Int), (m : Int) + (t.length : Int) + 1)) := Lib.hid (by rw [if_pos hxm])
              go_wp2_with (first
                | (go_at_call 81; refine (CP.out).mono ?_; rintro e w2 ⟨rfl, N, rfl⟩; clear c0 c1 c2 c3 c4 f0 f1 f2 f3 f4)
                | (go_at_call 123; refine (HC.out _).mono ?_; rintro e w3 ⟨rfl, hB⟩
                   have hb3 : Below wr.heap.size wr w3 := (drewN_below wr N).trans (hB.mono (by simp))
                   have hd := DBox.made (HR.out.2.2.next hb3) (own_same HR.out.1 fun j hj => hb3.block j (own_lt HR.out.1 j hj).2) HOWN.out ⟨1, (m : Int), []⟩
                   have HD := Lib.hid hd
                   obtain ⟨z0, z1, z2, z3, z4, z5⟩ := hd.cells
                   clear hd hB)
                | (go_at_call 82; refine (CT.out _).mono ?_; rintro e w5 ⟨rfl, hB5⟩
                   have hd := HD.out.below hB5
                   clear z0 z1 z2 z3 z4 z5
                   obtain ⟨z0, z1, z2, z3, z4, z5⟩ := hd.cells
                   have HD5 := Lib.hid hd
                   clear hd hB5)
                | (at_builtin
                   have hd7 := (HD5.out.set H0.out (j := 1) (x := .int .i64 0) (c' := ⟨1, 0, []⟩) rfl).set H0.out (j := 2) (x := str t) (c' := ⟨1, 0, t⟩) rfl
                   have hx4 := World.alloc_heap_new ((w5.setCell ⟨w3.heap.size, 1, none⟩ (.int .i64 0)).setCell ⟨w3.heap.size, 2, none⟩ (str t)) (.cells #[.int .i64 1, .int .i64 0, str t] 37)
                   rw [show ((w5.setCell ⟨w3.heap.size, 1, none⟩ (.int .i64 0)).setCell ⟨w3.heap.size, 2, none⟩ (str t)).heap.size = w5.heap.size by simp] at hx4
                   have HX4 := Lib.hid (fun j => cell_of_row _ _ j _ _ _ hx4)
                   have HD4 := Lib.hid (hd7.below ((Below.refl _ _).alloc (Nat.le_refl _) (.cells #[.int .i64 1, .int .i64 0, str t] 37)))
                   clear hd7 hx4
                   refine wpList_append_cap (by rfl) (.tmp 67) (.tmp 69) (by rfl) (.slice B0 k bc) ((textsOf tab is).take k) (by rfl) (HD4.out.row) ⟨1, 0, t⟩ (by rfl) (HX4.out 0) (HX4.out 1) (HX4.out 2) (by rw [List.length_take]; have := HPN.out; omega) ?_; intro v' w' hr' hg' hv'; have G1 := Lib.hid hr'; have G2 := Lib.hid hg'; have G3 := Lib.hid hv'; clear hr' hg' hv'))
              go_roundw
              case rel => exact DTakenR.good H0.out HLK.out (by omega) HG.out.1 HNB.out.1 HZ.out HNB.out.2 HG.out.2 HXZ.out HOWN.out HD4.out.st G1.out G2.out G3.out
              case measure => have := HLK.out; simp [RowKit.intOf]; omega
            · have HXZ : Hid ((if x < (m : Int) then ((m : Int), (m : Int) + ((⟨1, 0, t⟩ : CapD).text.length : Int) + 1) else (x, y)) = (x, y)) := Lib.hid (by rw [if_neg hxm])
              have hxm2 : (x < (m : Int)) = False := by simp; omega
              clear hxm
              go_wp2_with (first
                | (go_at_call 81; refine (CP.out).mono ?_; rintro e w2 ⟨rfl, N, rfl⟩; clear c0 c1 c2 c3 c4 f0 f1 f2 f3 f4)
                | (go_at_call 123; refine (HC.out _).mono ?_; rintro e w3 ⟨rfl, hB⟩
                   have hb3 : Below wr.heap.size wr w3 := (drewN_below wr N).trans (hB.mono (by simp))
                   have hd := DBox.made (HR.out.2.2.next hb3) (own_same HR.out.1 fun j hj => hb3.block j (own_lt HR.out.1 j hj).2) HOWN.out ⟨1, (m : Int), []⟩
                   have HD := Lib.hid hd
                   obtain ⟨z0, z1, z2, z3, z4, z5⟩ := hd.cells
                   clear hd hB)
                | (go_at_call 82; refine (CT.out _).mono ?_; rintro e w5 ⟨rfl, hB5⟩
                   have hd := HD.out.below hB5
                   clear z0 z1 z2 z3 z4 z5
                   obtain ⟨z0, z1, z2, z3, z4, z5⟩ := hd.cells
                   have HD5 := Lib.hid hd
                   clear hd hB5)
                | (at_builtin
                   have hd7 := (HD5.out.set H0.out (j := 1) (x := .int .i64 0) (c' := ⟨1, 0, []⟩) rfl).set H0.out (j := 2) (x := str t) (c' := ⟨1, 0, t⟩) rfl
                   have hx4 := World.alloc_heap_new ((w5.setCell ⟨w3.heap.size, 1, none⟩ (.int .i64 0)).setCell ⟨w3.heap.size, 2, none⟩ (str t)) (.cells #[.int .i64 1, .int .i64 0, str t] 37)
                   rw [show ((w5.setCell ⟨w3.heap.size, 1, none⟩ (.int .i64 0)).setCell ⟨w3.heap.size, 2, none⟩ (str t)).heap.size = w5.heap.size by simp] at hx4
                   have HX4 := Lib.hid (fun j => cell_of_row _ _ j _ _ _ hx4)
                   have HD4 := Lib.hid (hd7.below ((Below.refl _ _).alloc (Nat.le_refl _) (.cells #[.int .i64 1, .int .i64 0, str t] 37)))
                   clear hd7 hx4
                   refine wpList_append_cap (by rfl) (.tmp 67) (.tmp 69) (by rfl) (.slice B0 k bc) ((textsOf tab is).take k) (by rfl) (HD4.out.row) ⟨1, 0, t⟩ (by rfl) (HX4.out 0) (HX4.out 1) (HX4.out 2) (by rw [List.length_take]; have := HPN.out; omega) ?_; intro v' w' hr' hg' hv'; have G1 := Lib.hid hr'; have G2 := Lib.hid hg'; have G3 := Lib.hid hv'; clear hr' hg' hv'))
              go_roundw
              case rel => exact DTakenR.good H0.out HLK.out HX.out HG.out.1 HNB.out.1 HZ.out HNB.out.2 HG.out.2 HXZ.out HOWN.out HD4.out.st G1.out G2.out G3.out
              case measure => have := HLK.out; simp [RowKit.intOf]; omega
          | none =>
            have CT : Hid (∀ W, Calls Tryz.prog 82 #[str tab, .int .i64 m] W fun e w' => e = .returned (.tuple #[str [], .bool false]) ∧ Below W.heap.size W w') := Lib.hid (by rw [ht] at CT; exact CT.out)
            have HNB : Hid (textBad tab is k = true) := Lib.hid (by rw [textBad_at HZ.out, textCap_pos h0, ht]; rfl)
            clear h0 ht
            by_cases hxm : x < (m : Int)
            · go_wp2_with (first
                | (go_at_call 81; refine (CP.out).mono ?_; rintro e w2 ⟨rfl, N, rfl⟩; clear c0 c1 c2 c3 c4 f0 f1 f2 f3 f4)
                | (go_at_call 123; refine (HC.out _).mono ?_; rintro e w3 ⟨rfl, hB⟩
                   have hb3 : Below wr.heap.size wr w3 := (drewN_below wr N).trans (hB.mono (by simp))
                   have hd := DBox.made (HR.out.2.2.next hb3) (own_same HR.out.1 fun j hj => hb3.block j (own_lt HR.out.1 j hj).2) HOWN.out ⟨1, (m : Int), []⟩
                   have HD := Lib.hid hd
                   obtain ⟨z0, z1, z2, z3, z4, z5⟩ := hd.cells
                   clear hd hB)
                | (go_at_call 82; refine (CT.out _).mono ?_; rintro e w5 ⟨rfl, hB5⟩
                   have hd := HD.out.below hB5
                   clear z0 z1 z2 z3 z4 z5
                   obtain ⟨z0, z1, z2, z3, z4, z5⟩ := hd.cells
                   have HD5 := Lib.hid hd
                   clear hd hB5)
                | (go_at_call 28; refine (CF.out _ HD5.out.st.rd).mono ?_; rintro e w6 ⟨rfl, hS6⟩
                   have hd := HD5.out.touch H0.out hS6
                   clear z0 z1 z2 z3 z4 z5
                   obtain ⟨z0, z1, z2, z3, z4, z5⟩ := hd.cells
                   have HD6 := Lib.hid hd
                   clear hd hS6)
                | (at_builtin
                   have hd7 := (HD6.out.set H0.out (j := 1) (x := .int .i64 0) (c' := ⟨1, 0, []⟩) rfl).set H0.out (j := 2) (x := str []) (c' := ⟨1, 0, []⟩) rfl
                   have hx4 := World.alloc_heap_new ((w6.setCell ⟨w3.heap.size, 1, none⟩ (.int .i64 0)).setCell ⟨w3.heap.size, 2, none⟩ (str [])) (.cells #[.int .i64 1, .int .i64 0, str []] 37)
                   rw [show ((w6.setCell ⟨w3.heap.size, 1, none⟩ (.int .i64 0)).setCell ⟨w3.heap.size, 2, none⟩ (str [])).heap.size = w6.heap.size by simp] at hx4
                   have HX4 := Lib.hid (fun j => cell_of_row _ _ j _ _ _ hx4)
                   have HD4 := Lib.hid (hd7.below ((Below.refl _ _).alloc (Nat.le_refl _) (.cells #[.int .i64 1, .int .i64 0, str []] 37)))
                   clear hd7 hx4
                   refine wpList_append_cap (by rfl) (.tmp 67) (.tmp 69) (by rfl) (.slice B0 k bc) ((textsOf tab is).take k) (by rfl) (HD4.out.row) ⟨1, 0, []⟩ (by rfl) (HX4.out 0) (HX4.out 1) (HX4.out 2) (by rw [List.length_take]; have := HPN.out; omega) ?_; intro v' w' hr' hg' hv'; have G1 := Lib.hid hr'; have G2 := Lib.hid hg'; have G3 := Lib.hid hv'; clear hr' hg' hv'))
              go_roundw
              case rel => exact DTakenR.bad H0.out HLK.out (by omega) (by rw [List.length_append, HLE.out]; rfl) HG.out.1 HNB.out HOWN.out HD4.out.st G1.out G2.out
              case measure => have := HLK.out; simp [RowKit.intOf]; omega
            · have hxm2 : (x < (m : Int)) = False := by simp; omega
              clear hxm
              go_wp2_with (first
                | (go_at_call 81; refine (CP.out).mono ?_; rintro e w2 ⟨rfl, N, rfl⟩; clear c0 c1 c2 c3 c4 f0 f1 f2 f3 f4)
                | (go_at_call 123; refine (HC.out _).mono ?_; rintro e w3 ⟨rfl, hB⟩
                   have hb3 : Below wr.heap.size wr w3 := (drewN_below wr N).trans (hB.mono (by simp))
                   have hd := DBox.made (HR.out.2.2.next hb3) (own_same HR.out.1 fun j hj => hb3.block j (own_lt HR.out.1 j hj).2) HOWN.out ⟨1, (m : Int), []⟩
                   have HD := Lib.hid hd
                   obtain ⟨z0, z1, z2, z3, z4, z5⟩ := hd.cells
                   clear hd hB)
                | (go_at_call 82; refine (CT.out _).mono ?_; rintro e w5 ⟨rfl, hB5⟩
                   have hd := HD.out.below hB5
                   clear z0 z1 z2 z3 z4 z5
                   obtain ⟨z0, z1, z2, z3, z4, z5⟩ := hd.cells
                   have HD5 := Lib.hid hd
                   clear hd hB5)
                | (go_at_call 28; refine (CF.out _ HD5.out.st.rd).mono ?_; rintro e w6 ⟨rfl, hS6⟩
                   have hd := HD5.out.touch H0.out hS6
                   clear z0 z1 z2 z3 z4 z5
                   obtain ⟨z0, z1, z2, z3, z4, z5⟩ := hd.cells
                   have HD6 := Lib.hid hd
                   clear hd hS6)
                | (at_builtin
                   have hd7 := (HD6.out.set H0.out (j := 1) (x := .int .i64 0) (c' := ⟨1, 0, []⟩) rfl).set H0.out (j := 2) (x := str []) (c' := ⟨1, 0, []⟩) rfl
                   have hx4 := World.alloc_heap_new ((w6.setCell ⟨w3.heap.size, 1, none⟩ (.int .i64 0)).setCell ⟨w3.heap.size, 2, none⟩ (str [])) (.cells #[.int .i64 1, .int .i64 0, str []] 37)
                   rw [show ((w6.setCell ⟨w3.heap.size, 1, none⟩ (.int .i64 0)).setCell ⟨w3.heap.size, 2, none⟩ (str [])).heap.size = w6.heap.size by simp] at hx4
                   have HX4 := Lib.hid (fun j => cell_of_row _ _ j _ _ _ hx4)
                   have HD4 := Lib.hid (hd7.below ((Below.refl _ _).alloc (Nat.le_refl _) (.cells #[.int .i64 1, .int .i64 0, str []] 37)))
                   clear hd7 hx4
                   refine wpList_append_cap (by rfl) (.tmp 67) (.tmp 69) (by rfl) (.slice B0 k bc) ((textsOf tab is).take k) (by rfl) (HD4.out.row) ⟨1, 0, []⟩ (by rfl) (HX4.out 0) (HX4.out 1) (HX4.out 2) (by rw [List.length_take]; have := HPN.out; omega) ?_; intro v' w' hr' hg' hv'; have G1 := Lib.hid hr'; have G2 := Lib.hid hg'; have G3 := Lib.hid hv'; clear hr' hg' hv'))
              go_roundw
              case rel => exact DTakenR.bad H0.out HLK.out HX.out (by rw [List.length_append, HLE.out]; rfl) HG.out.1 HNB.out HOWN.out HD4.out.st G1.out G2.out
              case measure => have := HLK.out; simp [RowKit.intOf]; omega
        · have HC := Lib.hid (dcapOf_neg z h0)
          have HNB : Hid (textBad tab is k = false ∧ textCap tab z = some ⟨stateOf z, 0, []⟩) := Lib.hid ⟨by rw [textBad_at HZ.out, textCap_neg h0]; rfl, textCap_neg h0⟩
          have HXZ : Hid ((if x < z then (z, z + ((⟨stateOf z, 0, []⟩ : CapD).text.length : Int) + 1) else (x, y)) = (x, y)) := Lib.hid (by have := HX.out; rw [if_neg (by omega)])
          have hs1 : (stateOf z == 1) = false := by unfold stateOf; rw [if_neg h0]; split <;> rfl
          generalize stateOf z = st at *
          clear h0
          go_wp2_with (first
            | (go_at_call 81; refine (CP.out).mono ?_; rintro e w2 ⟨rfl, N, rfl⟩; clear c0 c1 c2 c3 c4 f0 f1 f2 f3 f4)
            | (go_at_call 123; refine (HC.out _).mono ?_; rintro e w3 ⟨rfl, hB⟩
               have hb3 : Below wr.heap.size wr w3 := (drewN_below wr N).trans (hB.mono (by simp))
               have hd := DBox.made (HR.out.2.2.next hb3) (own_same HR.out.1 fun j hj => hb3.block j (own_lt HR.out.1 j hj).2) HOWN.out ⟨st, 0, []⟩
               have HD := Lib.hid hd
               obtain ⟨z0, z1, z2, z3, z4, z5⟩ := hd.cells
               have hx4 := World.alloc_heap_new (w3.alloc (.cells #[.int .i64 st, .int .i64 0, str []] 37)) (.cells #[.int .i64 st, .int .i64 0, str []] 37)
               rw [show (w3.alloc (.cells #[.int .i64 st, .int .i64 0, str []] 37)).heap.size = w3.heap.size + 1 by simp] at hx4
               have HX4 := Lib.hid (fun j => cell_of_row _ _ j _ _ _ hx4)
               have HD4 := Lib.hid (hd.below ((Below.refl _ _).alloc (Nat.le_refl _) (.cells #[.int .i64 st, .int .i64 0, str []] 37)))
               clear hd hx4 hB)
            | (at_builtin; refine wpList_append_cap (by rfl) (.tmp 67) (.tmp 69) (by rfl) (.slice B0 k bc) ((textsOf tab is).take k) (by rfl) (HD4.out.row) ⟨st, 0, []⟩ (by rfl) (HX4.out 0) (HX4.out 1) (HX4.out 2) (by rw [List.length_take]; have := HPN.out; omega) ?_; intro v' w' hr' hg' hv'; have G1 := Lib.hid hr'; have G2 := Lib.hid hg'; have G3 := Lib.hid hv'; clear hr' hg' hv'))
          go_roundw
          case rel => exact DTakenR.good H0.out HLK.out HX.out HG.out.1 HNB.out.1 HZ.out HNB.out.2 HG.out.2 HXZ.out HOWN.out HD4.out.st G1.out G2.out G3.out
          case measure => have := HLK.out; simp [RowKit.intOf]; omega
      · have hnk : k = n := by omega
        have i2 : ¬ (k : Int) < (n : Int) := by omega
        have HNK := Lib.hid hnk
        clear hrow hown hst hgood hend hlen hk hnk hlt hx
        go_wp2_with fail
        go_ret2
        obtain rfl := HNK.out
        have hl : (textsOf tab is).length = k := by unfold textsOf; rw [List.length_map, HIL.out]
        refine DTakenPost.ok (fun j hj => HG.out.1 j (by rw [HIL.out] at hj; exact hj)) ?_ ?_ HOWN.out HR.out.2.2
        · rw [HG.out.2, List.drop_of_length_le (by rw [HIL.out]; exact Nat.le_refl _)]
          rfl
        · have := HR.out.1
          rwa [List.take_of_length_le (by rw [hl]; exact Nat.le_refl _)] at this
    · obtain ⟨c0, c1, c2, c3, c4, f0, f1, f2, f3, f4⟩ := hst.rd.cells
      have HST := Lib.hid hst
      have HG := Lib.hid (And.intro hkj (And.intro hbad hgood))
      have HKN := Lib.hid hk
      clear hst hgood hbad hkj hx
      by_cases hlt : k < n
      · have i2 : (k : Int) < (n : Int) := by omega
        clear hlt hk
        go_wp2_with fail
        go_ret2
        exact DTakenPost.bad (by have := HG.out.1; have := HKN.out; rw [HIL.out]; omega) HG.out.2.2 HG.out.2.1 HST.out
      · have i2 : ¬ (k : Int) < (n : Int) := by omega
        clear hlt hk
        go_wp2_with fail
        go_ret2
        exact DTakenPost.bad (by have := HG.out.1; have := HKN.out; rw [HIL.out]; omega) HG.out.2.2 HG.out.2.1 HST.out
end

section
open Go.RowKit Go.Shelf Go.Lib

theorem skipS_e0 {len : Nat} {s : RS} {n : Int} (h : (skipS len s n).e = 0) : s.e = 0 ∧ needB len s n = true ∧ skipS len s n = { s with pos := s.pos + n.toNat } := by
  cases hb : needB len s n with
  | true =>
    refine ⟨?_, rfl, skipS_need hb⟩
    unfold needB at hb
    simp at hb
    exact hb.1
  | false =>
    rw [skipS_not hb] at h
    unfold needS at h
    split at h
    · next h1 =>
      split at h
      · next h2 => unfold needB at hb; simp [h1, h2] at hb
      · cases h
    · next h1 => exact absurd h h1
theorem evenS_e0 {len : Nat} {s : RS} (h : (evenS len s).e = 0) : s.e = 0 ∧ evenS len s = { s with pos := evenUp s.pos } := by
  unfold evenS at h ⊢
  split
  · next h1 =>
    rw [if_pos h1] at h
    obtain ⟨a, b, c⟩ := skipS_e0 h
    refine ⟨a, ?_⟩
    rw [c]
    unfold evenUp
    rw [h1.2]
    rfl
  · next h1 =>
    rw [if_neg h1] at h
    refine ⟨h, ?_⟩
    unfold evenUp
    have : s.pos % 2 = 0 := by rcases Nat.mod_two_eq_zero_or_one s.pos with h2 | h2; exact h2; exact absurd ⟨h, h2⟩ h1
    rw [this]
    rfl
/-- the counts of a file: told one after another -/
theorem count_e0 {bad : Nat → Bool} {p n : Nat} {s : RS} (hs : s.e = 0) (h : (countS bad p s n).e = 0) : firstBad n bad = none ∧ countS bad p s n = s := by
  cases hf : firstBad n bad with
  | none => exact ⟨rfl, countS_none fun i hi => firstBad_none.1 hf i hi⟩
  | some i =>
    obtain ⟨h1, h2, h3⟩ := firstBad_of hf
    rw [countS_some hs h1 h2 h3] at h
    cases h
theorem count_e1 {bad : Nat → Bool} {p n i : Nat} {s : RS} (hs : s.e = 0) (hf : firstBad n bad = some i) : countS bad p s n = { s with e := 32, bad := p + 2 * i } := by
  obtain ⟨h1, h2, h3⟩ := firstBad_of hf
  exact countS_some hs h1 h2 h3
theorem countS_next (bad : Nat → Bool) (p : Nat) (s : RS) (n : Nat) : countS bad p s (n + 1) = if bad n then failS (countS bad p s n) 32 (p + 2 * n) else countS bad p s n := rfl
theorem countS_wide (bad : Nat → Bool) (p : Nat) (s : RS) (n : Nat) : (countS bad p s n).wide = s.wide := by
  induction n with
  | zero => rfl
  | succ n ih => rw [countS_next]; unfold failS; split <;> (try split) <;> simp [ih]
theorem skipS_wide (len : Nat) (s : RS) (n : Int) : (skipS len s n).wide = s.wide := by unfold skipS needS; split <;> (try split) <;> (try split) <;> rfl
theorem evenS_wide (len : Nat) (s : RS) : (evenS len s).wide = s.wide := by unfold evenS; split; exact skipS_wide _ _ _; rfl

/-- the document's reader on its way: its block, the counts, what has been read -/
structure DS (T : Nat → Prop) (w W : World) (kb : Nat) (v : Value) (b : List UInt8) (s : RS) (ka oa cap : Nat) (l : List Int) (P : World → Prop) : Prop where
  st : DStep w kb v b s W
  cnts : RobI T W (.slice (some ⟨ka, oa, none⟩) 5 cap) l
  bag : RobP T W P
section
variable {T : Nat → Prop} {w W W' : World} {kb : Nat} {v : Value} {b : List UInt8} {s s' : RS} {ka oa cap : Nat} {l : List Int} {P : World → Prop}
theorem DS.next (h : DS T w W kb v b s ka oa cap l P) (hT : T kb) (hs : DStep W kb v b s' W') : DS T w W' kb v b s' ka oa cap l P :=
  ⟨h.st.trans hs, h.cnts.next (hs.ht.mono fun _ _ hk => hk ▸ hT), h.bag.next (hs.ht.mono fun _ _ hk => hk ▸ hT)⟩
theorem DS.below (h : DS T w W kb v b s ka oa cap l P) (hb : Below W.heap.size W W') : DS T w W' kb v b s ka oa cap l P :=
  ⟨h.st.next hb, h.cnts.next (Touch.of_below hb), h.bag.next (Touch.of_below hb)⟩
theorem DS.add {Q : World → Prop} (h : DS T w W kb v b s ka oa cap l P) (hq : RobP T W Q) : DS T w W kb v b s ka oa cap l (fun W => P W ∧ Q W) := ⟨h.st, h.cnts, h.bag.and hq⟩
theorem DS.weak {Q : World → Prop} (h : DS T w W kb v b s ka oa cap l P) (hq : ∀ W, P W → Q W) : DS T w W kb v b s ka oa cap l Q := ⟨h.st, h.cnts, fun W' ht => hq _ (h.bag W' ht)⟩
theorem DS.cell (h : DS T w W kb v b s ka oa cap l P) {i : Nat} {z : Int} (hi : l[i]? = some z) : W.cell? ⟨ka, oa + i, none⟩ = some (.int .i64 z) := by
  obtain ⟨k, off, e, _, hcell⟩ := h.cnts.val.cell hi
  injection e with e
  injection e with e1 e2
  subst e1 e2
  exact hcell
theorem DS.cells {p : Nat} (h : DS T w W kb v b s ka oa cap (shortsAt b p 5) P) :
    W.cell? ⟨ka, oa, none⟩ = some (.int .i64 (shortAt b p)) ∧ W.cell? ⟨ka, oa + 1, none⟩ = some (.int .i64 (shortAt b (p + 2))) ∧ W.cell? ⟨ka, oa + 2, none⟩ = some (.int .i64 (shortAt b (p + 4))) ∧ W.cell? ⟨ka, oa + 3, none⟩ = some (.int .i64 (shortAt b (p + 6))) ∧ W.cell? ⟨ka, oa + 4, none⟩ = some (.int .i64 (shortAt b (p + 8))) :=
  ⟨h.cell (shorts_at b p 5 0 (by omega)), h.cell (shorts_at b p 5 1 (by omega)), h.cell (shorts_at b p 5 2 (by omega)), h.cell (shorts_at b p 5 3 (by omega)), h.cell (shorts_at b p 5 4 (by omega))⟩
end
/-- besides: an entry in its box, and the result's box -/
structure DT (T : Nat → Prop) (w W : World) (kb : Nat) (v : Value) (b : List UInt8) (s : RS) (ka oa cap : Nat) (l : List Int) (P : World → Prop) (t2 t4 : Nat) (nm : List UInt8) (wd : Bool) (x0 x1 x2 xe : Value) : Prop where
  ds : DS T w W kb v b s ka oa cap l P
  box : W.heap[t4]? = some (termObj nm wd x0 x1 x2 xe)
  res : W.heap[t2]? = some termZero
section
variable {T : Nat → Prop} {w W W' : World} {kb : Nat} {v : Value} {b : List UInt8} {s s' : RS} {ka oa cap t2 t4 : Nat} {l : List Int} {P : World → Prop} {nm : List UInt8} {wd : Bool} {x0 x1 x2 xe : Value}
theorem DT.next (h : DT T w W kb v b s ka oa cap l P t2 t4 nm wd x0 x1 x2 xe) (hT : T kb) (h2 : t2 ≠ kb) (h4 : t4 ≠ kb) (hs : DStep W kb v b s' W') : DT T w W' kb v b s' ka oa cap l P t2 t4 nm wd x0 x1 x2 xe :=
  ⟨h.ds.next hT hs, (hs.ht.block t4 (Array.getElem?_eq_some_iff.1 h.box).1 h4).trans h.box, (hs.ht.block t2 (Array.getElem?_eq_some_iff.1 h.res).1 h2).trans h.res⟩
theorem DT.below (h : DT T w W kb v b s ka oa cap l P t2 t4 nm wd x0 x1 x2 xe) (hb : Below W.heap.size W W') : DT T w W' kb v b s ka oa cap l P t2 t4 nm wd x0 x1 x2 xe :=
  ⟨h.ds.below hb, (hb.block _ (Array.getElem?_eq_some_iff.1 h.box).1).trans h.box, (hb.block _ (Array.getElem?_eq_some_iff.1 h.res).1).trans h.res⟩
theorem DT.add {Q : World → Prop} (h : DT T w W kb v b s ka oa cap l P t2 t4 nm wd x0 x1 x2 xe) (hq : RobP T W Q) : DT T w W kb v b s ka oa cap l (fun W => P W ∧ Q W) t2 t4 nm wd x0 x1 x2 xe := ⟨h.ds.add hq, h.box, h.res⟩
theorem DT.addCaps {u : Value} {m : List CapD} (h : DT T w W kb v b s ka oa cap l P t2 t4 nm wd x0 x1 x2 xe) (hq : Rob T W u m) : DT T w W kb v b s ka oa cap l (fun W => P W ∧ CapsV W u m) t2 t4 nm wd x0 x1 x2 xe := ⟨h.ds.add hq, h.box, h.res⟩
theorem DT.set {s0 : RS} {j : Nat} {x : Value} {nm' : List UInt8} {wd' : Bool} {y0 y1 y2 ye : Value} (h : DT T w W kb v b s ka oa cap l P t2 t4 nm wd x0 x1 x2 xe) (h0 : DrAt w kb v b s0) (hT : T t4) (h2 : t2 ≠ t4) (h4 : t4 ≠ kb) (hn : w.heap.size ≤ t4)
    (hrow : (#[str nm, .bool wd, x0, x1, x2, xe] : Array Value).setIfInBounds j x = #[str nm', .bool wd', y0, y1, y2, ye]) : DT T w (W.setCell ⟨t4, j, none⟩ x) kb v b s ka oa cap l P t2 t4 nm' wd' y0 y1 y2 ye := by
  have ht : Touch (fun k => k = t4) W (W.setCell ⟨t4, j, none⟩ x) := Touch.setCell W ⟨t4, j, none⟩ _ rfl
  have hTt : Touch T W (W.setCell ⟨t4, j, none⟩ x) := ht.mono fun k _ hk => hk ▸ hT
  have hwt : Touch (fun k => k = kb) w (W.setCell ⟨t4, j, none⟩ x) := touch_grow h.ds.st.ht (ht.mono fun k _ hk => .inr (by omega))
  refine ⟨⟨⟨⟨(ht.block kb h.ds.st.rd.lt (by omega)).trans h.ds.st.rd.box, fun W2 hW2 => h0.bytes W2 (hwt.trans hW2), h.ds.st.rd.pos⟩, hwt⟩, h.ds.cnts.next hTt, h.ds.bag.next hTt⟩, ?_, (ht.block t2 (Array.getElem?_eq_some_iff.1 h.res).1 h2).trans h.res⟩
  have := heap_setCell_same W t4 j _ _ x h.box
  rw [hrow] at this
  exact this
theorem DT.cells (h : DT T w W kb v b s ka oa cap l P t2 t4 nm wd x0 x1 x2 xe) :
    W.cell? ⟨t4, 0, none⟩ = some (str nm) ∧ W.cell? ⟨t4, 1, none⟩ = some (.bool wd) ∧ W.cell? ⟨t4, 2, none⟩ = some x0 ∧ W.cell? ⟨t4, 3, none⟩ = some x1 ∧ W.cell? ⟨t4, 4, none⟩ = some x2 ∧ W.cell? ⟨t4, 5, none⟩ = some xe ∧
    W.frozen? ⟨t4, 0, none⟩ = false ∧ W.frozen? ⟨t4, 1, none⟩ = false ∧ W.frozen? ⟨t4, 2, none⟩ = false ∧ W.frozen? ⟨t4, 3, none⟩ = false ∧ W.frozen? ⟨t4, 4, none⟩ = false ∧ W.frozen? ⟨t4, 5, none⟩ = false :=
  ⟨cell_of_row W t4 0 _ _ _ h.box, cell_of_row W t4 1 _ _ _ h.box, cell_of_row W t4 2 _ _ _ h.box, cell_of_row W t4 3 _ _ _ h.box, cell_of_row W t4 4 _ _ _ h.box, cell_of_row W t4 5 _ _ _ h.box, frozen_of_row W t4 0 _ _ h.box, frozen_of_row W t4 1 _ _ h.box, frozen_of_row W t4 2 _ _ h.box, frozen_of_row W t4 3 _ _ h.box, frozen_of_row W t4 4 _ _ h.box, frozen_of_row W t4 5 _ _ h.box⟩
end
theorem dshort_ok (w : World) (kb : Nat) (v : Value) (b : List UInt8) (s : RS) (h : DrAt w kb v b s) (he : s.e = 0) (hl : s.pos + 2 ≤ b.length) :
    Calls Tryz.prog 73 #[.pointer (some ⟨kb, 0, none⟩)] w fun e w' => e = .returned (.int .i64 (shortAt b s.pos)) ∧ DStep w kb v b { s with pos := s.pos + 2 } w' := by
  have hb : needB b.length s 2 = true := by unfold needB; simp [he]; omega
  have := dshort_any w kb v b s h
  rw [hb, skipS_need hb, if_pos rfl] at this
  exact this
theorem dhead_ok (w : World) (kb : Nat) (v : Value) (b : List UInt8) (s : RS) (h : DrAt w kb v b s) (he : s.e = 0) (hl : s.pos + 10 ≤ b.length) :
    Calls Tryz.prog 74 #[.pointer (some ⟨kb, 0, none⟩)] w fun e w' => ∃ u, e = .returned (.tuple #[u, .int .i64 s.pos]) ∧ IntRow w' u (shortsAt b s.pos 5) ∧ (∀ k, u.ownBlock = some k → w.heap.size ≤ k) ∧ DStep w kb v b { s with pos := s.pos + 10 } w' := by
  refine (dhead_any w kb v b s h).mono fun e w' hx => ?_
  obtain ⟨u, h1, h2, h3, h4⟩ := hx
  rw [headL_ok he 5 (by omega)] at h2
  rw [headS_ok he 5 (by omega)] at h4
  exact ⟨u, h1, h2, h3, h4⟩
end

section
open Go.RowKit Go.Shelf Go.Lib

theorem sect2_e0 {len : Nat} {s5 s6 s7 s8 s9 s10 s11 : RS} {z0 z1 z2 z4 al sz : Int} (h6 : skipS len s5 z0 = s6) (h7 : evenS len s6 = s7) (h8 : skipS len s7 (z1 * sz) = s8) (h9 : skipS len s8 (2 * z2) = s9) (h10 : skipS len s9 (2 * al) = s10) (h11 : skipS len s10 z4 = s11) (he : s11.e = 0) :
    s5.e = 0 ∧ needB len s5 z0 = true ∧ s6 = { s5 with pos := s5.pos + z0.toNat } ∧ s7 = { s6 with pos := evenUp s6.pos } ∧ needB len s7 (z1 * sz) = true ∧ s8 = { s7 with pos := s7.pos + (z1 * sz).toNat } ∧ s9 = { s8 with pos := s8.pos + (2 * z2).toNat } ∧ s10 = { s9 with pos := s9.pos + (2 * al).toNat } ∧ s11 = { s10 with pos := s10.pos + z4.toNat } := by
  obtain ⟨a10, _, r11⟩ := skipS_e0 (h11 ▸ he)
  obtain ⟨a9, _, r10⟩ := skipS_e0 (h10 ▸ a10)
  obtain ⟨a8, _, r9⟩ := skipS_e0 (h9 ▸ a9)
  obtain ⟨a7, b7, r8⟩ := skipS_e0 (h8 ▸ a8)
  obtain ⟨a6, r7⟩ := evenS_e0 (h7 ▸ a7)
  obtain ⟨a5, b5, r6⟩ := skipS_e0 (h6 ▸ a6)
  exact ⟨a5, b5, h6 ▸ r6, h7 ▸ r7, b7, h8 ▸ r8, h9 ▸ r9, h10 ▸ r10, h11 ▸ r11⟩
theorem second_error {b : List UInt8} {p : Nat} {wide : Bool} {s5 s6 s7 s8 s9 s10 s11 : RS} (hl : ¬ b.length < p + 10) (h5 : countS (extBad b p) p ⟨p + 10, 0, 0, wide⟩ 5 = s5)
    (h6 : skipS b.length s5 (shortAt b p) = s6) (h7 : evenS b.length s6 = s7) (h8 : skipS b.length s7 (shortAt b (p + 2) * (sizeOf wide : Nat)) = s8) (h9 : skipS b.length s8 (2 * shortAt b (p + 4)) = s9) (h10 : skipS b.length s9 (2 * (shortAt b p + shortAt b (p + 2) + shortAt b (p + 4))) = s10) (h11 : skipS b.length s10 (shortAt b (p + 8)) = s11) (he : s11.e ≠ 0) :
    ∃ q er, readExt wide b p = .error (q, er) ∧ s11.e = er ∧ s11.bad = q ∧ er ≠ 0 := by
  have hs : s11 = sections2 b.length s5 wide (fun i => shortAt b (p + 2 * i)) := by subst h6 h7 h8 h9 h10 h11; rfl
  cases hf : firstBad 5 (extBad b p) with
  | some i =>
    have h51 := count_e1 (s := ⟨p + 10, 0, 0, wide⟩) (p := p) rfl hf
    rw [h5] at h51
    have : s11 = s5 := by rw [hs]; exact sections2_stop (by rw [h51]; simp)
    exact ⟨p + 2 * i, 32, readExt_e2 hl hf, by rw [this, h51], by rw [this, h51], by decide⟩
  | none =>
    have h52 : s5 = ⟨p + 10, 0, 0, wide⟩ := by rw [← h5]; exact countS_none fun i hi => firstBad_none.1 hf i hi
    have hb := extCnt_bd hf
    rcases sections2_or (len := b.length) (p := p) (s := s5) (wide := wide) (c := fun i => shortAt b (p + 2 * i)) (n := cnt b p) (fun i hi => cnt_at (hb.1 i hi)) (by rw [h52]) (by rw [h52]) (by omega) with ⟨a, _⟩ | ⟨a, c⟩
    · rw [hs] at he; exact absurd a he
    · rw [← hs] at a
      exact ⟨b.length, 31, readExt_e3 hl hf c, a.1, a.2, by decide⟩
/-- behind the extended part -/
def DSecondPost (w : World) (kb : Nat) (v : Value) (b : List UInt8) (p : Nat) (wide : Bool) (e : Ending) (w' : World) : Prop :=
  match readExt wide b p with
  | .error q => (∃ A m c, e = .returned (.slice A m c)) ∧ q.2 ≠ 0 ∧ ∃ s' : RS, s'.e = q.2 ∧ s'.bad = q.1 ∧ DStep w kb v b s' w'
  | .ok x => ∃ u, e = .returned u ∧ ExtRow w' u x.1 ∧ (∀ k, u.ownBlock = some k → w.heap.size ≤ k) ∧ DStep w kb v b ⟨x.2, 0, 0, wide⟩ w'
theorem DSecondPost.bad {w w' : World} {kb : Nat} {v : Value} {b : List UInt8} {p q : Nat} {er : Int} {wide : Bool} {s : RS} {A : Option Addr} {m c : Nat} (hr : readExt wide b p = .error (q, er)) (h1 : s.e = er) (h2 : s.bad = q) (h3 : er ≠ 0) (h : DStep w kb v b s w') : DSecondPost w kb v b p wide (.returned (.slice A m c)) w' := by
  unfold DSecondPost
  rw [hr]
  exact ⟨⟨A, m, c, rfl⟩, h3, s, h1, h2, h⟩
theorem DSecondPost.ok {w w' : World} {kb : Nat} {v : Value} {b : List UInt8} {p fin : Nat} {wide : Bool} {x : List ExtD} {u : Value} (hr : readExt wide b p = .ok (x, fin)) (h : ExtRow w' u x) (ho : ∀ k, u.ownBlock = some k → w.heap.size ≤ k) (hs : DStep w kb v b ⟨fin, 0, 0, wide⟩ w') : DSecondPost w kb v b p wide (.returned u) w' := by
  unfold DSecondPost
  rw [hr]
  exact ⟨u, rfl, h, ho, hs⟩
/-- while the counts are judged -/
def DExtR (w : World) (kb : Nat) (v : Value) (b : List UInt8) (p : Nat) (wide : Bool) (ka oa cap : Nat) (i : Value) (W : World) : Prop :=
  ∃ k : Nat, i = .int .i64 k ∧ k ≤ 5 ∧ DS (fun k => k = kb) w W kb v b (countS (extBad b p) p ⟨p + 10, 0, 0, wide⟩ k) ka oa cap (shortsAt b p 5) Tabs
theorem DExtR.next {w W : World} {kb : Nat} {v : Value} {b : List UInt8} {p : Nat} {wide : Bool} {ka oa cap k : Nat} (hk : k < 5) (h : DS (fun k => k = kb) w W kb v b (countS (extBad b p) p ⟨p + 10, 0, 0, wide⟩ (k + 1)) ka oa cap (shortsAt b p 5) Tabs) : DExtR w kb v b p wide ka oa cap (.int .i64 ((k : Int) + 1)) W := ⟨k + 1, by go_num, hk, h⟩
theorem presentP_next {is : List Int} {k : Nat} {z : Int} (h : is[k]? = some z) : presentP (is.take (k + 1)) = presentP (is.take k) + (if 0 ≤ z then 1 else 0) := by
  unfold presentP
  rw [List.take_add_one, h, List.countP_append]
  by_cases hz : 0 ≤ z <;> simp [hz]
/-- while the texts that are there are counted -/
def DThereR (w : World) (kb : Nat) (v : Value) (b : List UInt8) (s : RS) (ka oa cap p : Nat) (P : World → Prop) (is : List Int) (n : Nat) (t i : Value) (W : World) : Prop :=
  ∃ k : Nat, i = .int .i64 k ∧ k ≤ n ∧ t = .int .i64 (presentP (is.take k) : Nat) ∧ DS (fun k => k = kb) w W kb v b s ka oa cap (shortsAt b p 5) P
theorem DThereR.next {w W : World} {kb : Nat} {v : Value} {b : List UInt8} {s : RS} {ka oa cap p : Nat} {P : World → Prop} {is : List Int} {n k : Nat} {z : Int} {x : Int} (hk : k < n) (hz : is[k]? = some z) (hx : x = (presentP (is.take k) : Nat) + (if 0 ≤ z then 1 else 0)) (h : DS (fun k => k = kb) w W kb v b s ka oa cap (shortsAt b p 5) P) : DThereR w kb v b s ka oa cap p P is n (.int .i64 x) (.int .i64 ((k : Int) + 1)) W :=
  ⟨k + 1, by go_num, hk, by rw [presentP_next hz, hx]; split <;> simp, h⟩
/-- names given so far -/
theorem extsAll_names {names : List (List UInt8)} {f n s : List CapD} (m : Nat) (h : names.length = f.length + n.length + s.length) : ((extsAll names f n s).take m).map (·.name) = names.take m := by
  rw [List.map_take]
  congr 1
  unfold extsAll
  rw [List.map_map]
  have : ((fun x : ExtD => x.name) ∘ fun p : List UInt8 × Int × CapD => (⟨p.2.1, p.1, p.2.2⟩ : ExtD)) = Prod.fst := rfl
  rw [this, List.map_fst_zip]
  rw [kinded_length, h]
  exact Nat.le_refl _
/-- a reader that has stopped, with the first flaw of the extended part -/
def Stopped (wide : Bool) (b : List UInt8) (p : Nat) (s : RS) : Prop := ∃ q er, readExt wide b p = .error (q, er) ∧ s.e = er ∧ s.bad = q ∧ er ≠ 0
def DGiveG (w : World) (kb : Nat) (v : Value) (b : List UInt8) (s : RS) (tab : List UInt8) (ps : List Int) (all : List ExtD) (m : Nat) (u : Value) (W : World) : Prop :=
  (∀ j, j < m → nameBad tab ps j = false) ∧ ExtRow W u (all.take m) ∧ (∀ j, u.ownBlock = some j → w.heap.size ≤ j) ∧ DStep w kb v b s W
def DGiveB (w : World) (kb : Nat) (v : Value) (b : List UInt8) (p : Nat) (wide : Bool) (u : Value) (W : World) : Prop :=
  (∃ A m c, u = .slice A m c) ∧ ∃ s', Stopped wide b p s' ∧ DStep w kb v b s' W
/-- while the capabilities of a kind get their names -/
def DGiveR (w : World) (kb : Nat) (v : Value) (b : List UInt8) (s : RS) (p : Nat) (wide : Bool) (tab : List UInt8) (ps : List Int) (all : List ExtD) (o len : Nat) (u i : Value) (W : World) : Prop :=
  ∃ k : Nat, i = .int .i64 k ∧ k ≤ len ∧ (DGiveG w kb v b s tab ps all (o + k) u W ∨ DGiveB w kb v b p wide u W)
def DOuterR (w : World) (kb : Nat) (v : Value) (b : List UInt8) (s : RS) (p : Nat) (wide : Bool) (tab : List UInt8) (ps : List Int) (all : List ExtD) (f n t : List CapD) (u i : Value) (W : World) : Prop :=
  ∃ k : Nat, i = .int .i64 k ∧ k ≤ 3 ∧ (DGiveG w kb v b s tab ps all (offK f n t k) u W ∨ DGiveB w kb v b p wide u W)
section
variable {w W2 W' : World} {kb : Nat} {v : Value} {b : List UInt8} {s s' s0 : RS} {p : Nat} {wide : Bool} {tab : List UInt8} {ps : List Int} {all : List ExtD} {o len k : Nat} {u v' : Value}
theorem DGiveR.good {x : ExtD} (h0 : DrAt w kb v b s0) (hk : k < len) (hx : all[o + k]? = some x) (hg : ∀ j, j < o + k → nameBad tab ps j = false) (hn : nameBad tab ps (o + k) = false) (ho : ∀ j, u.ownBlock = some j → w.heap.size ≤ j)
    (hS : DStep w kb v b s W2) (hr : ExtRow W' v' (all.take (o + k) ++ [x])) (hgr : W2.grownBy W' u.ownBlock) (hv : v'.ownBlock = u.ownBlock ∨ v'.ownBlock = some W2.heap.size) : DGiveR w kb v b s p wide tab ps all o len v' (.int .i64 ((k : Int) + 1)) W' := by
  refine ⟨k + 1, by go_num, hk, .inl ⟨fun j hj => ?_, ?_, fun j hj => ?_, hS.over h0 (grown_below hgr hS.ht.size fun j hj => ho j hj)⟩⟩
  · rcases Nat.lt_or_ge j (o + k) with h1 | h1
    · exact hg j h1
    · obtain rfl : j = o + k := by omega
      exact hn
  · rw [← Nat.add_assoc, List.take_add_one, hx]; exact hr
  · rcases hv with hv | hv
    · exact ho j (hv ▸ hj)
    · rw [hv] at hj; injection hj with hj; have := hS.ht.size; omega
theorem DGiveR.bad {l : List ExtD} (h0 : DrAt w kb v b s0) (hk : k < len) (hs : Stopped wide b p s') (ho : ∀ j, u.ownBlock = some j → w.heap.size ≤ j)
    (hS : DStep w kb v b s' W2) (hr : ExtRow W' v' l) (hgr : W2.grownBy W' u.ownBlock) : DGiveR w kb v b s p wide tab ps all o len v' (.int .i64 ((k : Int) + 1)) W' := by
  obtain ⟨A, c, e, _⟩ := own_form hr
  exact ⟨k + 1, by go_num, hk, .inr ⟨⟨A, _, c, e⟩, s', hs, hS.over h0 (grown_below hgr hS.ht.size fun j hj => ho j hj)⟩⟩
end
end

section
open Go.RowKit Go.Shelf Go.Lib
attribute [local go_sem] Oper.semAt_some

/-- the document's reader, an entry in its box and the result's box -/
structure D2 (w W : World) (kb : Nat) (v : Value) (b : List UInt8) (s : RS) (t2 t4 : Nat) (nm : List UInt8) (wd : Bool) (x0 x1 x2 xe : Value) : Prop where
  st : DStep w kb v b s W
  box : W.heap[t4]? = some (termObj nm wd x0 x1 x2 xe)
  res : W.heap[t2]? = some termZero
section
variable {w W W' : World} {kb : Nat} {v : Value} {b : List UInt8} {s s' s0 : RS} {t2 t4 : Nat} {nm : List UInt8} {wd : Bool} {x0 x1 x2 xe : Value}
theorem D2.next (h : D2 w W kb v b s t2 t4 nm wd x0 x1 x2 xe) (h2 : t2 ≠ kb) (h4 : t4 ≠ kb) (hs : DStep W kb v b s' W') : D2 w W' kb v b s' t2 t4 nm wd x0 x1 x2 xe :=
  ⟨h.st.trans hs, (hs.ht.block t4 (Array.getElem?_eq_some_iff.1 h.box).1 h4).trans h.box, (hs.ht.block t2 (Array.getElem?_eq_some_iff.1 h.res).1 h2).trans h.res⟩
theorem D2.below (h : D2 w W kb v b s t2 t4 nm wd x0 x1 x2 xe) (hb : Below W.heap.size W W') : D2 w W' kb v b s t2 t4 nm wd x0 x1 x2 xe :=
  ⟨h.st.next hb, (hb.block _ (Array.getElem?_eq_some_iff.1 h.box).1).trans h.box, (hb.block _ (Array.getElem?_eq_some_iff.1 h.res).1).trans h.res⟩
theorem D2.cells (h : D2 w W kb v b s t2 t4 nm wd x0 x1 x2 xe) :
    W.cell? ⟨t4, 0, none⟩ = some (str nm) ∧ W.cell? ⟨t4, 1, none⟩ = some (.bool wd) ∧ W.cell? ⟨t4, 2, none⟩ = some x0 ∧ W.cell? ⟨t4, 3, none⟩ = some x1 ∧ W.cell? ⟨t4, 4, none⟩ = some x2 ∧ W.cell? ⟨t4, 5, none⟩ = some xe ∧
    W.frozen? ⟨t4, 0, none⟩ = false ∧ W.frozen? ⟨t4, 1, none⟩ = false ∧ W.frozen? ⟨t4, 2, none⟩ = false ∧ W.frozen? ⟨t4, 3, none⟩ = false ∧ W.frozen? ⟨t4, 4, none⟩ = false ∧ W.frozen? ⟨t4, 5, none⟩ = false :=
  ⟨cell_of_row W t4 0 _ _ _ h.box, cell_of_row W t4 1 _ _ _ h.box, cell_of_row W t4 2 _ _ _ h.box, cell_of_row W t4 3 _ _ _ h.box, cell_of_row W t4 4 _ _ _ h.box, cell_of_row W t4 5 _ _ _ h.box, frozen_of_row W t4 0 _ _ h.box, frozen_of_row W t4 1 _ _ h.box, frozen_of_row W t4 2 _ _ h.box, frozen_of_row W t4 3 _ _ h.box, frozen_of_row W t4 4 _ _ h.box, frozen_of_row W t4 5 _ _ h.box⟩
theorem DStep.over2 (h : DStep w kb v b s W) (h0 : DrAt w kb v b s0) {t : Nat} (ht : Touch (fun k => k = t) W W') (hn : w.heap.size ≤ t) (hne : t ≠ kb) : DStep w kb v b s W' := by
  have hwt : Touch (fun k => k = kb) w W' := touch_grow h.ht (ht.mono fun k _ hk => .inr (by omega))
  exact ⟨⟨(ht.block kb h.rd.lt (by omega)).trans h.rd.box, fun W2 hW2 => h0.bytes W2 (hwt.trans hW2), h.rd.pos⟩, hwt⟩
theorem D2.set {j : Nat} {x : Value} {nm' : List UInt8} {wd' : Bool} {y0 y1 y2 ye : Value} (h : D2 w W kb v b s t2 t4 nm wd x0 x1 x2 xe) (h0 : DrAt w kb v b s0) (h2 : t2 ≠ t4) (h4 : t4 ≠ kb) (hn : w.heap.size ≤ t4)
    (hrow : (#[str nm, .bool wd, x0, x1, x2, xe] : Array Value).setIfInBounds j x = #[str nm', .bool wd', y0, y1, y2, ye]) : D2 w (W.setCell ⟨t4, j, none⟩ x) kb v b s t2 t4 nm' wd' y0 y1 y2 ye := by
  have ht : Touch (fun k => k = t4) W (W.setCell ⟨t4, j, none⟩ x) := Touch.setCell W ⟨t4, j, none⟩ _ rfl
  refine ⟨h.st.over2 h0 ht hn h4, ?_, (ht.block t2 (Array.getElem?_eq_some_iff.1 h.res).1 h2).trans h.res⟩
  have := heap_setCell_same W t4 j _ _ x h.box
  rw [hrow] at this
  exact this
theorem D2.made (h : DrAt w kb v b s) : D2 w ((w.alloc termZero).alloc termZero) kb v b s w.heap.size (w.heap.size + 1) [] false (.slice none 0 0) (.slice none 0 0) (.slice none 0 0) (.slice none 0 0) := by
  have h1 : Below w.heap.size w (w.alloc termZero) := (Below.refl _ _).alloc (Nat.le_refl _) _
  have h2 : Below (w.alloc termZero).heap.size (w.alloc termZero) ((w.alloc termZero).alloc termZero) := (Below.refl _ _).alloc (Nat.le_refl _) _
  refine ⟨(h.step.next h1).next h2, ?_, (h2.block _ (by simp)).trans (World.alloc_heap_new _ _)⟩
  have := World.alloc_heap_new (w.alloc termZero) termZero
  rwa [World.size_alloc] at this
end
/-- behind the first part -/
def DFirstPost (w : World) (kb : Nat) (v : Value) (b : List UInt8) (e : Ending) (w' : World) : Prop :=
  match readFirst b with
  | .error q => (∃ nm wd A0 n0 c0 A1 n1 c1 A2 n2 c2 A3 n3 c3, e = .returned (.agg #[str nm, .bool wd, .slice A0 n0 c0, .slice A1 n1 c1, .slice A2 n2 c2, .slice A3 n3 c3])) ∧ q.2 ≠ 0 ∧ ∃ s' : RS, s'.e = q.2 ∧ s'.bad = q.1 ∧ DStep w kb v b s' w'
  | .ok r => ∃ x0 x1 x2, e = .returned (termVal r.1 (tri x0 x1 x2) (.slice none 0 0)) ∧ RobT (fun k => k < w.heap.size) w' (tri x0 x1 x2) (.slice none 0 0) r.1 ∧ DStep w kb v b ⟨r.2, 0, 0, r.1.wide⟩ w'
theorem DFirstPost.bad {w W : World} {kb : Nat} {v : Value} {b : List UInt8} {s : RS} {t2 t4 q : Nat} {er : Int} {nm : List UInt8} {wd : Bool} {A0 A1 A2 A3 : Option Addr} {n0 c0 n1 c1 n2 c2 n3 c3 : Nat} (h : D2 w W kb v b s t2 t4 nm wd (.slice A0 n0 c0) (.slice A1 n1 c1) (.slice A2 n2 c2) (.slice A3 n3 c3)) (h0 : DrAt w kb v b ⟨0, 0, 0, false⟩) (hn : w.heap.size ≤ t2) (hne : t2 ≠ kb)
    (hr : readFirst b = .error (q, er)) (h1 : s.e = er) (h2 : s.bad = q) (h3 : er ≠ 0) :
    DFirstPost w kb v b (.returned (.agg #[str nm, .bool wd, .slice A0 n0 c0, .slice A1 n1 c1, .slice A2 n2 c2, .slice A3 n3 c3])) (storeTerm W t2 ⟨nm, wd, [], [], [], []⟩ (tri (.slice A0 n0 c0) (.slice A1 n1 c1) (.slice A2 n2 c2)) (.slice A3 n3 c3)) := by
  unfold DFirstPost
  rw [hr]
  exact ⟨⟨nm, wd, A0, n0, c0, A1, n1, c1, A2, n2, c2, A3, n3, c3, rfl⟩, h3, s, h1, h2, h.st.over2 h0 (storeTerm_touch _ _ _ _ _) hn hne⟩
theorem stored_at {W : World} {t2 : Nat} (h : W.heap[t2]? = some termZero) (nm : List UInt8) (wd : Bool) (l0 l1 l2 : List CapD) (l3 : List ExtD) (x0 x1 x2 xe : Value) (j : Nat) :
    (storeTerm W t2 ⟨nm, wd, l0, l1, l2, l3⟩ (tri x0 x1 x2) xe).cell? ⟨t2, j, none⟩ = (#[str nm, .bool wd, x0, x1, x2, xe] : Array Value)[j]? :=
  cell_of_row (storeTerm W t2 ⟨nm, wd, l0, l1, l2, l3⟩ (tri x0 x1 x2) xe) t2 j _ _ _ (storeTerm_box h)
set_option maxRecDepth 100000 in
set_option maxHeartbeats 2000000 in
theorem dfirst_short (w : World) (kb : Nat) (A : Option Addr) (cap : Nat) (b : List UInt8) (h : DrAt w kb (.slice A b.length cap) b ⟨0, 0, 0, false⟩) (hl : b.length < 12) :
    Calls Tryz.prog 25 #[.pointer (some ⟨kb, 0, none⟩)] w (DFirstPost w kb (.slice A b.length cap) b) := by
  have HD := Lib.hid (D2.made h)
  have H0 := Lib.hid h
  have HR := Lib.hid (readFirst_e1 hl)
  have HLT := Lib.hid h.lt
  obtain ⟨c0, c1, c2, c3, c4, f0, f1, f2, f3, f4⟩ := HD.out.st.rd.cells
  have i1 : ((b.length : Nat) : Int) < 12 := by omega
  clear h hl
  go_enter Tryz.func25, Tryz.ntmps25
  go_wp2_with (first
  | (go_at_call 28; refine (dfail_any _ kb _ b _ 31 b.length HD.out.st.rd).mono ?_; rintro e w2 ⟨rfl, hs⟩
     have hd := HD.out.next (by have := HLT.out; omega) (by have := HLT.out; omega) hs
     clear HD hs c0 c1 c2 c3 c4 f0 f1 f2 f3 f4
     have HD := Lib.hid hd
     obtain ⟨b0, b1, b2, b3, b4, b5, f0, f1, f2, f3, f4, f5⟩ := hd.cells
     obtain ⟨z0, z1, z2, z3, z4, z5, y0, y1, y2, y3, y4, y5⟩ := termZero_facts hd.res
     clear hd))
  have HX := DFirstPost.bad HD.out H0.out (Nat.le_refl _) (by have := HLT.out; omega) HR.out rfl rfl (by decide)
  have hres := stored_at HD.out.res [] false [] [] [] [] (.slice none 0 0) (.slice none 0 0) (.slice none 0 0) (.slice none 0 0)
  change bodyPost _ _ _ _ _ (storeTerm w2 w.heap.size ⟨[], false, [], [], [], []⟩ (tri (.slice none 0 0) (.slice none 0 0) (.slice none 0 0)) (.slice none 0 0))
  generalize storeTerm w2 w.heap.size ⟨[], false, [], [], [], []⟩ (tri (.slice none 0 0) (.slice none 0 0) (.slice none 0 0)) (.slice none 0 0) = W' at *
  exact bodyPost_ret (by simp [results, Tryz.results25, go_sem, hres]) rfl HX
set_option maxRecDepth 100000 in
set_option maxHeartbeats 2000000 in
theorem dfirst_magic (w : World) (kb : Nat) (A : Option Addr) (cap : Nat) (b : List UInt8) (h : DrAt w kb (.slice A b.length cap) b ⟨0, 0, 0, false⟩) (hl : ¬ b.length < 12) (hm : shortAt b 0 ≠ 282 ∧ shortAt b 0 ≠ 542) :
    Calls Tryz.prog 25 #[.pointer (some ⟨kb, 0, none⟩)] w (DFirstPost w kb (.slice A b.length cap) b) := by
  have HD := Lib.hid (D2.made h)
  have H0 := Lib.hid h
  have HR := Lib.hid (readFirst_e2 hl hm)
  have HLT := Lib.hid h.lt
  have CS : Hid (∀ W, DrAt W kb (.slice A b.length cap) b ⟨0, 0, 0, false⟩ → Calls Tryz.prog 73 #[.pointer (some ⟨kb, 0, none⟩)] W fun e w' => e = .returned (.int .i64 (shortAt b 0)) ∧ DStep W kb (.slice A b.length cap) b ⟨2, 0, 0, false⟩ w') := Lib.hid fun W hW => dshort_ok W kb _ b _ hW rfl (by show 0 + 2 ≤ _; omega)
  have CF : Hid (∀ W, DrAt W kb (.slice A b.length cap) b ⟨2, 0, 0, false⟩ → Calls Tryz.prog 28 #[.pointer (some ⟨kb, 0, none⟩), .int .i64 30, .int .i64 0] W fun e w' => e = .returned (.tuple #[]) ∧ DStep W kb (.slice A b.length cap) b ⟨2, 30, 0, false⟩ w') := Lib.hid fun W hW => dfail_any W kb _ b _ 30 0 hW
  obtain ⟨c0, c1, c2, c3, c4, f0, f1, f2, f3, f4⟩ := HD.out.st.rd.cells
  have i1 : ¬ ((b.length : Nat) : Int) < 12 := by omega
  generalize shortAt b 0 = z at *
  obtain ⟨m1, m2⟩ := hm
  have m1 : (z != 282) = true := by simpa using m1
  have m2 : (z != 542) = true := by simpa using m2
  clear h hl
  go_enter Tryz.func25, Tryz.ntmps25
  go_wp2_with (first
  | (go_at_call 73; refine (CS.out _ HD.out.st.rd).mono ?_; rintro e w1 ⟨rfl, hs⟩
     have hd := HD.out.next (by have := HLT.out; omega) (by have := HLT.out; omega) hs
     clear HD hs c0 c1 c2 c3 c4 f0 f1 f2 f3 f4
     have HD := Lib.hid hd
     clear hd)
  | (go_at_call 28; refine (CF.out _ HD.out.st.rd).mono ?_; rintro e w2 ⟨rfl, hs⟩
     have hd := HD.out.next (by have := HLT.out; omega) (by have := HLT.out; omega) hs
     clear HD hs
     have HD := Lib.hid hd
     obtain ⟨b0, b1, b2, b3, b4, b5, f0, f1, f2, f3, f4, f5⟩ := hd.cells
     obtain ⟨z0, z1, z2, z3, z4, z5, y0, y1, y2, y3, y4, y5⟩ := termZero_facts hd.res
     clear hd))
  have HX := DFirstPost.bad HD.out H0.out (Nat.le_refl _) (by have := HLT.out; omega) HR.out rfl rfl (by decide)
  have hres := stored_at HD.out.res [] false [] [] [] [] (.slice none 0 0) (.slice none 0 0) (.slice none 0 0) (.slice none 0 0)
  change bodyPost _ _ _ _ _ (storeTerm w2 w.heap.size ⟨[], false, [], [], [], []⟩ (tri (.slice none 0 0) (.slice none 0 0) (.slice none 0 0)) (.slice none 0 0))
  generalize storeTerm w2 w.heap.size ⟨[], false, [], [], [], []⟩ (tri (.slice none 0 0) (.slice none 0 0) (.slice none 0 0)) (.slice none 0 0) = W' at *
  exact bodyPost_ret (by simp [results, Tryz.results25, go_sem, hres]) rfl HX
end
end Go.Proofs.YtcfgppjhgobboaaGreatDoor
