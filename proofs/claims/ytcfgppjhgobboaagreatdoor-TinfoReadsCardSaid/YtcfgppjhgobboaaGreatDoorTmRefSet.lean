/-
  What Set of the document returns.
  What Set of the document returns, for the name of an extended capability; for every name.
-/
import Derived.Test.YtcfgppjhgobboaaGreatDoorTmRefGet
import Derived.Test.YtcfgppjhgobboaaGreatDoorTiRefCheck
namespace Go.Proofs.YtcfgppjhgobboaaGreatDoor
section
open Go.RowKit Go.Shelf Go.Lib
attribute [local go_sem] Oper.semAt_some

def RSetPost (w : World) (r : TermD × Int) (e : Ending) (w' : World) : Prop := ∃ u ue, e = .returned (.tuple #[termVal r.1 u ue, .int .i64 r.2]) ∧ TermV w' u ue r.1 ∧ Below w.heap.size w w'
theorem TermV.mk4 {W : World} {p q r s : Value} {t : TermD} (h0 : CapsV W p t.bools) (h1 : CapsV W q t.nums) (h2 : CapsV W r t.strs) (h3 : ExtsV W s t.exts) : TermV W (tri p q r) s t := by
  refine ⟨fun i hi => ?_, h3⟩
  match i, hi with
  | 0, _ => exact h0
  | 1, _ => exact h1
  | 2, _ => exact h2
theorem CapRow.kept {W W' : World} {v : Value} {l : List CapD} (h : CapRow W v l) (hb : ∀ k, v.ownBlock = some k → W'.heap[k]? = W.heap[k]?) (hl : l.length * 32 ≤ 140737488355328) : CapsV W' v l := CapRow.reads (own_same h hb) hl
theorem TermV.zero (W : World) : TermV W (tri (.slice none 0 0) (.slice none 0 0) (.slice none 0 0)) (.slice none 0 0) term0 :=
  (TermRows.zero W 0).reads ⟨fun i hi => by match i, hi with | 0, _ | 1, _ | 2, _ => decide, by decide⟩
section
variable {w W : World} {nm : List UInt8} {wd : Bool} {p q r s : Value} {c : CapD}
theorem SetS.put (h : SetS w W nm wd p q r s c) (hT : Tabs w) (j : Nat) (u : Value) {p' q' r' s' : Value} (he : (#[str nm, .bool wd, p, q, r, s] : Array Value).setIfInBounds j u = #[str nm, .bool wd, p', q', r', s']) : SetS w (W.setCell ⟨w.heap.size, j, none⟩ u) nm wd p' q' r' s' c := by
  have ht := Touch.setCell (T := fun k => k = w.heap.size) W ⟨w.heap.size, j, none⟩ u rfl
  have hc := (Array.getElem?_eq_some_iff.1 h.cap).1
  have hr := (Array.getElem?_eq_some_iff.1 h.res).1
  have hb : Below w.heap.size w (W.setCell ⟨w.heap.size, j, none⟩ u) := (Touch.trans (Touch.of_below (T := fun k => k = w.heap.size) h.below) ht).below (Nat.le_refl _) fun k hk => by omega
  refine ⟨?_, (ht.block _ hc (by omega)).trans h.cap, (ht.block _ hr (by omega)).trans h.res, hb, hT.below hb⟩
  have := heap_setCell_same W w.heap.size j _ _ u h.box
  rw [this, he]
/-- the answer, in its box -/
theorem SetS.done (h : SetS w W nm wd p q r s c) (rt : TermD) (y : Nat → Value) (ye : Value) : Touch (fun k => k = w.heap.size + 1 + 1) W (storeTerm W (w.heap.size + 1 + 1) rt y ye) ∧ Below w.heap.size w (storeTerm W (w.heap.size + 1 + 1) rt y ye) := by
  have ht := storeTerm_touch W (w.heap.size + 1 + 1) rt y ye
  exact ⟨ht, (Touch.trans (Touch.of_below (T := fun k => w.heap.size ≤ k) h.below) (ht.mono fun k _ hk => by omega)).below (Nat.le_refl _) fun k hk => hk⟩
end

set_option maxRecDepth 100000 in
set_option maxHeartbeats 1000000 in
theorem refSet_none (w : World) (t : TermD) (v : Nat → Value) (ve : Value) (h : TermV w v ve t) (hT : Tabs w) (name : List UInt8) (c : CapD) (hp : placeP name = none) (hx : extIdx t.exts name = none) :
    Calls Tryz.prog 15 #[termVal t v ve, str name, capVal c] w (RSetPost w (setP t name c)) := by
  have hS := SetS.made w hT t.names t.wide (v 0) (v 1) (v 2) ve c
  have CG := Lib.hid (fun W (hW : Below w.heap.size w W) => refGet_any W t v ve (h.below hW) (hT.below hW) name)
  have CP := Lib.hid (fun W (hW : Tabs W) => refPlace_any name W hW)
  obtain ⟨A0, n0, A1, n1, A2, n2, A3, n3, e0, e1, e2, e3, ⟨s0, s1, s2, s3⟩, g0, g1, g2, g3⟩ := h.forms
  rw [termVal_open e0 e1 e2 e3] at CG ⊢
  rw [e0, e1, e2, e3] at hS
  have hbz : ∀ w : World, (Instr.build 26 #[]).run Tryz.prog w = .ok (.agg #[.string ⟨#[]⟩, .bool false, .slice none 0 0, .slice none 0 0, .slice none 0 0, .slice none 0 0]) w := fun w => run_build w _ _ _ (by kernel_rfl)
  have hres : placeRes name = .tuple #[.int .i64 0, .int .i64 0, .bool false] := by unfold placeRes; rw [hp]
  unfold PlacePost at CP
  rw [hres] at CP
  have hfind : findR t name = (0, cap0, false) := by rw [findR, hp]; simp only [extR, hx]
  have HV : Hid (setP t name c = (term0, 4)) := Lib.hid (by rw [setP, putTP, hp]; simp only [hx])
  rw [hfind] at CG
  unfold RefGetPost at CG
  simp only at CG
  obtain ⟨cc, hcc⟩ : ∃ cc, cc = cap0 := ⟨_, rfl⟩
  rw [← hcc] at CG
  have HS0 := Lib.hid hS
  obtain ⟨c0, c1, c2, c3, c4, c5, _, k0, k1, k2⟩ := hS.cells
  clear h hT e0 e1 e2 e3 hfind hp hx hcc hS g0 g1 g2 g3 CP hres s0 s1 s2 s3
  obtain ⟨nm, wd, l0, l1, l2, l3⟩ := t
  go_enter Tryz.func15, Tryz.ntmps15
  go_wp2_with (go_at_call 53; (with_reducible refine (CG.out _ HS0.out.below).mono ?_); rintro e W1 ⟨rfl, hb1⟩; have HS1 := Lib.hid ((HS0.out.next hb1).next ((Below.refl _ W1).alloc (Nat.le_refl _) (.cells #[.int .i64 cc.st, .int .i64 cc.num, str cc.text] 37))); have HS1' := Lib.hid (HS0.out.next hb1); clear hb1 c0 c1 c2 c3 c4 c5 k0 k1 k2; obtain ⟨d0, d1, d2, d3, d4, d5, f0, f1, f2, f3, f4, f5⟩ := termZero_facts HS1.out.res)
  generalize W1.alloc (.cells #[.int .i64 cc.st, .int .i64 cc.num, str cc.text] 37) = WX at *
  obtain ⟨r1, r2⟩ := HS1.out.done term0 (tri (.slice none 0 0) (.slice none 0 0) (.slice none 0 0)) (.slice none 0 0)
  have hres := fun j => cell_of_row (storeTerm WX (w.heap.size + 1 + 1) term0 (tri (.slice none 0 0) (.slice none 0 0) (.slice none 0 0)) (.slice none 0 0)) (w.heap.size + 1 + 1) j _ _ _ (storeTerm_box HS1.out.res)
  change bodyPost _ _ _ _ _ (storeTerm WX (w.heap.size + 1 + 1) term0 (tri (.slice none 0 0) (.slice none 0 0) (.slice none 0 0)) (.slice none 0 0))
  generalize storeTerm WX (w.heap.size + 1 + 1) term0 (tri (.slice none 0 0) (.slice none 0 0) (.slice none 0 0)) (.slice none 0 0) = W' at *
  simp only [List.getElem?_toArray] at hres
  refine bodyPost_ret (v := .tuple #[termVal term0 (tri (.slice none 0 0) (.slice none 0 0) (.slice none 0 0)) (.slice none 0 0), .int .i64 4]) (by simp [results, Tryz.results15, go_sem, hres]) rfl ?_
  exact ⟨_, _, by rw [HV.out], by rw [HV.out]; exact TermV.zero _, r2⟩

set_option maxRecDepth 100000 in
set_option maxHeartbeats 2000000 in
theorem refSet_known0 (w : World) (t : TermD) (v : Nat → Value) (ve : Value) (h : TermV w v ve t) (hT : Tabs w) (name : List UInt8) (c : CapD) (n : Nat) (hn : n ≤ 164) (hp : placeP name = some ((0 : Int), (n : Int))) :
    Calls Tryz.prog 15 #[termVal t v ve, str name, capVal c] w (RSetPost w (setP t name c)) := by
  have hS := SetS.made w hT t.names t.wide (v 0) (v 1) (v 2) ve c
  have CG := Lib.hid (fun W (hW : Below w.heap.size w W) => refGet_any W t v ve (h.below hW) (hT.below hW) name)
  have CP := Lib.hid (fun W (hW : Tabs W) => refPlace_any name W hW)
  obtain ⟨A0, n0, A1, n1, A2, n2, A3, n3, e0, e1, e2, e3, ⟨s0, s1, s2, s3⟩, g0, g1, g2, g3⟩ := h.forms
  rw [termVal_open e0 e1 e2 e3] at CG ⊢
  rw [e0, e1, e2, e3] at hS
  have hbz : ∀ w : World, (Instr.build 26 #[]).run Tryz.prog w = .ok (.agg #[.string ⟨#[]⟩, .bool false, .slice none 0 0, .slice none 0 0, .slice none 0 0, .slice none 0 0]) w := fun w => run_build w _ _ _ (by kernel_rfl)
  have hres : placeRes name = .tuple #[.int .i64 0, .int .i64 n, .bool true] := by unfold placeRes; rw [hp]
  unfold PlacePost at CP
  rw [hres] at CP
  have hfind : findR t name = (0, getP (listOf t 0) n, true) := by rw [findR, hp]; rfl
  have hput := putTP_known (t := t) (c := c) (k := 0) hp
  rw [hfind] at CG
  unfold RefGetPost at CG
  simp only at CG
  obtain ⟨cc, hcc⟩ : ∃ cc, cc = getP (listOf t 0) n := ⟨_, rfl⟩
  rw [← hcc] at CG
  have HS0 := Lib.hid hS
  have HT := Lib.hid hT
  have G0 := Lib.hid g0
  have G1 := Lib.hid g1
  have G2 := Lib.hid g2
  have G3 := Lib.hid g3
  have hlen : (placedP (listOf t 0) n c).length * 32 ≤ 140737488355328 := by
    rw [placedP_length]
    have : (listOf t 0).length * 32 ≤ 140737488355328 := h.fits.1 0 (by omega)
    omega
  have HLEN := Lib.hid hlen
  obtain ⟨c0, c1, c2, c3, c4, c5, _, k0, k1, k2⟩ := hS.cells
  clear h hT e0 e1 e2 e3 hfind hp hcc hS g0 g1 g2 g3 hres s0 s1 s2 s3 hlen
  obtain ⟨nm, wd, l0, l1, l2, l3⟩ := t
  have CW := Lib.hid (fun W (hW : Below w.heap.size w W) => with_any W _ l0 n c (G0.out.below hW) hn)
  have HP : Hid (putTP ⟨nm, wd, l0, l1, l2, l3⟩ name c = some ⟨nm, wd, (placedP l0 n c), l1, l2, l3⟩) := Lib.hid hput
  clear hput
  change Hid ((placedP l0 n c).length * 32 ≤ 140737488355328) at HLEN
  simp only at CG HS0 c0 c1 c2 c3 c4 c5 ⊢
  by_cases hc : checkP ⟨nm, wd, (placedP l0 n c), l1, l2, l3⟩ = 0
  · have HV : Hid (setP ⟨nm, wd, l0, l1, l2, l3⟩ name c = (⟨nm, wd, (placedP l0 n c), l1, l2, l3⟩, 0)) := Lib.hid (by rw [setP, HP.out]; simp only [hc, if_true])
    have HC := Lib.hid hc
    clear hc
    go_enter Tryz.func15, Tryz.ntmps15
    go_wp2_with (first
      | (go_at_call 53; (with_reducible refine (CG.out _ HS0.out.below).mono ?_); rintro e W1 ⟨rfl, hb1⟩; have HS1 := Lib.hid ((HS0.out.next hb1).next ((Below.refl _ W1).alloc (Nat.le_refl _) (.cells #[.int .i64 cc.st, .int .i64 cc.num, str cc.text] 37))); have HS1' := Lib.hid (HS0.out.next hb1); clear hb1 c0 c1 c2 c3 c4 c5 k0 k1 k2)
      | (go_at_call 54; (with_reducible refine (CP.out _ HS1.out.tabs).mono ?_); rintro e W2 ⟨rfl, hb2⟩; have HS2 := Lib.hid (HS1.out.next hb2); obtain ⟨c0, c1, c2, c3, c4, c5, fz, k0, k1, k2⟩ := HS2.out.cells; clear hb2 fz)
      | (go_at_call 55; (with_reducible refine (CW.out _ HS2.out.below).mono ?_); rintro e W3 ⟨u, rfl, hr, hb3, ho⟩; obtain ⟨A, cp, rfl⟩ := hr.form; have HS3 := Lib.hid (HS2.out.next hb3); have HR := Lib.hid (And.intro hr (fun b hb => And.intro (ho b hb) (own_lt hr b hb).2)); have HS4 := Lib.hid (SetS.put (p' := (.slice A (placedP l0 n c).length cp)) (q' := (.slice A1 l1.length n1)) (r' := (.slice A2 l2.length n2)) (s' := (.slice A3 l3.length n3)) HS3.out HT.out 2 (.slice A (placedP l0 n c).length cp) rfl); have HSZ2 := Lib.hid (Array.getElem?_eq_some_iff.1 HS2.out.res).1; clear c0 c1 c2 c3 c4 c5 k0 k1 k2 hr hb3 ho; obtain ⟨c0, c1, c2, c3, c4, c5, fz, k0, k1, k2⟩ := HS3.out.cells; have f := fz 2; clear fz)
      | (go_at_call 44; have CH := refCheck_any (W3.setCell ⟨w.heap.size, 2, none⟩ (.slice A (placedP l0 n c).length cp)) ⟨nm, wd, (placedP l0 n c), l1, l2, l3⟩ (tri (.slice A (placedP l0 n c).length cp) (.slice A1 l1.length n1) (.slice A2 l2.length n2)) (.slice A3 l3.length n3) (TermV.mk4 (HR.out.1.kept (fun b hb => (Touch.setCell (T := fun k => k = w.heap.size) W3 ⟨w.heap.size, 2, none⟩ (.slice A (placedP l0 n c).length cp) rfl).block b (HR.out.2 b hb).2 (by have := (HR.out.2 b hb).1; have := HSZ2.out; omega)) HLEN.out) (G1.out.below HS4.out.below) (G2.out.below HS4.out.below) (G3.out.below HS4.out.below)) HS4.out.tabs; rw [HC.out] at CH; refine (CH).mono ?_; rintro e W5 ⟨rfl, hb5⟩; have HS5 := Lib.hid (HS4.out.next hb5); have HB5 := Lib.hid hb5; clear CH c0 c1 c2 c3 c4 c5 k0 k1 k2 f; obtain ⟨c0, c1, c2, c3, c4, c5, _, k0, k1, k2⟩ := HS5.out.cells; obtain ⟨d0, d1, d2, d3, d4, d5, f0, f1, f2, f3, f4, f5⟩ := termZero_facts HS5.out.res; clear hb5))
    obtain ⟨r1, r2⟩ := HS5.out.done ⟨nm, wd, (placedP l0 n c), l1, l2, l3⟩ (tri (.slice A (placedP l0 n c).length cp) (.slice A1 l1.length n1) (.slice A2 l2.length n2)) (.slice A3 l3.length n3)
    have hres := fun j => cell_of_row (storeTerm W5 (w.heap.size + 1 + 1) ⟨nm, wd, (placedP l0 n c), l1, l2, l3⟩ (tri (.slice A (placedP l0 n c).length cp) (.slice A1 l1.length n1) (.slice A2 l2.length n2)) (.slice A3 l3.length n3)) (w.heap.size + 1 + 1) j _ _ _ (storeTerm_box HS5.out.res)
    have hfin := (TermV.mk4 (HR.out.1.kept (fun b hb => (r1.block b (Nat.lt_of_lt_of_le (HR.out.2 b hb).2 (by have := HB5.out.size; simpa using this)) (by have := (HR.out.2 b hb).1; have := HSZ2.out; omega)).trans ((HB5.out.block b (by have := (HR.out.2 b hb).2; simpa using this)).trans ((Touch.setCell (T := fun k => k = w.heap.size) W3 ⟨w.heap.size, 2, none⟩ (.slice A (placedP l0 n c).length cp) rfl).block b (HR.out.2 b hb).2 (by have := (HR.out.2 b hb).1; have := HSZ2.out; omega)))) HLEN.out) (G1.out.below r2) (G2.out.below r2) (G3.out.below r2) : TermV (storeTerm W5 (w.heap.size + 1 + 1) ⟨nm, wd, (placedP l0 n c), l1, l2, l3⟩ (tri (.slice A (placedP l0 n c).length cp) (.slice A1 l1.length n1) (.slice A2 l2.length n2)) (.slice A3 l3.length n3)) (tri (.slice A (placedP l0 n c).length cp) (.slice A1 l1.length n1) (.slice A2 l2.length n2)) (.slice A3 l3.length n3) ⟨nm, wd, (placedP l0 n c), l1, l2, l3⟩)
    change bodyPost _ _ _ _ _ (storeTerm W5 (w.heap.size + 1 + 1) ⟨nm, wd, (placedP l0 n c), l1, l2, l3⟩ (tri (.slice A (placedP l0 n c).length cp) (.slice A1 l1.length n1) (.slice A2 l2.length n2)) (.slice A3 l3.length n3))
    generalize storeTerm W5 (w.heap.size + 1 + 1) ⟨nm, wd, (placedP l0 n c), l1, l2, l3⟩ (tri (.slice A (placedP l0 n c).length cp) (.slice A1 l1.length n1) (.slice A2 l2.length n2)) (.slice A3 l3.length n3) = W' at *
    simp only [List.getElem?_toArray] at hres
    refine bodyPost_ret (v := .tuple #[termVal ⟨nm, wd, (placedP l0 n c), l1, l2, l3⟩ (tri (.slice A (placedP l0 n c).length cp) (.slice A1 l1.length n1) (.slice A2 l2.length n2)) (.slice A3 l3.length n3), .int .i64 0]) (by simp [results, Tryz.results15, go_sem, hres]) rfl ?_
    exact ⟨_, _, by rw [HV.out], by rw [HV.out]; exact hfin, r2⟩
  · obtain ⟨er, her⟩ : ∃ er, checkP ⟨nm, wd, (placedP l0 n c), l1, l2, l3⟩ = er := ⟨_, rfl⟩
    have HV : Hid (setP ⟨nm, wd, l0, l1, l2, l3⟩ name c = (term0, er)) := Lib.hid (by rw [setP, HP.out, ← her]; simp only [hc, if_false])
    have HC := Lib.hid her
    rw [her] at hc
    clear her
    go_enter Tryz.func15, Tryz.ntmps15
    go_wp2_with (first
      | (go_at_call 53; (with_reducible refine (CG.out _ HS0.out.below).mono ?_); rintro e W1 ⟨rfl, hb1⟩; have HS1 := Lib.hid ((HS0.out.next hb1).next ((Below.refl _ W1).alloc (Nat.le_refl _) (.cells #[.int .i64 cc.st, .int .i64 cc.num, str cc.text] 37))); have HS1' := Lib.hid (HS0.out.next hb1); clear hb1 c0 c1 c2 c3 c4 c5 k0 k1 k2)
      | (go_at_call 54; (with_reducible refine (CP.out _ HS1.out.tabs).mono ?_); rintro e W2 ⟨rfl, hb2⟩; have HS2 := Lib.hid (HS1.out.next hb2); obtain ⟨c0, c1, c2, c3, c4, c5, fz, k0, k1, k2⟩ := HS2.out.cells; clear hb2 fz)
      | (go_at_call 55; (with_reducible refine (CW.out _ HS2.out.below).mono ?_); rintro e W3 ⟨u, rfl, hr, hb3, ho⟩; obtain ⟨A, cp, rfl⟩ := hr.form; have HS3 := Lib.hid (HS2.out.next hb3); have HR := Lib.hid (And.intro hr (fun b hb => And.intro (ho b hb) (own_lt hr b hb).2)); have HS4 := Lib.hid (SetS.put (p' := (.slice A (placedP l0 n c).length cp)) (q' := (.slice A1 l1.length n1)) (r' := (.slice A2 l2.length n2)) (s' := (.slice A3 l3.length n3)) HS3.out HT.out 2 (.slice A (placedP l0 n c).length cp) rfl); have HSZ2 := Lib.hid (Array.getElem?_eq_some_iff.1 HS2.out.res).1; clear c0 c1 c2 c3 c4 c5 k0 k1 k2 hr hb3 ho; obtain ⟨c0, c1, c2, c3, c4, c5, fz, k0, k1, k2⟩ := HS3.out.cells; have f := fz 2; clear fz)
      | (go_at_call 44; have CH := refCheck_any (W3.setCell ⟨w.heap.size, 2, none⟩ (.slice A (placedP l0 n c).length cp)) ⟨nm, wd, (placedP l0 n c), l1, l2, l3⟩ (tri (.slice A (placedP l0 n c).length cp) (.slice A1 l1.length n1) (.slice A2 l2.length n2)) (.slice A3 l3.length n3) (TermV.mk4 (HR.out.1.kept (fun b hb => (Touch.setCell (T := fun k => k = w.heap.size) W3 ⟨w.heap.size, 2, none⟩ (.slice A (placedP l0 n c).length cp) rfl).block b (HR.out.2 b hb).2 (by have := (HR.out.2 b hb).1; have := HSZ2.out; omega)) HLEN.out) (G1.out.below HS4.out.below) (G2.out.below HS4.out.below) (G3.out.below HS4.out.below)) HS4.out.tabs; rw [HC.out] at CH; refine (CH).mono ?_; rintro e W5 ⟨rfl, hb5⟩; have HS5 := Lib.hid (HS4.out.next hb5); have HB5 := Lib.hid hb5; clear CH c0 c1 c2 c3 c4 c5 k0 k1 k2 f; obtain ⟨c0, c1, c2, c3, c4, c5, _, k0, k1, k2⟩ := HS5.out.cells; obtain ⟨d0, d1, d2, d3, d4, d5, f0, f1, f2, f3, f4, f5⟩ := termZero_facts HS5.out.res; clear hb5))
    obtain ⟨r1, r2⟩ := HS5.out.done term0 (tri (.slice none 0 0) (.slice none 0 0) (.slice none 0 0)) (.slice none 0 0)
    have hres := fun j => cell_of_row (storeTerm W5 (w.heap.size + 1 + 1) term0 (tri (.slice none 0 0) (.slice none 0 0) (.slice none 0 0)) (.slice none 0 0)) (w.heap.size + 1 + 1) j _ _ _ (storeTerm_box HS5.out.res)
    change bodyPost _ _ _ _ _ (storeTerm W5 (w.heap.size + 1 + 1) term0 (tri (.slice none 0 0) (.slice none 0 0) (.slice none 0 0)) (.slice none 0 0))
    generalize storeTerm W5 (w.heap.size + 1 + 1) term0 (tri (.slice none 0 0) (.slice none 0 0) (.slice none 0 0)) (.slice none 0 0) = W' at *
    simp only [List.getElem?_toArray] at hres
    refine bodyPost_ret (v := .tuple #[termVal term0 (tri (.slice none 0 0) (.slice none 0 0) (.slice none 0 0)) (.slice none 0 0), .int .i64 er]) (by simp [results, Tryz.results15, go_sem, hres]) rfl ?_
    exact ⟨_, _, by rw [HV.out], by rw [HV.out]; exact TermV.zero _, r2⟩

set_option maxRecDepth 100000 in
set_option maxHeartbeats 2000000 in
theorem refSet_known1 (w : World) (t : TermD) (v : Nat → Value) (ve : Value) (h : TermV w v ve t) (hT : Tabs w) (name : List UInt8) (c : CapD) (n : Nat) (hn : n ≤ 164) (hp : placeP name = some ((1 : Int), (n : Int))) :
    Calls Tryz.prog 15 #[termVal t v ve, str name, capVal c] w (RSetPost w (setP t name c)) := by
  have hS := SetS.made w hT t.names t.wide (v 0) (v 1) (v 2) ve c
  have CG := Lib.hid (fun W (hW : Below w.heap.size w W) => refGet_any W t v ve (h.below hW) (hT.below hW) name)
  have CP := Lib.hid (fun W (hW : Tabs W) => refPlace_any name W hW)
  obtain ⟨A0, n0, A1, n1, A2, n2, A3, n3, e0, e1, e2, e3, ⟨s0, s1, s2, s3⟩, g0, g1, g2, g3⟩ := h.forms
  rw [termVal_open e0 e1 e2 e3] at CG ⊢
  rw [e0, e1, e2, e3] at hS
  have hbz : ∀ w : World, (Instr.build 26 #[]).run Tryz.prog w = .ok (.agg #[.string ⟨#[]⟩, .bool false, .slice none 0 0, .slice none 0 0, .slice none 0 0, .slice none 0 0]) w := fun w => run_build w _ _ _ (by kernel_rfl)
  have hres : placeRes name = .tuple #[.int .i64 1, .int .i64 n, .bool true] := by unfold placeRes; rw [hp]
  unfold PlacePost at CP
  rw [hres] at CP
  have hfind : findR t name = (1, getP (listOf t 1) n, true) := by rw [findR, hp]; rfl
  have hput := putTP_known (t := t) (c := c) (k := 1) hp
  rw [hfind] at CG
  unfold RefGetPost at CG
  simp only at CG
  obtain ⟨cc, hcc⟩ : ∃ cc, cc = getP (listOf t 1) n := ⟨_, rfl⟩
  rw [← hcc] at CG
  have HS0 := Lib.hid hS
  have HT := Lib.hid hT
  have G0 := Lib.hid g0
  have G1 := Lib.hid g1
  have G2 := Lib.hid g2
  have G3 := Lib.hid g3
  have hlen : (placedP (listOf t 1) n c).length * 32 ≤ 140737488355328 := by
    rw [placedP_length]
    have : (listOf t 1).length * 32 ≤ 140737488355328 := h.fits.1 1 (by omega)
    omega
  have HLEN := Lib.hid hlen
  obtain ⟨c0, c1, c2, c3, c4, c5, _, k0, k1, k2⟩ := hS.cells
  clear h hT e0 e1 e2 e3 hfind hp hcc hS g0 g1 g2 g3 hres s0 s1 s2 s3 hlen
  obtain ⟨nm, wd, l0, l1, l2, l3⟩ := t
  have CW := Lib.hid (fun W (hW : Below w.heap.size w W) => with_any W _ l1 n c (G1.out.below hW) hn)
  have HP : Hid (putTP ⟨nm, wd, l0, l1, l2, l3⟩ name c = some ⟨nm, wd, l0, (placedP l1 n c), l2, l3⟩) := Lib.hid hput
  clear hput
  change Hid ((placedP l1 n c).length * 32 ≤ 140737488355328) at HLEN
  simp only at CG HS0 c0 c1 c2 c3 c4 c5 ⊢
  by_cases hc : checkP ⟨nm, wd, l0, (placedP l1 n c), l2, l3⟩ = 0
  · have HV : Hid (setP ⟨nm, wd, l0, l1, l2, l3⟩ name c = (⟨nm, wd, l0, (placedP l1 n c), l2, l3⟩, 0)) := Lib.hid (by rw [setP, HP.out]; simp only [hc, if_true])
    have HC := Lib.hid hc
    clear hc
    go_enter Tryz.func15, Tryz.ntmps15
    go_wp2_with (first
      | (go_at_call 53; (with_reducible refine (CG.out _ HS0.out.below).mono ?_); rintro e W1 ⟨rfl, hb1⟩; have HS1 := Lib.hid ((HS0.out.next hb1).next ((Below.refl _ W1).alloc (Nat.le_refl _) (.cells #[.int .i64 cc.st, .int .i64 cc.num, str cc.text] 37))); have HS1' := Lib.hid (HS0.out.next hb1); clear hb1 c0 c1 c2 c3 c4 c5 k0 k1 k2)
      | (go_at_call 54; (with_reducible refine (CP.out _ HS1.out.tabs).mono ?_); rintro e W2 ⟨rfl, hb2⟩; have HS2 := Lib.hid (HS1.out.next hb2); obtain ⟨c0, c1, c2, c3, c4, c5, fz, k0, k1, k2⟩ := HS2.out.cells; clear hb2 fz)
      | (go_at_call 55; (with_reducible refine (CW.out _ HS2.out.below).mono ?_); rintro e W3 ⟨u, rfl, hr, hb3, ho⟩; obtain ⟨A, cp, rfl⟩ := hr.form; have HS3 := Lib.hid (HS2.out.next hb3); have HR := Lib.hid (And.intro hr (fun b hb => And.intro (ho b hb) (own_lt hr b hb).2)); have HS4 := Lib.hid (SetS.put (p' := (.slice A0 l0.length n0)) (q' := (.slice A (placedP l1 n c).length cp)) (r' := (.slice A2 l2.length n2)) (s' := (.slice A3 l3.length n3)) HS3.out HT.out 3 (.slice A (placedP l1 n c).length cp) rfl); have HSZ2 := Lib.hid (Array.getElem?_eq_some_iff.1 HS2.out.res).1; clear c0 c1 c2 c3 c4 c5 k0 k1 k2 hr hb3 ho; obtain ⟨c0, c1, c2, c3, c4, c5, fz, k0, k1, k2⟩ := HS3.out.cells; have f := fz 3; clear fz)
      | (go_at_call 44; have CH := refCheck_any (W3.setCell ⟨w.heap.size, 3, none⟩ (.slice A (placedP l1 n c).length cp)) ⟨nm, wd, l0, (placedP l1 n c), l2, l3⟩ (tri (.slice A0 l0.length n0) (.slice A (placedP l1 n c).length cp) (.slice A2 l2.length n2)) (.slice A3 l3.length n3) (TermV.mk4 (G0.out.below HS4.out.below) (HR.out.1.kept (fun b hb => (Touch.setCell (T := fun k => k = w.heap.size) W3 ⟨w.heap.size, 3, none⟩ (.slice A (placedP l1 n c).length cp) rfl).block b (HR.out.2 b hb).2 (by have := (HR.out.2 b hb).1; have := HSZ2.out; omega)) HLEN.out) (G2.out.below HS4.out.below) (G3.out.below HS4.out.below)) HS4.out.tabs; rw [HC.out] at CH; refine (CH).mono ?_; rintro e W5 ⟨rfl, hb5⟩; have HS5 := Lib.hid (HS4.out.next hb5); have HB5 := Lib.hid hb5; clear CH c0 c1 c2 c3 c4 c5 k0 k1 k2 f; obtain ⟨c0, c1, c2, c3, c4, c5, _, k0, k1, k2⟩ := HS5.out.cells; obtain ⟨d0, d1, d2, d3, d4, d5, f0, f1, f2, f3, f4, f5⟩ := termZero_facts HS5.out.res; clear hb5))
    obtain ⟨r1, r2⟩ := HS5.out.done ⟨nm, wd, l0, (placedP l1 n c), l2, l3⟩ (tri (.slice A0 l0.length n0) (.slice A (placedP l1 n c).length cp) (.slice A2 l2.length n2)) (.slice A3 l3.length n3)
    have hres := fun j => cell_of_row (storeTerm W5 (w.heap.size + 1 + 1) ⟨nm, wd, l0, (placedP l1 n c), l2, l3⟩ (tri (.slice A0 l0.length n0) (.slice A (placedP l1 n c).length cp) (.slice A2 l2.length n2)) (.slice A3 l3.length n3)) (w.heap.size + 1 + 1) j _ _ _ (storeTerm_box HS5.out.res)
    have hfin := (TermV.mk4 (G0.out.below r2) (HR.out.1.kept (fun b hb => (r1.block b (Nat.lt_of_lt_of_le (HR.out.2 b hb).2 (by have := HB5.out.size; simpa using this)) (by have := (HR.out.2 b hb).1; have := HSZ2.out; omega)).trans ((HB5.out.block b (by have := (HR.out.2 b hb).2; simpa using this)).trans ((Touch.setCell (T := fun k => k = w.heap.size) W3 ⟨w.heap.size, 3, none⟩ (.slice A (placedP l1 n c).length cp) rfl).block b (HR.out.2 b hb).2 (by have := (HR.out.2 b hb).1; have := HSZ2.out; omega)))) HLEN.out) (G2.out.below r2) (G3.out.below r2) : TermV (storeTerm W5 (w.heap.size + 1 + 1) ⟨nm, wd, l0, (placedP l1 n c), l2, l3⟩ (tri (.slice A0 l0.length n0) (.slice A (placedP l1 n c).length cp) (.slice A2 l2.length n2)) (.slice A3 l3.length n3)) (tri (.slice A0 l0.length n0) (.slice A (placedP l1 n c).length cp) (.slice A2 l2.length n2)) (.slice A3 l3.length n3) ⟨nm, wd, l0, (placedP l1 n c), l2, l3⟩)
    change bodyPost _ _ _ _ _ (storeTerm W5 (w.heap.size + 1 + 1) ⟨nm, wd, l0, (placedP l1 n c), l2, l3⟩ (tri (.slice A0 l0.length n0) (.slice A (placedP l1 n c).length cp) (.slice A2 l2.length n2)) (.slice A3 l3.length n3))
    generalize storeTerm W5 (w.heap.size + 1 + 1) ⟨nm, wd, l0, (placedP l1 n c), l2, l3⟩ (tri (.slice A0 l0.length n0) (.slice A (placedP l1 n c).length cp) (.slice A2 l2.length n2)) (.slice A3 l3.length n3) = W' at *
    simp only [List.getElem?_toArray] at hres
    refine bodyPost_ret (v := .tuple #[termVal ⟨nm, wd, l0, (placedP l1 n c), l2, l3⟩ (tri (.slice A0 l0.length n0) (.slice A (placedP l1 n c).length cp) (.slice A2 l2.length n2)) (.slice A3 l3.length n3), .int .i64 0]) (by simp [results, Tryz.results15, go_sem, hres]) rfl ?_
    exact ⟨_, _, by rw [HV.out], by rw [HV.out]; exact hfin, r2⟩
  · obtain ⟨er, her⟩ : ∃ er, checkP ⟨nm, wd, l0, (placedP l1 n c), l2, l3⟩ = er := ⟨_, rfl⟩
    have HV : Hid (setP ⟨nm, wd, l0, l1, l2, l3⟩ name c = (term0, er)) := Lib.hid (by rw [setP, HP.out, ← her]; simp only [hc, if_false])
    have HC := Lib.hid her
    rw [her] at hc
    clear her
    go_enter Tryz.func15, Tryz.ntmps15
    go_wp2_with (first
      | (go_at_call 53; (with_reducible refine (CG.out _ HS0.out.below).mono ?_); rintro e W1 ⟨rfl, hb1⟩; have HS1 := Lib.hid ((HS0.out.next hb1).next ((Below.refl _ W1).alloc (Nat.le_refl _) (.cells #[.int .i64 cc.st, .int .i64 cc.num, str cc.text] 37))); have HS1' := Lib.hid (HS0.out.next hb1); clear hb1 c0 c1 c2 c3 c4 c5 k0 k1 k2)
      | (go_at_call 54; (with_reducible refine (CP.out _ HS1.out.tabs).mono ?_); rintro e W2 ⟨rfl, hb2⟩; have HS2 := Lib.hid (HS1.out.next hb2); obtain ⟨c0, c1, c2, c3, c4, c5, fz, k0, k1, k2⟩ := HS2.out.cells; clear hb2 fz)
      | (go_at_call 55; (with_reducible refine (CW.out _ HS2.out.below).mono ?_); rintro e W3 ⟨u, rfl, hr, hb3, ho⟩; obtain ⟨A, cp, rfl⟩ := hr.form; have HS3 := Lib.hid (HS2.out.next hb3); have HR := Lib.hid (And.intro hr (fun b hb => And.intro (ho b hb) (own_lt hr b hb).2)); have HS4 := Lib.hid (SetS.put (p' := (.slice A0 l0.length n0)) (q' := (.slice A (placedP l1 n c).length cp)) (r' := (.slice A2 l2.length n2)) (s' := (.slice A3 l3.length n3)) HS3.out HT.out 3 (.slice A (placedP l1 n c).length cp) rfl); have HSZ2 := Lib.hid (Array.getElem?_eq_some_iff.1 HS2.out.res).1; clear c0 c1 c2 c3 c4 c5 k0 k1 k2 hr hb3 ho; obtain ⟨c0, c1, c2, c3, c4, c5, fz, k0, k1, k2⟩ := HS3.out.cells; have f := fz 3; clear fz)
      | (go_at_call 44; have CH := refCheck_any (W3.setCell ⟨w.heap.size, 3, none⟩ (.slice A (placedP l1 n c).length cp)) ⟨nm, wd, l0, (placedP l1 n c), l2, l3⟩ (tri (.slice A0 l0.length n0) (.slice A (placedP l1 n c).length cp) (.slice A2 l2.length n2)) (.slice A3 l3.length n3) (TermV.mk4 (G0.out.below HS4.out.below) (HR.out.1.kept (fun b hb => (Touch.setCell (T := fun k => k = w.heap.size) W3 ⟨w.heap.size, 3, none⟩ (.slice A (placedP l1 n c).length cp) rfl).block b (HR.out.2 b hb).2 (by have := (HR.out.2 b hb).1; have := HSZ2.out; omega)) HLEN.out) (G2.out.below HS4.out.below) (G3.out.below HS4.out.below)) HS4.out.tabs; rw [HC.out] at CH; refine (CH).mono ?_; rintro e W5 ⟨rfl, hb5⟩; have HS5 := Lib.hid (HS4.out.next hb5); have HB5 := Lib.hid hb5; clear CH c0 c1 c2 c3 c4 c5 k0 k1 k2 f; obtain ⟨c0, c1, c2, c3, c4, c5, _, k0, k1, k2⟩ := HS5.out.cells; obtain ⟨d0, d1, d2, d3, d4, d5, f0, f1, f2, f3, f4, f5⟩ := termZero_facts HS5.out.res; clear hb5))
    obtain ⟨r1, r2⟩ := HS5.out.done term0 (tri (.slice none 0 0) (.slice none 0 0) (.slice none 0 0)) (.slice none 0 0)
    have hres := fun j => cell_of_row (storeTerm W5 (w.heap.size + 1 + 1) term0 (tri (.slice none 0 0) (.slice none 0 0) (.slice none 0 0)) (.slice none 0 0)) (w.heap.size + 1 + 1) j _ _ _ (storeTerm_box HS5.out.res)
    change bodyPost _ _ _ _ _ (storeTerm W5 (w.heap.size + 1 + 1) term0 (tri (.slice none 0 0) (.slice none 0 0) (.slice none 0 0)) (.slice none 0 0))
    generalize storeTerm W5 (w.heap.size + 1 + 1) term0 (tri (.slice none 0 0) (.slice none 0 0) (.slice none 0 0)) (.slice none 0 0) = W' at *
    simp only [List.getElem?_toArray] at hres
    refine bodyPost_ret (v := .tuple #[termVal term0 (tri (.slice none 0 0) (.slice none 0 0) (.slice none 0 0)) (.slice none 0 0), .int .i64 er]) (by simp [results, Tryz.results15, go_sem, hres]) rfl ?_
    exact ⟨_, _, by rw [HV.out], by rw [HV.out]; exact TermV.zero _, r2⟩

set_option maxRecDepth 100000 in
set_option maxHeartbeats 2000000 in
theorem refSet_known2 (w : World) (t : TermD) (v : Nat → Value) (ve : Value) (h : TermV w v ve t) (hT : Tabs w) (name : List UInt8) (c : CapD) (n : Nat) (hn : n ≤ 164) (hp : placeP name = some ((2 : Int), (n : Int))) :
    Calls Tryz.prog 15 #[termVal t v ve, str name, capVal c] w (RSetPost w (setP t name c)) := by
  have hS := SetS.made w hT t.names t.wide (v 0) (v 1) (v 2) ve c
  have CG := Lib.hid (fun W (hW : Below w.heap.size w W) => refGet_any W t v ve (h.below hW) (hT.below hW) name)
  have CP := Lib.hid (fun W (hW : Tabs W) => refPlace_any name W hW)
  obtain ⟨A0, n0, A1, n1, A2, n2, A3, n3, e0, e1, e2, e3, ⟨s0, s1, s2, s3⟩, g0, g1, g2, g3⟩ := h.forms
  rw [termVal_open e0 e1 e2 e3] at CG ⊢
  rw [e0, e1, e2, e3] at hS
  have hbz : ∀ w : World, (Instr.build 26 #[]).run Tryz.prog w = .ok (.agg #[.string ⟨#[]⟩, .bool false, .slice none 0 0, .slice none 0 0, .slice none 0 0, .slice none 0 0]) w := fun w => run_build w _ _ _ (by kernel_rfl)
  have hres : placeRes name = .tuple #[.int .i64 2, .int .i64 n, .bool true] := by unfold placeRes; rw [hp]
  unfold PlacePost at CP
  rw [hres] at CP
  have hfind : findR t name = (2, getP (listOf t 2) n, true) := by rw [findR, hp]; rfl
  have hput := putTP_known (t := t) (c := c) (k := 2) hp
  rw [hfind] at CG
  unfold RefGetPost at CG
  simp only at CG
  obtain ⟨cc, hcc⟩ : ∃ cc, cc = getP (listOf t 2) n := ⟨_, rfl⟩
  rw [← hcc] at CG
  have HS0 := Lib.hid hS
  have HT := Lib.hid hT
  have G0 := Lib.hid g0
  have G1 := Lib.hid g1
  have G2 := Lib.hid g2
  have G3 := Lib.hid g3
  have hlen : (placedP (listOf t 2) n c).length * 32 ≤ 140737488355328 := by
    rw [placedP_length]
    have : (listOf t 2).length * 32 ≤ 140737488355328 := h.fits.1 2 (by omega)
    omega
  have HLEN := Lib.hid hlen
  obtain ⟨c0, c1, c2, c3, c4, c5, _, k0, k1, k2⟩ := hS.cells
  clear h hT e0 e1 e2 e3 hfind hp hcc hS g0 g1 g2 g3 hres s0 s1 s2 s3 hlen
  obtain ⟨nm, wd, l0, l1, l2, l3⟩ := t
  have CW := Lib.hid (fun W (hW : Below w.heap.size w W) => with_any W _ l2 n c (G2.out.below hW) hn)
  have HP : Hid (putTP ⟨nm, wd, l0, l1, l2, l3⟩ name c = some ⟨nm, wd, l0, l1, (placedP l2 n c), l3⟩) := Lib.hid hput
  clear hput
  change Hid ((placedP l2 n c).length * 32 ≤ 140737488355328) at HLEN
  simp only at CG HS0 c0 c1 c2 c3 c4 c5 ⊢
  by_cases hc : checkP ⟨nm, wd, l0, l1, (placedP l2 n c), l3⟩ = 0
  · have HV : Hid (setP ⟨nm, wd, l0, l1, l2, l3⟩ name c = (⟨nm, wd, l0, l1, (placedP l2 n c), l3⟩, 0)) := Lib.hid (by rw [setP, HP.out]; simp only [hc, if_true])
    have HC := Lib.hid hc
    clear hc
    go_enter Tryz.func15, Tryz.ntmps15
    go_wp2_with (first
      | (go_at_call 53; (with_reducible refine (CG.out _ HS0.out.below).mono ?_); rintro e W1 ⟨rfl, hb1⟩; have HS1 := Lib.hid ((HS0.out.next hb1).next ((Below.refl _ W1).alloc (Nat.le_refl _) (.cells #[.int .i64 cc.st, .int .i64 cc.num, str cc.text] 37))); have HS1' := Lib.hid (HS0.out.next hb1); clear hb1 c0 c1 c2 c3 c4 c5 k0 k1 k2)
      | (go_at_call 54; (with_reducible refine (CP.out _ HS1.out.tabs).mono ?_); rintro e W2 ⟨rfl, hb2⟩; have HS2 := Lib.hid (HS1.out.next hb2); obtain ⟨c0, c1, c2, c3, c4, c5, fz, k0, k1, k2⟩ := HS2.out.cells; clear hb2 fz)
      | (go_at_call 55; (with_reducible refine (CW.out _ HS2.out.below).mono ?_); rintro e W3 ⟨u, rfl, hr, hb3, ho⟩; obtain ⟨A, cp, rfl⟩ := hr.form; have HS3 := Lib.hid (HS2.out.next hb3); have HR := Lib.hid (And.intro hr (fun b hb => And.intro (ho b hb) (own_lt hr b hb).2)); have HS4 := Lib.hid (SetS.put (p' := (.slice A0 l0.length n0)) (q' := (.slice A1 l1.length n1)) (r' := (.slice A (placedP l2 n c).length cp)) (s' := (.slice A3 l3.length n3)) HS3.out HT.out 4 (.slice A (placedP l2 n c).length cp) rfl); have HSZ2 := Lib.hid (Array.getElem?_eq_some_iff.1 HS2.out.res).1; clear c0 c1 c2 c3 c4 c5 k0 k1 k2 hr hb3 ho; obtain ⟨c0, c1, c2, c3, c4, c5, fz, k0, k1, k2⟩ := HS3.out.cells; have f := fz 4; clear fz)
      | (go_at_call 44; have CH := refCheck_any (W3.setCell ⟨w.heap.size, 4, none⟩ (.slice A (placedP l2 n c).length cp)) ⟨nm, wd, l0, l1, (placedP l2 n c), l3⟩ (tri (.slice A0 l0.length n0) (.slice A1 l1.length n1) (.slice A (placedP l2 n c).length cp)) (.slice A3 l3.length n3) (TermV.mk4 (G0.out.below HS4.out.below) (G1.out.below HS4.out.below) (HR.out.1.kept (fun b hb => (Touch.setCell (T := fun k => k = w.heap.size) W3 ⟨w.heap.size, 4, none⟩ (.slice A (placedP l2 n c).length cp) rfl).block b (HR.out.2 b hb).2 (by have := (HR.out.2 b hb).1; have := HSZ2.out; omega)) HLEN.out) (G3.out.below HS4.out.below)) HS4.out.tabs; rw [HC.out] at CH; refine (CH).mono ?_; rintro e W5 ⟨rfl, hb5⟩; have HS5 := Lib.hid (HS4.out.next hb5); have HB5 := Lib.hid hb5; clear CH c0 c1 c2 c3 c4 c5 k0 k1 k2 f; obtain ⟨c0, c1, c2, c3, c4, c5, _, k0, k1, k2⟩ := HS5.out.cells; obtain ⟨d0, d1, d2, d3, d4, d5, f0, f1, f2, f3, f4, f5⟩ := termZero_facts HS5.out.res; clear hb5))
    obtain ⟨r1, r2⟩ := HS5.out.done ⟨nm, wd, l0, l1, (placedP l2 n c), l3⟩ (tri (.slice A0 l0.length n0) (.slice A1 l1.length n1) (.slice A (placedP l2 n c).length cp)) (.slice A3 l3.length n3)
    have hres := fun j => cell_of_row (storeTerm W5 (w.heap.size + 1 + 1) ⟨nm, wd, l0, l1, (placedP l2 n c), l3⟩ (tri (.slice A0 l0.length n0) (.slice A1 l1.length n1) (.slice A (placedP l2 n c).length cp)) (.slice A3 l3.length n3)) (w.heap.size + 1 + 1) j _ _ _ (storeTerm_box HS5.out.res)
    have hfin := (TermV.mk4 (G0.out.below r2) (G1.out.below r2) (HR.out.1.kept (fun b hb => (r1.block b (Nat.lt_of_lt_of_le (HR.out.2 b hb).2 (by have := HB5.out.size; simpa using this)) (by have := (HR.out.2 b hb).1; have := HSZ2.out; omega)).trans ((HB5.out.block b (by have := (HR.out.2 b hb).2; simpa using this)).trans ((Touch.setCell (T := fun k => k = w.heap.size) W3 ⟨w.heap.size, 4, none⟩ (.slice A (placedP l2 n c).length cp) rfl).block b (HR.out.2 b hb).2 (by have := (HR.out.2 b hb).1; have := HSZ2.out; omega)))) HLEN.out) (G3.out.below r2) : TermV (storeTerm W5 (w.heap.size + 1 + 1) ⟨nm, wd, l0, l1, (placedP l2 n c), l3⟩ (tri (.slice A0 l0.length n0) (.slice A1 l1.length n1) (.slice A (placedP l2 n c).length cp)) (.slice A3 l3.length n3)) (tri (.slice A0 l0.length n0) (.slice A1 l1.length n1) (.slice A (placedP l2 n c).length cp)) (.slice A3 l3.length n3) ⟨nm, wd, l0, l1, (placedP l2 n c), l3⟩)
    change bodyPost _ _ _ _ _ (storeTerm W5 (w.heap.size + 1 + 1) ⟨nm, wd, l0, l1, (placedP l2 n c), l3⟩ (tri (.slice A0 l0.length n0) (.slice A1 l1.length n1) (.slice A (placedP l2 n c).length cp)) (.slice A3 l3.length n3))
    generalize storeTerm W5 (w.heap.size + 1 + 1) ⟨nm, wd, l0, l1, (placedP l2 n c), l3⟩ (tri (.slice A0 l0.length n0) (.slice A1 l1.length n1) (.slice A (placedP l2 n c).length cp)) (.slice A3 l3.length n3) = W' at *
    simp only [List.getElem?_toArray] at hres
    refine bodyPost_ret (v := .tuple #[termVal ⟨nm, wd, l0, l1, (placedP l2 n c), l3⟩ (tri (.slice A0 l0.length n0) (.slice A1 l1.length n1) (.slice A (placedP l2 n c).length cp)) (.slice A3 l3.length n3), .int .i64 0]) (by simp [results, Tryz.results15, go_sem, hres]) rfl ?_
    exact ⟨_, _, by rw [HV.out], by rw [HV.out]; exact hfin, r2⟩
  · obtain ⟨er, her⟩ : ∃ er, checkP ⟨nm, wd, l0, l1, (placedP l2 n c), l3⟩ = er := ⟨_, rfl⟩
    have HV : Hid (setP ⟨nm, wd, l0, l1, l2, l3⟩ name c = (term0, er)) := Lib.hid (by rw [setP, HP.out, ← her]; simp only [hc, if_false])
    have HC := Lib.hid her
    rw [her] at hc
    clear her
    go_enter Tryz.func15, Tryz.ntmps15
    go_wp2_with (first
      | (go_at_call 53; (with_reducible refine (CG.out _ HS0.out.below).mono ?_); rintro e W1 ⟨rfl, hb1⟩; have HS1 := Lib.hid ((HS0.out.next hb1).next ((Below.refl _ W1).alloc (Nat.le_refl _) (.cells #[.int .i64 cc.st, .int .i64 cc.num, str cc.text] 37))); have HS1' := Lib.hid (HS0.out.next hb1); clear hb1 c0 c1 c2 c3 c4 c5 k0 k1 k2)
      | (go_at_call 54; (with_reducible refine (CP.out _ HS1.out.tabs).mono ?_); rintro e W2 ⟨rfl, hb2⟩; have HS2 := Lib.hid (HS1.out.next hb2); obtain ⟨c0, c1, c2, c3, c4, c5, fz, k0, k1, k2⟩ := HS2.out.cells; clear hb2 fz)
      | (go_at_call 55; (with_reducible refine (CW.out _ HS2.out.below).mono ?_); rintro e W3 ⟨u, rfl, hr, hb3, ho⟩; obtain ⟨A, cp, rfl⟩ := hr.form; have HS3 := Lib.hid (HS2.out.next hb3); have HR := Lib.hid (And.intro hr (fun b hb => And.intro (ho b hb) (own_lt hr b hb).2)); have HS4 := Lib.hid (SetS.put (p' := (.slice A0 l0.length n0)) (q' := (.slice A1 l1.length n1)) (r' := (.slice A (placedP l2 n c).length cp)) (s' := (.slice A3 l3.length n3)) HS3.out HT.out 4 (.slice A (placedP l2 n c).length cp) rfl); have HSZ2 := Lib.hid (Array.getElem?_eq_some_iff.1 HS2.out.res).1; clear c0 c1 c2 c3 c4 c5 k0 k1 k2 hr hb3 ho; obtain ⟨c0, c1, c2, c3, c4, c5, fz, k0, k1, k2⟩ := HS3.out.cells; have f := fz 4; clear fz)
      | (go_at_call 44; have CH := refCheck_any (W3.setCell ⟨w.heap.size, 4, none⟩ (.slice A (placedP l2 n c).length cp)) ⟨nm, wd, l0, l1, (placedP l2 n c), l3⟩ (tri (.slice A0 l0.length n0) (.slice A1 l1.length n1) (.slice A (placedP l2 n c).length cp)) (.slice A3 l3.length n3) (TermV.mk4 (G0.out.below HS4.out.below) (G1.out.below HS4.out.below) (HR.out.1.kept (fun b hb => (Touch.setCell (T := fun k => k = w.heap.size) W3 ⟨w.heap.size, 4, none⟩ (.slice A (placedP l2 n c).length cp) rfl).block b (HR.out.2 b hb).2 (by have := (HR.out.2 b hb).1; have := HSZ2.out; omega)) HLEN.out) (G3.out.below HS4.out.below)) HS4.out.tabs; rw [HC.out] at CH; refine (CH).mono ?_; rintro e W5 ⟨rfl, hb5⟩; have HS5 := Lib.hid (HS4.out.next hb5); have HB5 := Lib.hid hb5; clear CH c0 c1 c2 c3 c4 c5 k0 k1 k2 f; obtain ⟨c0, c1, c2, c3, c4, c5, _, k0, k1, k2⟩ := HS5.out.cells; obtain ⟨d0, d1, d2, d3, d4, d5, f0, f1, f2, f3, f4, f5⟩ := termZero_facts HS5.out.res; clear hb5))
    obtain ⟨r1, r2⟩ := HS5.out.done term0 (tri (.slice none 0 0) (.slice none 0 0) (.slice none 0 0)) (.slice none 0 0)
    have hres := fun j => cell_of_row (storeTerm W5 (w.heap.size + 1 + 1) term0 (tri (.slice none 0 0) (.slice none 0 0) (.slice none 0 0)) (.slice none 0 0)) (w.heap.size + 1 + 1) j _ _ _ (storeTerm_box HS5.out.res)
    change bodyPost _ _ _ _ _ (storeTerm W5 (w.heap.size + 1 + 1) term0 (tri (.slice none 0 0) (.slice none 0 0) (.slice none 0 0)) (.slice none 0 0))
    generalize storeTerm W5 (w.heap.size + 1 + 1) term0 (tri (.slice none 0 0) (.slice none 0 0) (.slice none 0 0)) (.slice none 0 0) = W' at *
    simp only [List.getElem?_toArray] at hres
    refine bodyPost_ret (v := .tuple #[termVal term0 (tri (.slice none 0 0) (.slice none 0 0) (.slice none 0 0)) (.slice none 0 0), .int .i64 er]) (by simp [results, Tryz.results15, go_sem, hres]) rfl ?_
    exact ⟨_, _, by rw [HV.out], by rw [HV.out]; exact TermV.zero _, r2⟩
end

section
open Go.RowKit Go.Shelf Go.Lib
attribute [local go_sem] Oper.semAt_some

theorem SetS.keep {w W W' : World} {nm : List UInt8} {wd : Bool} {p q r s : Value} {c : CapD} {g : Nat} (h : SetS w W nm wd p q r s c) (ht : Touch (fun k => k = g) W W') (hg : w.heap.size + 3 ≤ g) (hT : Tabs w) : SetS w W' nm wd p q r s c := by
  have hb : Below w.heap.size w W' := (Touch.trans (Touch.of_below (T := fun k => k = g) h.below) ht).below (Nat.le_refl _) fun k hk => by omega
  exact ⟨(ht.block _ (Array.getElem?_eq_some_iff.1 h.box).1 (by omega)).trans h.box, (ht.block _ (Array.getElem?_eq_some_iff.1 h.cap).1 (by omega)).trans h.cap, (ht.block _ (Array.getElem?_eq_some_iff.1 h.res).1 (by omega)).trans h.res, hb, hT.below hb⟩
theorem Src.below' {w w' : World} {size : Nat} {A : Option Addr} {c m : Nat} {xs : List Value} (h : Src w size A c m xs) (hb : Below w.heap.size w w') : Src w' size A c m xs := h.below hb
theorem ExtRow.kept {W W' : World} {v : Value} {l : List ExtD} (h : ExtRow W v l) (hb : ∀ k, v.ownBlock = some k → W'.heap[k]? = W.heap[k]?) (hl : l.length * 56 ≤ 140737488355328) : ExtsV W' v l := ExtRow.reads (own_same h hb) hl

set_option maxRecDepth 100000 in
set_option maxHeartbeats 2000000 in
theorem refSet_ext (w : World) (t : TermD) (v : Nat → Value) (ve : Value) (h : TermV w v ve t) (hT : Tabs w) (name : List UInt8) (c : CapD) (i : Nat) (hp : placeP name = none) (hx : extIdx t.exts name = some i) :
    Calls Tryz.prog 15 #[termVal t v ve, str name, capVal c] w (RSetPost w (setP t name c)) := by
  have hS := SetS.made w hT t.names t.wide (v 0) (v 1) (v 2) ve c
  have CG := Lib.hid (fun W (hW : Below w.heap.size w W) => refGet_any W t v ve (h.below hW) (hT.below hW) name)
  have CP := Lib.hid (fun W (hW : Tabs W) => refPlace_any name W hW)
  obtain ⟨A0, n0, A1, n1, A2, n2, A3, n3, e0, e1, e2, e3, ⟨s0, s1, s2, s3⟩, g0, g1, g2, g3⟩ := h.forms
  rw [termVal_open e0 e1 e2 e3] at CG ⊢
  rw [e0, e1, e2, e3] at hS
  have hbz : ∀ w : World, (Instr.build 26 #[]).run Tryz.prog w = .ok (.agg #[.string ⟨#[]⟩, .bool false, .slice none 0 0, .slice none 0 0, .slice none 0 0, .slice none 0 0]) w := fun w => run_build w _ _ _ (by kernel_rfl)
  have hres : placeRes name = .tuple #[.int .i64 0, .int .i64 0, .bool false] := by unfold placeRes; rw [hp]
  unfold PlacePost at CP
  rw [hres] at CP
  obtain ⟨x, hxi, hxn⟩ := extIdx_at hx
  have hfind : findR t name = (x.kind, x.cap, true) := by rw [findR, hp]; simp only [extR, hx, hxi]
  have hput : putTP t name c = some { t with exts := t.exts.modify i (withCap c) } := by unfold putTP; rw [hp, hx]; rfl
  have hpre : ∀ (j : Nat) y, j < i → t.exts[j]? = some y → ¬ y.name = name := by
    unfold extIdx at hx
    rw [List.findIdx?_eq_some_iff_getElem] at hx
    intro j y hj hy
    have := hx.2.2 j hj
    rw [(List.getElem?_eq_some_iff.1 hy).2] at this
    simpa using this
  rw [hfind] at CG
  unfold RefGetPost at CG
  simp only at CG
  obtain ⟨cc, hcc⟩ : ∃ cc, cc = x.cap := ⟨_, rfl⟩
  rw [← hcc] at CG
  obtain ⟨kd, hkd⟩ : ∃ kd, kd = x.kind := ⟨_, rfl⟩
  rw [← hkd] at CG
  have HS0 := Lib.hid hS
  have HT := Lib.hid hT
  have G0 := Lib.hid g0
  have G1 := Lib.hid g1
  have G2 := Lib.hid g2
  obtain ⟨A3', n3', e3', hle3, _, hsrc⟩ := g3
  injection e3' with e31 e32 e33
  subst e31 e33
  have HSRC := Lib.hid hsrc
  obtain ⟨ii, hi, hz, hs, hby⟩ := info_parts info_ext
  obtain ⟨c0, c1, c2, c3, c4, c5, _, k0, k1, k2⟩ := hS.cells
  have HX := Lib.hid hxi
  have HXN := Lib.hid hxn
  have HPRE := Lib.hid hpre
  clear h hT e0 e1 e2 e3 hfind hp hx hxi hxn hcc hkd hS g0 g1 g2 hres s0 s1 s2 hsrc hle3 hpre
  obtain ⟨nm, wd, l0, l1, l2, l3⟩ := t
  have HP : Hid (putTP ⟨nm, wd, l0, l1, l2, l3⟩ name c = some ⟨nm, wd, l0, l1, l2, l3.modify i (withCap c)⟩) := Lib.hid hput
  clear hput
  simp only at CG HS0 c0 c1 c2 c3 c4 c5 s3 HX HPRE HSRC ⊢
  obtain ⟨n, hln⟩ : ∃ n, l3.length = n := ⟨_, rfl⟩
  have HLN := Lib.hid hln
  have hin : i < n := by rw [← hln]; exact (List.getElem?_eq_some_iff.1 HX.out).1
  rw [hln] at CG HS0 c0 c1 c2 c3 c4 c5 s3 HSRC ⊢
  clear hln
  by_cases hc : checkP ⟨nm, wd, l0, l1, l2, l3.modify i (withCap c)⟩ = 0
  · have HV : Hid (setP ⟨nm, wd, l0, l1, l2, l3⟩ name c = (⟨nm, wd, l0, l1, l2, l3.modify i (withCap c)⟩, 0)) := Lib.hid (by rw [setP, HP.out]; simp only [hc, if_true])
    have HC := Lib.hid hc
    clear hc
    go_enter Tryz.func15, Tryz.ntmps15
    go_wp2_with (first
      | (go_at_call 53; (with_reducible refine (CG.out _ HS0.out.below).mono ?_); rintro e W1 ⟨rfl, hb1⟩; have HS1 := Lib.hid ((HS0.out.next hb1).next ((Below.refl _ W1).alloc (Nat.le_refl _) (.cells #[.int .i64 cc.st, .int .i64 cc.num, str cc.text] 37))); have HS1' := Lib.hid (HS0.out.next hb1); clear hb1 c0 c1 c2 c3 c4 c5 k0 k1 k2)
      | (go_at_call 54; (with_reducible refine (CP.out _ HS1.out.tabs).mono ?_); rintro e W2 ⟨rfl, hb2⟩; have HS2 := Lib.hid (HS1.out.next hb2); obtain ⟨c0, c1, c2, c3, c4, c5, fz, k0, k1, k2⟩ := HS2.out.cells; clear hb2 fz)
      | (at_builtin; refine wpList_append_src rfl _ _ 24 rfl W2.heap.size 48 ii _ 5 56 Tryz.underlying24 hi hz hs hby rfl (by decide) (.slice none 0 0) 0 [] rfl (World.ownsRow_nil _ _ _ _) rfl (HSRC.out.below' HS2.out.below) (extVals_one l3) (by unfold maxLen; omega) (by omega) (Nat.le_refl _) ?_; intro v1 w1 hr1 hg1 hb1; have H1 := Lib.hid hr1; have H2 := Lib.hid hg1; have H3 := Lib.hid hb1; clear hr1 hg1 hb1))
    have hrow : ExtRow w1 v1 l3 := by
      have := own_zero H1.out
      rw [Nat.zero_add, List.nil_append, ← HLN.out] at this
      exact this
    have hown : ∀ b, v1.ownBlock = some b → W2.heap.size ≤ b := fun b hb => by
      rcases H3.out with h | h
      · rw [h] at hb; cases hb
      · rw [h] at hb; injection hb with hb; omega
    have hbel : Below W2.heap.size W2 w1 := grown_below H2.out (Nat.le_refl _) fun k hk => by cases hk
    obtain ⟨A, cp, rfl⟩ := hrow.form
    obtain ⟨g, rfl, hg⟩ := hrow.head (by rw [HLN.out]; omega)
    rw [HLN.out] at hrow hown ⊢
    have hgW := hown g rfl
    have hsz2 := (Array.getElem?_eq_some_iff.1 HS2.out.res).1
    have HS3 := Lib.hid (HS2.out.next hbel)
    have hEV := hrow.reads (by rw [HLN.out]; exact s3)
    have hg3 : w.heap.size + 3 ≤ g := by omega
    have HS3' := Lib.hid (HS3.out.keep (storeExt_touch w1 g i c) hg3 HT.out)
    have HS4 := Lib.hid (SetS.put (p' := .slice A0 l0.length n0) (q' := .slice A1 l1.length n1) (r' := .slice A2 l2.length n2) (s' := (.slice (some ⟨g, 0, none⟩) n cp)) HS3'.out HT.out 5 (.slice (some ⟨g, 0, none⟩) n cp) rfl)
    have HROW := Lib.hid hrow
    have HEV := Lib.hid hEV
    have HG3 := Lib.hid (And.intro hg3 hg)
    have hgb : ¬ g = w.heap.size := by omega
    have hgc : ¬ g = w.heap.size + 1 := by omega
    clear c0 c1 c2 c3 c4 c5 k0 k1 k2 hrow hown hbel hgW hsz2 hEV hg3 hg H1 H2 H3
    obtain ⟨c0, c1, c2, c3, c4, c5, fz, k0, k1, k2⟩ := HS3.out.cells
    have f5 := fz 5
    clear fz
    go_loop [15] (fun v => ∃ k : Nat, v = .int .i64 k ∧ k ≤ i) (fun v => n - (RowKit.intOf v).toNat)
    case atStart => exact ⟨0, rfl, Nat.zero_le _⟩
    case round =>
      obtain ⟨k, rfl, hk⟩ := hrel
      have i1 : (0 : Int) ≤ (k : Int) := by omega
      have i2 : (k : Int) < (n : Int) := by omega
      obtain ⟨y, hy⟩ : ∃ y, l3[k]? = some y := ⟨_, List.getElem?_eq_getElem (by rw [HLN.out]; omega)⟩
      obtain ⟨kb, off, e', _, q0, q1, q2, q3, q4⟩ := HEV.out.cells hy
      injection e' with e'
      injection e' with ea eb
      subst ea eb
      simp only [Nat.zero_add] at q0 q1 q2 q3 q4
      by_cases hki : k = i
      · subst hki
        rw [HX.out] at hy
        injection hy with hy
        subst hy
        have hq2 : (x.name == name) = true := by simpa using HXN.out
        obtain ⟨_, _, _, fzr⟩ := HROW.out.at HX.out
        have fr2 := fzr (k * 5 + 2)
        have fr3 := fzr (k * 5 + 3)
        have fr4 := fzr (k * 5 + 4)
        clear fzr hk
        have hxn := HXN.out
        go_wp2_with (go_at_call 44; have CH := refCheck_any ((storeExt w1 g k c).setCell ⟨w.heap.size, 5, none⟩ (.slice (some ⟨g, 0, none⟩) n cp)) ⟨nm, wd, l0, l1, l2, l3.modify k (withCap c)⟩ (tri (.slice A0 l0.length n0) (.slice A1 l1.length n1) (.slice A2 l2.length n2)) (.slice (some ⟨g, 0, none⟩) n cp) (TermV.mk4 (G0.out.below HS4.out.below) (G1.out.below HS4.out.below) (G2.out.below HS4.out.below) (ExtRow.kept (W := storeExt w1 g k c) (by have := HROW.out.setAt (i := k) (c := c) (by rw [HLN.out]; omega); exact this) (fun b hb => Below.heap_setCell _ _ _ _ (by simp [Value.ownBlock] at hb; have := HG3.out.1; show b ≠ w.heap.size; omega)) (by rw [List.length_modify, HLN.out]; exact s3))) HS4.out.tabs; rw [HC.out] at CH; refine (CH).mono ?_; rintro e W5 ⟨rfl, hb5⟩; have HS5 := Lib.hid (HS4.out.next hb5); have HB5 := Lib.hid hb5; clear CH c0 c1 c2 c3 c4 c5 k0 k1 k2 f5; obtain ⟨c0, c1, c2, c3, c4, c5, _, k0, k1, k2⟩ := HS5.out.cells; obtain ⟨d0, d1, d2, d3, d4, d5, f0, f1, f2, f3, f4, f5⟩ := termZero_facts HS5.out.res; clear hb5)
        obtain ⟨r1, r2⟩ := HS5.out.done ⟨nm, wd, l0, l1, l2, l3.modify k (withCap c)⟩ (tri (.slice A0 l0.length n0) (.slice A1 l1.length n1) (.slice A2 l2.length n2)) (.slice (some ⟨g, 0, none⟩) n cp)
        have hres := fun j => cell_of_row (storeTerm W5 (w.heap.size + 1 + 1) ⟨nm, wd, l0, l1, l2, l3.modify k (withCap c)⟩ (tri (.slice A0 l0.length n0) (.slice A1 l1.length n1) (.slice A2 l2.length n2)) (.slice (some ⟨g, 0, none⟩) n cp)) (w.heap.size + 1 + 1) j _ _ _ (storeTerm_box HS5.out.res)
        have hfin : TermV (storeTerm W5 (w.heap.size + 1 + 1) ⟨nm, wd, l0, l1, l2, l3.modify k (withCap c)⟩ (tri (.slice A0 l0.length n0) (.slice A1 l1.length n1) (.slice A2 l2.length n2)) (.slice (some ⟨g, 0, none⟩) n cp)) (tri (.slice A0 l0.length n0) (.slice A1 l1.length n1) (.slice A2 l2.length n2)) (.slice (some ⟨g, 0, none⟩) n cp) ⟨nm, wd, l0, l1, l2, l3.modify k (withCap c)⟩ := TermV.mk4 (G0.out.below r2) (G1.out.below r2) (G2.out.below r2) (ExtRow.kept (W := storeExt w1 g k c) (by have := HROW.out.setAt (i := k) (c := c) (by rw [HLN.out]; omega); exact this) (fun b hb => by simp [Value.ownBlock] at hb; subst hb; exact (r1.block g (Nat.lt_of_lt_of_le HG3.out.2 (by have := HB5.out.size; simpa using this)) (by have := HG3.out.1; omega)).trans ((HB5.out.block g (by have := HG3.out.2; simpa using this)).trans (Below.heap_setCell _ _ _ _ (by have := HG3.out.1; show g ≠ w.heap.size; omega)))) (by rw [List.length_modify, HLN.out]; exact s3))
        change bodyPost _ _ _ _ _ (storeTerm W5 (w.heap.size + 1 + 1) ⟨nm, wd, l0, l1, l2, l3.modify k (withCap c)⟩ (tri (.slice A0 l0.length n0) (.slice A1 l1.length n1) (.slice A2 l2.length n2)) (.slice (some ⟨g, 0, none⟩) n cp))
        generalize storeTerm W5 (w.heap.size + 1 + 1) ⟨nm, wd, l0, l1, l2, l3.modify k (withCap c)⟩ (tri (.slice A0 l0.length n0) (.slice A1 l1.length n1) (.slice A2 l2.length n2)) (.slice (some ⟨g, 0, none⟩) n cp) = W' at *
        simp only [List.getElem?_toArray] at hres
        refine bodyPost_ret (v := .tuple #[termVal ⟨nm, wd, l0, l1, l2, l3.modify k (withCap c)⟩ (tri (.slice A0 l0.length n0) (.slice A1 l1.length n1) (.slice A2 l2.length n2)) (.slice (some ⟨g, 0, none⟩) n cp), .int .i64 0]) (by simp [results, Tryz.results15, go_sem, hres]) rfl ?_
        exact ⟨_, _, by rw [HV.out], by rw [HV.out]; exact hfin, r2⟩
      · have hne := HPRE.out k y (by omega) hy
        have hq2 : (y.name == name) = false := by simpa using hne
        clear hy
        go_wp2
        exact ⟨⟨k + 1, by go_num, by omega⟩, by simp [RowKit.intOf]; omega⟩
  · obtain ⟨er, her⟩ : ∃ er, checkP ⟨nm, wd, l0, l1, l2, l3.modify i (withCap c)⟩ = er := ⟨_, rfl⟩
    have HV : Hid (setP ⟨nm, wd, l0, l1, l2, l3⟩ name c = (term0, er)) := Lib.hid (by rw [setP, HP.out, ← her]; simp only [hc, if_false])
    have HC := Lib.hid her
    rw [her] at hc
    clear her
    go_enter Tryz.func15, Tryz.ntmps15
    go_wp2_with (first
      | (go_at_call 53; (with_reducible refine (CG.out _ HS0.out.below).mono ?_); rintro e W1 ⟨rfl, hb1⟩; have HS1 := Lib.hid ((HS0.out.next hb1).next ((Below.refl _ W1).alloc (Nat.le_refl _) (.cells #[.int .i64 cc.st, .int .i64 cc.num, str cc.text] 37))); have HS1' := Lib.hid (HS0.out.next hb1); clear hb1 c0 c1 c2 c3 c4 c5 k0 k1 k2)
      | (go_at_call 54; (with_reducible refine (CP.out _ HS1.out.tabs).mono ?_); rintro e W2 ⟨rfl, hb2⟩; have HS2 := Lib.hid (HS1.out.next hb2); obtain ⟨c0, c1, c2, c3, c4, c5, fz, k0, k1, k2⟩ := HS2.out.cells; clear hb2 fz)
      | (at_builtin; refine wpList_append_src rfl _ _ 24 rfl W2.heap.size 48 ii _ 5 56 Tryz.underlying24 hi hz hs hby rfl (by decide) (.slice none 0 0) 0 [] rfl (World.ownsRow_nil _ _ _ _) rfl (HSRC.out.below' HS2.out.below) (extVals_one l3) (by unfold maxLen; omega) (by omega) (Nat.le_refl _) ?_; intro v1 w1 hr1 hg1 hb1; have H1 := Lib.hid hr1; have H2 := Lib.hid hg1; have H3 := Lib.hid hb1; clear hr1 hg1 hb1))
    have hrow : ExtRow w1 v1 l3 := by
      have := own_zero H1.out
      rw [Nat.zero_add, List.nil_append, ← HLN.out] at this
      exact this
    have hown : ∀ b, v1.ownBlock = some b → W2.heap.size ≤ b := fun b hb => by
      rcases H3.out with h | h
      · rw [h] at hb; cases hb
      · rw [h] at hb; injection hb with hb; omega
    have hbel : Below W2.heap.size W2 w1 := grown_below H2.out (Nat.le_refl _) fun k hk => by cases hk
    obtain ⟨A, cp, rfl⟩ := hrow.form
    obtain ⟨g, rfl, hg⟩ := hrow.head (by rw [HLN.out]; omega)
    rw [HLN.out] at hrow hown ⊢
    have hgW := hown g rfl
    have hsz2 := (Array.getElem?_eq_some_iff.1 HS2.out.res).1
    have HS3 := Lib.hid (HS2.out.next hbel)
    have hEV := hrow.reads (by rw [HLN.out]; exact s3)
    have hg3 : w.heap.size + 3 ≤ g := by omega
    have HS3' := Lib.hid (HS3.out.keep (storeExt_touch w1 g i c) hg3 HT.out)
    have HS4 := Lib.hid (SetS.put (p' := .slice A0 l0.length n0) (q' := .slice A1 l1.length n1) (r' := .slice A2 l2.length n2) (s' := (.slice (some ⟨g, 0, none⟩) n cp)) HS3'.out HT.out 5 (.slice (some ⟨g, 0, none⟩) n cp) rfl)
    have HROW := Lib.hid hrow
    have HEV := Lib.hid hEV
    have HG3 := Lib.hid (And.intro hg3 hg)
    have hgb : ¬ g = w.heap.size := by omega
    have hgc : ¬ g = w.heap.size + 1 := by omega
    clear c0 c1 c2 c3 c4 c5 k0 k1 k2 hrow hown hbel hgW hsz2 hEV hg3 hg H1 H2 H3
    obtain ⟨c0, c1, c2, c3, c4, c5, fz, k0, k1, k2⟩ := HS3.out.cells
    have f5 := fz 5
    clear fz
    go_loop [15] (fun v => ∃ k : Nat, v = .int .i64 k ∧ k ≤ i) (fun v => n - (RowKit.intOf v).toNat)
    case atStart => exact ⟨0, rfl, Nat.zero_le _⟩
    case round =>
      obtain ⟨k, rfl, hk⟩ := hrel
      have i1 : (0 : Int) ≤ (k : Int) := by omega
      have i2 : (k : Int) < (n : Int) := by omega
      obtain ⟨y, hy⟩ : ∃ y, l3[k]? = some y := ⟨_, List.getElem?_eq_getElem (by rw [HLN.out]; omega)⟩
      obtain ⟨kb, off, e', _, q0, q1, q2, q3, q4⟩ := HEV.out.cells hy
      injection e' with e'
      injection e' with ea eb
      subst ea eb
      simp only [Nat.zero_add] at q0 q1 q2 q3 q4
      by_cases hki : k = i
      · subst hki
        rw [HX.out] at hy
        injection hy with hy
        subst hy
        have hq2 : (x.name == name) = true := by simpa using HXN.out
        obtain ⟨_, _, _, fzr⟩ := HROW.out.at HX.out
        have fr2 := fzr (k * 5 + 2)
        have fr3 := fzr (k * 5 + 3)
        have fr4 := fzr (k * 5 + 4)
        clear fzr hk
        have hxn := HXN.out
        go_wp2_with (go_at_call 44; have CH := refCheck_any ((storeExt w1 g k c).setCell ⟨w.heap.size, 5, none⟩ (.slice (some ⟨g, 0, none⟩) n cp)) ⟨nm, wd, l0, l1, l2, l3.modify k (withCap c)⟩ (tri (.slice A0 l0.length n0) (.slice A1 l1.length n1) (.slice A2 l2.length n2)) (.slice (some ⟨g, 0, none⟩) n cp) (TermV.mk4 (G0.out.below HS4.out.below) (G1.out.below HS4.out.below) (G2.out.below HS4.out.below) (ExtRow.kept (W := storeExt w1 g k c) (by have := HROW.out.setAt (i := k) (c := c) (by rw [HLN.out]; omega); exact this) (fun b hb => Below.heap_setCell _ _ _ _ (by simp [Value.ownBlock] at hb; have := HG3.out.1; show b ≠ w.heap.size; omega)) (by rw [List.length_modify, HLN.out]; exact s3))) HS4.out.tabs; rw [HC.out] at CH; refine (CH).mono ?_; rintro e W5 ⟨rfl, hb5⟩; have HS5 := Lib.hid (HS4.out.next hb5); have HB5 := Lib.hid hb5; clear CH c0 c1 c2 c3 c4 c5 k0 k1 k2 f5; obtain ⟨c0, c1, c2, c3, c4, c5, _, k0, k1, k2⟩ := HS5.out.cells; obtain ⟨d0, d1, d2, d3, d4, d5, f0, f1, f2, f3, f4, f5⟩ := termZero_facts HS5.out.res; clear hb5)
        obtain ⟨r1, r2⟩ := HS5.out.done term0 (tri (.slice none 0 0) (.slice none 0 0) (.slice none 0 0)) (.slice none 0 0)
        have hres := fun j => cell_of_row (storeTerm W5 (w.heap.size + 1 + 1) term0 (tri (.slice none 0 0) (.slice none 0 0) (.slice none 0 0)) (.slice none 0 0)) (w.heap.size + 1 + 1) j _ _ _ (storeTerm_box HS5.out.res)
        change bodyPost _ _ _ _ _ (storeTerm W5 (w.heap.size + 1 + 1) term0 (tri (.slice none 0 0) (.slice none 0 0) (.slice none 0 0)) (.slice none 0 0))
        generalize storeTerm W5 (w.heap.size + 1 + 1) term0 (tri (.slice none 0 0) (.slice none 0 0) (.slice none 0 0)) (.slice none 0 0) = W' at *
        simp only [List.getElem?_toArray] at hres
        refine bodyPost_ret (v := .tuple #[termVal term0 (tri (.slice none 0 0) (.slice none 0 0) (.slice none 0 0)) (.slice none 0 0), .int .i64 er]) (by simp [results, Tryz.results15, go_sem, hres]) rfl ?_
        exact ⟨_, _, by rw [HV.out], by rw [HV.out]; exact TermV.zero _, r2⟩
      · have hne := HPRE.out k y (by omega) hy
        have hq2 : (y.name == name) = false := by simpa using hne
        clear hy
        go_wp2
        exact ⟨⟨k + 1, by go_num, by omega⟩, by simp [RowKit.intOf]; omega⟩

theorem refSet_any (w : World) (t : TermD) (v : Nat → Value) (ve : Value) (h : TermV w v ve t) (hT : Tabs w) (name : List UInt8) (c : CapD) : Calls Tryz.prog 15 #[termVal t v ve, str name, capVal c] w (RSetPost w (setP t name c)) := by
  cases hp : placeP name with
  | none =>
    cases hx : extIdx t.exts name with
    | none => exact refSet_none w t v ve h hT name c hp hx
    | some i => exact refSet_ext w t v ve h hT name c i hp hx
  | some q =>
    obtain ⟨k, n⟩ := q
    obtain ⟨hk, hn0, hn⟩ := placeP_small hp
    obtain ⟨n', rfl⟩ : ∃ n' : Nat, n = n' := ⟨n.toNat, by omega⟩
    rcases hk with rfl | rfl | rfl
    · exact refSet_known0 w t v ve h hT name c n' (by omega) hp
    · exact refSet_known1 w t v ve h hT name c n' (by omega) hp
    · exact refSet_known2 w t v ve h hT name c n' (by omega) hp
end
end Go.Proofs.YtcfgppjhgobboaaGreatDoor
