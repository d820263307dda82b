/-
  Two edits in one: ends, Join.
-/
import Derived.Test.YtjgjbdpknfplkaaUdApply
namespace Go.Proofs.Ytjgjbdpknfplkaa
open Go.RowKit Go.Shelf Go.Lib
attribute [local go_sem] Oper.semAt_some

theorem bel_alloc {w W : World} (h : Below w.heap.size w W) (o : Obj) : Below w.heap.size w (W.alloc o) := h.alloc h.size o
theorem alloc_new_drew (w : World) (o : Obj) : (w.alloc o).drew.heap[w.heap.size]? = some o := alloc_new w o
theorem alloc_lt (w : World) (o : Obj) : w.heap.size < (w.alloc o).drew.heap.size := by show w.heap.size < (w.alloc o).heap.size; simp
theorem bel_drew {w W : World} (h : Below w.heap.size w W) : Below w.heap.size w W.drew := h.drew
theorem wrap_or (p : Int) (n : Nat) (hp : -9223372036854775808 ≤ p ∧ p ≤ 9223372036854775807) (hn : n ≤ 35184372088832) : wrap64 (p + (n : Int)) = p + (n : Int) ∨ wrap64 (p + (n : Int)) < p := by unfold wrap64; omega
def endsP (p : Int) (n : Nat) (q : Int) : Bool := decide (q = p + n)
set_option maxRecDepth 1000000 in
theorem ends_any (w : World) (p q : Int) (A : Option Addr) (n c : Nat) (hp : -9223372036854775808 ≤ p ∧ p ≤ 9223372036854775807) (hq : -9223372036854775808 ≤ q ∧ q ≤ 9223372036854775807) (hn : n ≤ 35184372088832) :
    Calls Try.prog 48 #[.int .i64 p, .slice A n c, .int .i64 q] w fun e w' => e = .returned (.bool (endsP p n q)) ∧ w = w' := by
  have hw := wrap_or p n hp hn
  by_cases h : p ≤ q
  · have i1 : (q ≥ p) = True := by simp; omega
    have i2 : (p ≤ q) = True := by simp; omega
    have HE : Hid (endsP p n q = decide (q = wrap64 (p + (n : Int)))) := Lib.hid (by
      unfold endsP
      rw [decide_eq_decide]
      rcases hw with hw | hw
      · rw [hw]
      · have h1 : ¬ wrap64 (p + (n : Int)) = p + n := by omega
        have h2 : (n : Int) ≥ 0 := by omega
        constructor
        · intro e
          exfalso
          rw [← e] at hw h1
          apply h1
          unfold wrap64
          omega
        · intro e; omega)
    clear h hp hq hn hw
    go_enter Try.func48, Try.ntmps48
    go_wp2
    go_ret
    exact ⟨ret_bool (by rw [HE.out]; rw [Bool.eq_iff_iff]; simp), rfl⟩
  · have i1 : (q ≥ p) = False := by simp; omega
    have i2 : (p ≤ q) = False := by simp; omega
    have HE : Hid (endsP p n q = false) := Lib.hid (by unfold endsP; rw [decide_eq_false_iff_not]; omega)
    clear h hp hq hn hw
    go_enter Try.func48, Try.ntmps48
    go_wp2
    go_ret
    exact ⟨ret_bool HE.out.symm, rfl⟩
/-- b goes on where a has inserted -/
def goesOn (a b : Ed) : Bool := decide (b.d = [] ∧ b.p = a.p + a.i.length)
/-- b removes what is before that which a has removed -/
def goesBack (a b : Ed) : Bool := decide (a.i = [] ∧ b.i = [] ∧ a.p = b.p + b.d.length)
def joinB (a b : Ed) : Bool := goesOn a b || goesBack a b
def joinE (a b : Ed) : Ed := if goesOn a b = true then ⟨a.p, a.d, a.i ++ b.i⟩ else if goesBack a b = true then ⟨b.p, b.d ++ a.d, []⟩ else ⟨0, [], []⟩
def JoinPost (w : World) (a b : Ed) (x : Ending) (w' : World) : Prop :=
  ∃ A n c A' n' c', x = .returned (.tuple #[editV (joinE a b).p (.slice A n c) (.slice A' n' c'), .bool (joinB a b)]) ∧ RRow w' w.heap.size (.slice A n c) (joinE a b).d ∧ RRow w' w.heap.size (.slice A' n' c') (joinE a b).i ∧ Below w.heap.size w w'
theorem JoinPost.of {w w' : World} {a b e : Ed} {bb : Bool} (he : joinE a b = e) (hb : joinB a b = bb) {A A' : Option Addr} {n c n' c' : Nat} (h1 : RRow w' w.heap.size (.slice A n c) e.d) (h2 : RRow w' w.heap.size (.slice A' n' c') e.i) (h3 : Below w.heap.size w w') :
    JoinPost w a b (.returned (.tuple #[editV e.p (.slice A n c) (.slice A' n' c'), .bool bb])) w' := by
  subst he hb
  exact ⟨A, n, c, A', n', c', rfl, h1, h2, h3⟩
theorem six_of {W : World} {r s : Nat} {a b c d e f : Value} (h1 : EBox W r #[a, b, c]) (h2 : EBox W s #[d, e, f]) : W.cell? ⟨r, 0, none⟩ = some a ∧ W.cell? ⟨r, 1, none⟩ = some b ∧ W.cell? ⟨r, 2, none⟩ = some c ∧ W.cell? ⟨s, 0, none⟩ = some d ∧ W.cell? ⟨s, 1, none⟩ = some e ∧ W.cell? ⟨s, 2, none⟩ = some f :=
  ⟨h1.cell 0, h1.cell 1, h1.cell 2, h2.cell 0, h2.cell 1, h2.cell 2⟩
theorem nil_of {l : List Int} (h : l.length = 0) : l = [] := List.eq_nil_of_length_eq_zero h
/-- three boxes made one behind the other -/
theorem three_boxes {w w1 : World} {x y z : Array Value} (hw1 : w1 = ((w.alloc (.cells x 24)).alloc (.cells y 24)).alloc (.cells z 24)) :
    Below w.heap.size w w1 ∧ EBox w1 w.heap.size x ∧ EBox w1 (w.heap.size + 1) y ∧ EBox w1 (w.heap.size + 1 + 1) z := by
  have b1 : Below w.heap.size w (w.alloc (.cells x 24)) := (Below.refl _ _).alloc (Nat.le_refl _) _
  have s1 : (w.alloc (.cells x 24)).heap.size = w.heap.size + 1 := by simp
  have s2 : ((w.alloc (.cells x 24)).alloc (.cells y 24)).heap.size = w.heap.size + 1 + 1 := by simp
  have b2 : Below (w.alloc (.cells x 24)).heap.size (w.alloc (.cells x 24)) ((w.alloc (.cells x 24)).alloc (.cells y 24)) := (Below.refl _ _).alloc (Nat.le_refl _) _
  have b3 : Below ((w.alloc (.cells x 24)).alloc (.cells y 24)).heap.size ((w.alloc (.cells x 24)).alloc (.cells y 24)) w1 := by rw [hw1]; exact (Below.refl _ _).alloc (Nat.le_refl _) _
  have x1 : EBox (w.alloc (.cells x 24)) w.heap.size x := alloc_new _ _
  have y1 : EBox ((w.alloc (.cells x 24)).alloc (.cells y 24)) (w.heap.size + 1) y := by
    have := alloc_new (w.alloc (.cells x 24)) (.cells y 24)
    rw [s1] at this
    exact this
  have z1 : EBox w1 (w.heap.size + 1 + 1) z := by
    have := alloc_new ((w.alloc (.cells x 24)).alloc (.cells y 24)) (.cells z 24)
    rw [← hw1, s2] at this
    exact this
  exact ⟨(b1.trans (b2.mono b1.size)).trans (b3.mono (b1.trans (b2.mono b1.size)).size), (x1.below b2).below b3, y1.below b3, z1⟩
set_option maxRecDepth 1000000 in
set_option maxHeartbeats 4000000 in
theorem join_on (w : World) (a b : Ed) (A1 A2 A3 A4 : Option Addr) (n1 n2 n3 n4 c1 c2 c3 c4 : Nat) (k1 : Holds1 w (.slice A1 n1 c1) (runeVals a.d)) (k2 : Holds1 w (.slice A2 n2 c2) (runeVals a.i)) (k4 : Holds1 w (.slice A4 n4 c4) (runeVals b.i)) (l1 : a.d.length = n1) (l2 : a.i.length = n2) (l3 : b.d.length = n3) (l4 : b.i.length = n4) (hs1 : n1 + n3 ≤ 35184372088832) (hs2 : n2 + n4 ≤ 35184372088832) (hpa : -9223372036854775808 ≤ a.p ∧ a.p ≤ 9223372036854775807) (hpb : -9223372036854775808 ≤ b.p ∧ b.p ≤ 9223372036854775807) (h3 : n3 = 0) (he1 : endsP a.p n2 b.p = true) :
    Calls Try.prog 11 #[editV a.p (.slice A1 n1 c1) (.slice A2 n2 c2), editV b.p (.slice A3 n3 c3) (.slice A4 n4 c4)] w (JoinPost w a b) := by
  obtain ⟨w1, hw1⟩ : ∃ w1, w1 = ((w.alloc (.cells #[.int .i64 a.p, .slice A1 n1 c1, .slice A2 n2 c2] 24)).alloc (.cells #[.int .i64 b.p, .slice A3 n3 c3, .slice A4 n4 c4] 24)).alloc (.cells edit0 24) := ⟨_, rfl⟩
  obtain ⟨b1, hX, hY, hZ⟩ := three_boxes hw1
  have X := Lib.hid hX
  have Y := Lib.hid hY
  have Z := Lib.hid hZ
  have B := Lib.hid b1
  have HW1 := Lib.hid hw1
  have HX : Hid (∀ W, Below w1.heap.size w1 W → W.cell? ⟨w.heap.size, 0, none⟩ = some (.int .i64 a.p) ∧ W.cell? ⟨w.heap.size, 1, none⟩ = some (.slice A1 n1 c1) ∧ W.cell? ⟨w.heap.size, 2, none⟩ = some (.slice A2 n2 c2) ∧ W.cell? ⟨w.heap.size + 1, 0, none⟩ = some (.int .i64 b.p) ∧ W.cell? ⟨w.heap.size + 1, 1, none⟩ = some (.slice A3 n3 c3) ∧ W.cell? ⟨w.heap.size + 1, 2, none⟩ = some (.slice A4 n4 c4)) := Lib.hid fun W hb =>
    ⟨(hX.below hb).cell 0, (hX.below hb).cell 1, (hX.below hb).cell 2, (hY.below hb).cell 0, (hY.below hb).cell 1, (hY.below hb).cell 2⟩
  obtain ⟨x0, x1, x2, y0, y1, y2⟩ := HX.out w1 (Below.refl _ _)
  have CE1 := Lib.hid fun W => ends_any W a.p b.p A2 n2 c2 hpa hpb (by omega)
  have CE2 := Lib.hid fun W => ends_any W b.p a.p A3 n3 c3 hpb hpa (by omega)
  have tok1 : True := trivial
  have _HS := Lib.hid (And.intro hs1 hs2)
  have HJ : Hid (joinE a b = ⟨a.p, a.d, a.i ++ b.i⟩ ∧ joinB a b = true) := Lib.hid (by
    have := l1
    have := l2
    have := l3
    have := l4
    have g1 : goesOn a b = true := by unfold goesOn; rw [decide_eq_true_iff]; exact ⟨nil_of (by omega), by unfold endsP at he1; rw [decide_eq_true_iff] at he1; rw [l2]; exact he1⟩
    unfold joinE joinB
    rw [g1]
    exact ⟨rfl, rfl⟩)
  have HE1 : Hid (endsP a.p n2 b.p = true) := Lib.hid he1
  have CC : Hid (∀ W g, Below w.heap.size w W → W.heap[g]? = some (.cells #[.slice A2 n2 c2, .slice A4 n4 c4] 22 (0, 0)) → Calls Try.prog 46 #[.slice (some ⟨g, 0, none⟩) 2 2] W fun x w' => ∃ A n c, x = .returned (.slice A n c) ∧ RRow w' w.heap.size (.slice A n c) (a.i ++ b.i) ∧ Below W.heap.size W w') := Lib.hid fun W g hb hg => by
    subst l2 l4
    have hR := rows_two hg (k2.below hb) (k4.below hb)
    refine (concat_any _ _ _ _ _ hR ⟨by simp; omega, by simp⟩).mono ?_
    rintro x w' ⟨r, rfl, h1, h2⟩
    have hfl : [a.i, b.i].flatten = a.i ++ b.i := by simp
    rw [hfl] at h1
    have h1' : RRow w' _ r (a.i ++ b.i) := h1
    obtain ⟨Ar, nr, cr, rfl⟩ := h1'.form3
    exact ⟨Ar, nr, cr, rfl, h1'.less hb.size, h2⟩
  have CL : Hid (∀ W, Below w.heap.size w W → Calls Try.prog 49 #[.slice A1 n1 c1] W fun x w' => ∃ A n c, x = .returned (.slice A n c) ∧ RRow w' w.heap.size (.slice A n c) a.d ∧ Below W.heap.size W w') := Lib.hid fun W hb => by
    refine (cloneR_any W _ a.d (k1.below hb) (by omega)).mono ?_
    rintro x w' ⟨r, rfl, h1, h2⟩
    have h1' : RRow w' _ r a.d := h1
    obtain ⟨Ar, nr, cr, rfl⟩ := h1'.form3
    exact ⟨Ar, nr, cr, rfl, h1'.less hb.size, h2⟩
  have z3a : ((n3 : Int) == 0) = true := by simp; omega
  have z3b : ((n3 : Int) = 0) = True := by simp; omega
  have z3c : (n3 = 0) = True := by simp; omega
  clear hX hY hZ b1 hw1 l1 l2 l3 l4 hs1 hs2 hpa hpb h3 he1 k1 k2 k4
  go_enter Try.func11, Try.ntmps11
  go_wp2_with fail
  rw [← HW1.out]
  go_wp2_with (first
    | (go_at_call 48; have tk := tok1; clear tok1 tk; have tok2 : True := trivial; refine (CE1.out _).mono ?_; rintro e W ⟨rfl, rfl⟩; try rw [HE1.out]))
  have D : Hid (Below w1.heap.size w1 w1.drew) := Lib.hid (Below.refl _ _).drew
  have HU : Hid (∀ W x y z, Below w1.heap.size w1 W → EBox (((W.setCell ⟨w.heap.size + 1 + 1, 0, none⟩ x).setCell ⟨w.heap.size + 1 + 1, 1, none⟩ y).setCell ⟨w.heap.size + 1 + 1, 2, none⟩ z) w.heap.size #[.int .i64 a.p, .slice A1 n1 c1, .slice A2 n2 c2] ∧ EBox (((W.setCell ⟨w.heap.size + 1 + 1, 0, none⟩ x).setCell ⟨w.heap.size + 1 + 1, 1, none⟩ y).setCell ⟨w.heap.size + 1 + 1, 2, none⟩ z) (w.heap.size + 1) #[.int .i64 b.p, .slice A3 n3 c3, .slice A4 n4 c4]) := Lib.hid fun W x y z hb =>
    ⟨(three_other W _ x y z (by omega)).trans (X.out.below hb), (three_other W _ x y z (by omega)).trans (Y.out.below hb)⟩
  have hT0 := HX.out _ D.out
  have hTA := fun o => HX.out (w1.alloc o).drew (bel_drew (bel_alloc (Below.refl _ _) o))
  go_region_held3 (fun W => W.cell? ⟨w.heap.size, 0, none⟩ = some (.int .i64 a.p) ∧ W.cell? ⟨w.heap.size, 1, none⟩ = some (.slice A1 n1 c1) ∧ W.cell? ⟨w.heap.size, 2, none⟩ = some (.slice A2 n2 c2) ∧ W.cell? ⟨w.heap.size + 1, 0, none⟩ = some (.int .i64 b.p) ∧ W.cell? ⟨w.heap.size + 1, 1, none⟩ = some (.slice A3 n3 c3) ∧ W.cell? ⟨w.heap.size + 1, 2, none⟩ = some (.slice A4 n4 c4)) (first | with_reducible exact hT0 | with_reducible exact hT1 | with_reducible exact hT2 | (refine six_of ?_ ?_; with_reducible exact (HU.out _ _ _ _ D.out).1; with_reducible exact (HU.out _ _ _ _ D.out).2) | with_reducible exact hTA _ | with_reducible exact hTB _ | go_keep | fail) (first
    | (go_at_call 49; with_reducible refine (CL.out _ (B.out.trans (D.out.mono B.out.size))).mono ?_; rintro e w2 ⟨Ac, nc, cc, rfl, hr, hb⟩; have R1 := Lib.hid hr; have D := Lib.hid (D.out.trans (hb.mono D.out.size)); have hT1 := HX.out _ D.out; have hTB := fun o => HX.out (w2.alloc o) (bel_alloc D.out o); clear hr hb)
    | (go_at_call 49; with_reducible refine (CL.out _ (B.out.trans ((bel_drew (bel_alloc (Below.refl w1.heap.size w1) _)).mono B.out.size))).mono ?_; rintro e w2 ⟨Ac, nc, cc, rfl, hr, hb⟩; have R1 := Lib.hid hr; have GR : Hid (w2.heap[w1.heap.size]? = some (.cells #[.slice A2 n2 c2, .slice A4 n4 c4] 22 (0, 0))) := Lib.hid ((hb.block _ (alloc_lt _ _)).trans (alloc_new_drew w1 _)); have D := Lib.hid ((bel_drew (bel_alloc (Below.refl w1.heap.size w1) _)).trans (hb.mono (bel_drew (bel_alloc (Below.refl w1.heap.size w1) _)).size)); have hT1 := HX.out _ D.out; clear hr hb)
    | (go_at_call 46; with_reducible refine (CC.out _ w2.heap.size (B.out.trans ((bel_alloc D.out _).mono B.out.size)) (alloc_new _ _)).mono ?_; rintro e w3 ⟨Ar, nr, cr, rfl, hr, hb⟩; have R1 := Lib.hid ((R1.out.below ((Below.refl _ _).alloc (Nat.le_refl _) _)).below hb); have R2 := Lib.hid hr; have D := Lib.hid ((bel_alloc D.out _).trans (hb.mono (bel_alloc D.out _).size)); have hT2 := HX.out _ D.out; have Z := Lib.hid (Z.out.below D.out); have q0 := Z.out.cell 0; have q1 := Z.out.cell 1; have q2 := Z.out.cell 2; have r0 := Z.out.frozen 0; have r1 := Z.out.frozen 1; have r2 := Z.out.frozen 2; clear hr hb)
    | (go_at_call 46; with_reducible refine (CC.out _ w1.heap.size (B.out.trans (D.out.mono B.out.size)) GR.out).mono ?_; rintro e w3 ⟨Ar, nr, cr, rfl, hr, hb⟩; have R1 := Lib.hid (R1.out.below hb); have R2 := Lib.hid hr; have D := Lib.hid (D.out.trans (hb.mono D.out.size)); have hT2 := HX.out _ D.out; have Z := Lib.hid (Z.out.below D.out); have q0 := Z.out.cell 0; have q1 := Z.out.cell 1; have q2 := Z.out.cell 2; have r0 := Z.out.frozen 0; have r1 := Z.out.frozen 1; have r2 := Z.out.frozen 2; clear hr hb))
  all_goals
    go_wp2
    refine ret_edit rfl rfl rfl Z.out.set rfl (.bool true) rfl ?_
    exact JoinPost.of HJ.out.1 HJ.out.2 (R1.out.three Z.out) (R2.out.three Z.out) (below_three w _ (w.heap.size + 1 + 1) (by omega) _ _ _ (B.out.trans (D.out.mono B.out.size)))
set_option maxRecDepth 1000000 in
set_option maxHeartbeats 4000000 in
theorem join_back_d (w : World) (a b : Ed) (A1 A2 A3 A4 : Option Addr) (n1 n2 n3 n4 c1 c2 c3 c4 : Nat) (k1 : Holds1 w (.slice A1 n1 c1) (runeVals a.d)) (k3 : Holds1 w (.slice A3 n3 c3) (runeVals b.d)) (l1 : a.d.length = n1) (l2 : a.i.length = n2) (l3 : b.d.length = n3) (l4 : b.i.length = n4) (hs1 : n1 + n3 ≤ 35184372088832) (hs2 : n2 + n4 ≤ 35184372088832) (hpa : -9223372036854775808 ≤ a.p ∧ a.p ≤ 9223372036854775807) (hpb : -9223372036854775808 ≤ b.p ∧ b.p ≤ 9223372036854775807) (h3 : n3 ≠ 0) (h2 : n2 = 0) (h4 : n4 = 0) (he2 : endsP b.p n3 a.p = true) :
    Calls Try.prog 11 #[editV a.p (.slice A1 n1 c1) (.slice A2 n2 c2), editV b.p (.slice A3 n3 c3) (.slice A4 n4 c4)] w (JoinPost w a b) := by
  obtain ⟨w1, hw1⟩ : ∃ w1, w1 = ((w.alloc (.cells #[.int .i64 a.p, .slice A1 n1 c1, .slice A2 n2 c2] 24)).alloc (.cells #[.int .i64 b.p, .slice A3 n3 c3, .slice A4 n4 c4] 24)).alloc (.cells edit0 24) := ⟨_, rfl⟩
  obtain ⟨b1, hX, hY, hZ⟩ := three_boxes hw1
  have X := Lib.hid hX
  have Y := Lib.hid hY
  have Z := Lib.hid hZ
  have B := Lib.hid b1
  have HW1 := Lib.hid hw1
  have HX : Hid (∀ W, Below w1.heap.size w1 W → W.cell? ⟨w.heap.size, 0, none⟩ = some (.int .i64 a.p) ∧ W.cell? ⟨w.heap.size, 1, none⟩ = some (.slice A1 n1 c1) ∧ W.cell? ⟨w.heap.size, 2, none⟩ = some (.slice A2 n2 c2) ∧ W.cell? ⟨w.heap.size + 1, 0, none⟩ = some (.int .i64 b.p) ∧ W.cell? ⟨w.heap.size + 1, 1, none⟩ = some (.slice A3 n3 c3) ∧ W.cell? ⟨w.heap.size + 1, 2, none⟩ = some (.slice A4 n4 c4)) := Lib.hid fun W hb =>
    ⟨(hX.below hb).cell 0, (hX.below hb).cell 1, (hX.below hb).cell 2, (hY.below hb).cell 0, (hY.below hb).cell 1, (hY.below hb).cell 2⟩
  obtain ⟨x0, x1, x2, y0, y1, y2⟩ := HX.out w1 (Below.refl _ _)
  have CE1 := Lib.hid fun W => ends_any W a.p b.p A2 n2 c2 hpa hpb (by omega)
  have CE2 := Lib.hid fun W => ends_any W b.p a.p A3 n3 c3 hpb hpa (by omega)
  have tok1 : True := trivial
  have _HS := Lib.hid (And.intro hs1 hs2)
  have HJ : Hid (joinE a b = ⟨b.p, b.d ++ a.d, []⟩ ∧ joinB a b = true) := Lib.hid (by
    have := l1
    have := l2
    have := l3
    have := l4
    have g1 : goesOn a b = false := by unfold goesOn; rw [decide_eq_false_iff_not]; rintro ⟨u1, u2⟩; rw [u1] at l3; simp at l3; omega
    have g2 : goesBack a b = true := by unfold goesBack; rw [decide_eq_true_iff]; exact ⟨nil_of (by omega), nil_of (by omega), by unfold endsP at he2; rw [decide_eq_true_iff] at he2; rw [l3]; exact he2⟩
    unfold joinE joinB
    rw [g1, g2]
    exact ⟨rfl, rfl⟩)
  have HE2 : Hid (endsP b.p n3 a.p = true) := Lib.hid he2
  have CC : Hid (∀ W g, Below w.heap.size w W → W.heap[g]? = some (.cells #[.slice A3 n3 c3, .slice A1 n1 c1] 22 (0, 0)) → Calls Try.prog 46 #[.slice (some ⟨g, 0, none⟩) 2 2] W fun x w' => ∃ A n c, x = .returned (.slice A n c) ∧ RRow w' w.heap.size (.slice A n c) (b.d ++ a.d) ∧ Below W.heap.size W w') := Lib.hid fun W g hb hg => by
    subst l1 l3
    have hR := rows_two hg (k3.below hb) (k1.below hb)
    refine (concat_any _ _ _ _ _ hR ⟨by simp; omega, by simp⟩).mono ?_
    rintro x w' ⟨r, rfl, h1, h2⟩
    have hfl : [b.d, a.d].flatten = b.d ++ a.d := by simp
    rw [hfl] at h1
    have h1' : RRow w' _ r (b.d ++ a.d) := h1
    obtain ⟨Ar, nr, cr, rfl⟩ := h1'.form3
    exact ⟨Ar, nr, cr, rfl, h1'.less hb.size, h2⟩
  have z3a : ((n3 : Int) == 0) = false := by simp; omega
  have z3b : ((n3 : Int) = 0) = False := by simp; omega
  have z3c : (n3 = 0) = False := by simp; omega
  have z2a : ((n2 : Int) == 0) = true := by simp; omega
  have z2b : ((n2 : Int) = 0) = True := by simp; omega
  have z2c : (n2 = 0) = True := by simp; omega
  have z4a : ((n4 : Int) == 0) = true := by simp; omega
  have z4b : ((n4 : Int) = 0) = True := by simp; omega
  have z4c : (n4 = 0) = True := by simp; omega
  clear hX hY hZ b1 hw1 l1 l2 l3 l4 hs1 hs2 hpa hpb h2 h4 he2 k1 k3 h3
  go_enter Try.func11, Try.ntmps11
  go_wp2_with fail
  rw [← HW1.out]
  go_wp2_with (first
    | (go_at_call 48; refine (CE2.out _).mono ?_; rintro e W ⟨rfl, rfl⟩; try rw [HE2.out]))
  have D : Hid (Below w1.heap.size w1 w1.drew) := Lib.hid (Below.refl _ _).drew
  have HU : Hid (∀ W x y z, Below w1.heap.size w1 W → EBox (((W.setCell ⟨w.heap.size + 1 + 1, 0, none⟩ x).setCell ⟨w.heap.size + 1 + 1, 1, none⟩ y).setCell ⟨w.heap.size + 1 + 1, 2, none⟩ z) w.heap.size #[.int .i64 a.p, .slice A1 n1 c1, .slice A2 n2 c2] ∧ EBox (((W.setCell ⟨w.heap.size + 1 + 1, 0, none⟩ x).setCell ⟨w.heap.size + 1 + 1, 1, none⟩ y).setCell ⟨w.heap.size + 1 + 1, 2, none⟩ z) (w.heap.size + 1) #[.int .i64 b.p, .slice A3 n3 c3, .slice A4 n4 c4]) := Lib.hid fun W x y z hb =>
    ⟨(three_other W _ x y z (by omega)).trans (X.out.below hb), (three_other W _ x y z (by omega)).trans (Y.out.below hb)⟩
  have hT0 := HX.out _ D.out
  have hTA := fun o => HX.out (w1.alloc o).drew (bel_drew (bel_alloc (Below.refl _ _) o))
  go_region_held3 (fun W => W.cell? ⟨w.heap.size, 0, none⟩ = some (.int .i64 a.p) ∧ W.cell? ⟨w.heap.size, 1, none⟩ = some (.slice A1 n1 c1) ∧ W.cell? ⟨w.heap.size, 2, none⟩ = some (.slice A2 n2 c2) ∧ W.cell? ⟨w.heap.size + 1, 0, none⟩ = some (.int .i64 b.p) ∧ W.cell? ⟨w.heap.size + 1, 1, none⟩ = some (.slice A3 n3 c3) ∧ W.cell? ⟨w.heap.size + 1, 2, none⟩ = some (.slice A4 n4 c4)) (first | with_reducible exact hT0 | with_reducible exact hT2 | (refine six_of ?_ ?_; with_reducible exact (HU.out _ _ _ _ D.out).1; with_reducible exact (HU.out _ _ _ _ D.out).2) | with_reducible exact hTA _ | go_keep | fail) (first
    | (go_at_call 46; refine (CC.out _ w1.heap.size (B.out.trans ((bel_drew (bel_alloc (Below.refl w1.heap.size w1) _)).mono B.out.size)) (alloc_new_drew w1 _)).mono ?_; rintro e w3 ⟨Ar, nr, cr, rfl, hr, hb⟩; have R2 := Lib.hid hr; have D := Lib.hid ((bel_drew (bel_alloc (Below.refl w1.heap.size w1) _)).trans (hb.mono (bel_drew (bel_alloc (Below.refl w1.heap.size w1) _)).size)); have hT2 := HX.out _ D.out; have Z := Lib.hid (Z.out.below D.out); have q0 := Z.out.cell 0; have q1 := Z.out.cell 1; have q2 := Z.out.cell 2; have r0 := Z.out.frozen 0; have r1 := Z.out.frozen 1; have r2 := Z.out.frozen 2; clear hr hb))
  all_goals
    go_wp2
    refine ret_edit rfl rfl rfl Z.out.set rfl (.bool true) rfl ?_
    exact JoinPost.of HJ.out.1 HJ.out.2 (R2.out.three Z.out) (RRow.nil _ _) (below_three w _ (w.heap.size + 1 + 1) (by omega) _ _ _ (B.out.trans (D.out.mono B.out.size)))
set_option maxRecDepth 1000000 in
set_option maxHeartbeats 4000000 in
theorem join_back_e (w : World) (a b : Ed) (A1 A2 A3 A4 : Option Addr) (n1 n2 n3 n4 c1 c2 c3 c4 : Nat) (k1 : Holds1 w (.slice A1 n1 c1) (runeVals a.d)) (k3 : Holds1 w (.slice A3 n3 c3) (runeVals b.d)) (l1 : a.d.length = n1) (l2 : a.i.length = n2) (l3 : b.d.length = n3) (l4 : b.i.length = n4) (hs1 : n1 + n3 ≤ 35184372088832) (hs2 : n2 + n4 ≤ 35184372088832) (hpa : -9223372036854775808 ≤ a.p ∧ a.p ≤ 9223372036854775807) (hpb : -9223372036854775808 ≤ b.p ∧ b.p ≤ 9223372036854775807) (h3 : n3 = 0) (he1 : endsP a.p n2 b.p = false) (h2 : n2 = 0) (h4 : n4 = 0) (he2 : endsP b.p n3 a.p = true) :
    Calls Try.prog 11 #[editV a.p (.slice A1 n1 c1) (.slice A2 n2 c2), editV b.p (.slice A3 n3 c3) (.slice A4 n4 c4)] w (JoinPost w a b) := by
  obtain ⟨w1, hw1⟩ : ∃ w1, w1 = ((w.alloc (.cells #[.int .i64 a.p, .slice A1 n1 c1, .slice A2 n2 c2] 24)).alloc (.cells #[.int .i64 b.p, .slice A3 n3 c3, .slice A4 n4 c4] 24)).alloc (.cells edit0 24) := ⟨_, rfl⟩
  obtain ⟨b1, hX, hY, hZ⟩ := three_boxes hw1
  have X := Lib.hid hX
  have Y := Lib.hid hY
  have Z := Lib.hid hZ
  have B := Lib.hid b1
  have HW1 := Lib.hid hw1
  have HX : Hid (∀ W, Below w1.heap.size w1 W → W.cell? ⟨w.heap.size, 0, none⟩ = some (.int .i64 a.p) ∧ W.cell? ⟨w.heap.size, 1, none⟩ = some (.slice A1 n1 c1) ∧ W.cell? ⟨w.heap.size, 2, none⟩ = some (.slice A2 n2 c2) ∧ W.cell? ⟨w.heap.size + 1, 0, none⟩ = some (.int .i64 b.p) ∧ W.cell? ⟨w.heap.size + 1, 1, none⟩ = some (.slice A3 n3 c3) ∧ W.cell? ⟨w.heap.size + 1, 2, none⟩ = some (.slice A4 n4 c4)) := Lib.hid fun W hb =>
    ⟨(hX.below hb).cell 0, (hX.below hb).cell 1, (hX.below hb).cell 2, (hY.below hb).cell 0, (hY.below hb).cell 1, (hY.below hb).cell 2⟩
  obtain ⟨x0, x1, x2, y0, y1, y2⟩ := HX.out w1 (Below.refl _ _)
  have CE1 := Lib.hid fun W => ends_any W a.p b.p A2 n2 c2 hpa hpb (by omega)
  have CE2 := Lib.hid fun W => ends_any W b.p a.p A3 n3 c3 hpb hpa (by omega)
  have tok1 : True := trivial
  have _HS := Lib.hid (And.intro hs1 hs2)
  have HJ : Hid (joinE a b = ⟨b.p, b.d ++ a.d, []⟩ ∧ joinB a b = true) := Lib.hid (by
    have := l1
    have := l2
    have := l3
    have := l4
    have g1 : goesOn a b = false := by unfold goesOn; rw [decide_eq_false_iff_not]; rintro ⟨u1, u2⟩; rw [u1] at l3; unfold endsP at he1; rw [decide_eq_false_iff_not] at he1; rw [l2] at u2; exact he1 u2
    have g2 : goesBack a b = true := by unfold goesBack; rw [decide_eq_true_iff]; exact ⟨nil_of (by omega), nil_of (by omega), by unfold endsP at he2; rw [decide_eq_true_iff] at he2; rw [l3]; exact he2⟩
    unfold joinE joinB
    rw [g1, g2]
    exact ⟨rfl, rfl⟩)
  have HE2 : Hid (endsP b.p n3 a.p = true) := Lib.hid he2
  have HE1 : Hid (endsP a.p n2 b.p = false) := Lib.hid he1
  have CC : Hid (∀ W g, Below w.heap.size w W → W.heap[g]? = some (.cells #[.slice A3 n3 c3, .slice A1 n1 c1] 22 (0, 0)) → Calls Try.prog 46 #[.slice (some ⟨g, 0, none⟩) 2 2] W fun x w' => ∃ A n c, x = .returned (.slice A n c) ∧ RRow w' w.heap.size (.slice A n c) (b.d ++ a.d) ∧ Below W.heap.size W w') := Lib.hid fun W g hb hg => by
    subst l1 l3
    have hR := rows_two hg (k3.below hb) (k1.below hb)
    refine (concat_any _ _ _ _ _ hR ⟨by simp; omega, by simp⟩).mono ?_
    rintro x w' ⟨r, rfl, h1, h2⟩
    have hfl : [b.d, a.d].flatten = b.d ++ a.d := by simp
    rw [hfl] at h1
    have h1' : RRow w' _ r (b.d ++ a.d) := h1
    obtain ⟨Ar, nr, cr, rfl⟩ := h1'.form3
    exact ⟨Ar, nr, cr, rfl, h1'.less hb.size, h2⟩
  have z3a : ((n3 : Int) == 0) = true := by simp; omega
  have z3b : ((n3 : Int) = 0) = True := by simp; omega
  have z3c : (n3 = 0) = True := by simp; omega
  have z2a : ((n2 : Int) == 0) = true := by simp; omega
  have z2b : ((n2 : Int) = 0) = True := by simp; omega
  have z2c : (n2 = 0) = True := by simp; omega
  have z4a : ((n4 : Int) == 0) = true := by simp; omega
  have z4b : ((n4 : Int) = 0) = True := by simp; omega
  have z4c : (n4 = 0) = True := by simp; omega
  clear hX hY hZ b1 hw1 l1 l2 l3 l4 hs1 hs2 hpa hpb h2 h4 he2 k1 k3 h3 he1
  go_enter Try.func11, Try.ntmps11
  go_wp2_with fail
  rw [← HW1.out]
  go_wp2_with (first
    | (go_at_call 48; have tk := tok1; clear tok1 tk; have tok2 : True := trivial; refine (CE1.out _).mono ?_; rintro e W ⟨rfl, rfl⟩; try rw [HE1.out])
    | (go_at_call 48; have tk := tok2; clear tok2 tk; refine (CE2.out _).mono ?_; rintro e W ⟨rfl, rfl⟩; try rw [HE2.out]))
  have D : Hid (Below w1.heap.size w1 w1.drew) := Lib.hid (Below.refl _ _).drew
  have HU : Hid (∀ W x y z, Below w1.heap.size w1 W → EBox (((W.setCell ⟨w.heap.size + 1 + 1, 0, none⟩ x).setCell ⟨w.heap.size + 1 + 1, 1, none⟩ y).setCell ⟨w.heap.size + 1 + 1, 2, none⟩ z) w.heap.size #[.int .i64 a.p, .slice A1 n1 c1, .slice A2 n2 c2] ∧ EBox (((W.setCell ⟨w.heap.size + 1 + 1, 0, none⟩ x).setCell ⟨w.heap.size + 1 + 1, 1, none⟩ y).setCell ⟨w.heap.size + 1 + 1, 2, none⟩ z) (w.heap.size + 1) #[.int .i64 b.p, .slice A3 n3 c3, .slice A4 n4 c4]) := Lib.hid fun W x y z hb =>
    ⟨(three_other W _ x y z (by omega)).trans (X.out.below hb), (three_other W _ x y z (by omega)).trans (Y.out.below hb)⟩
  have hT0 := HX.out _ D.out
  have hTA := fun o => HX.out (w1.alloc o).drew (bel_drew (bel_alloc (Below.refl _ _) o))
  go_region_held3 (fun W => W.cell? ⟨w.heap.size, 0, none⟩ = some (.int .i64 a.p) ∧ W.cell? ⟨w.heap.size, 1, none⟩ = some (.slice A1 n1 c1) ∧ W.cell? ⟨w.heap.size, 2, none⟩ = some (.slice A2 n2 c2) ∧ W.cell? ⟨w.heap.size + 1, 0, none⟩ = some (.int .i64 b.p) ∧ W.cell? ⟨w.heap.size + 1, 1, none⟩ = some (.slice A3 n3 c3) ∧ W.cell? ⟨w.heap.size + 1, 2, none⟩ = some (.slice A4 n4 c4)) (first | with_reducible exact hT0 | with_reducible exact hT2 | (refine six_of ?_ ?_; with_reducible exact (HU.out _ _ _ _ D.out).1; with_reducible exact (HU.out _ _ _ _ D.out).2) | with_reducible exact hTA _ | go_keep | fail) (first
    | (go_at_call 46; refine (CC.out _ w1.heap.size (B.out.trans ((bel_drew (bel_alloc (Below.refl w1.heap.size w1) _)).mono B.out.size)) (alloc_new_drew w1 _)).mono ?_; rintro e w3 ⟨Ar, nr, cr, rfl, hr, hb⟩; have R2 := Lib.hid hr; have D := Lib.hid ((bel_drew (bel_alloc (Below.refl w1.heap.size w1) _)).trans (hb.mono (bel_drew (bel_alloc (Below.refl w1.heap.size w1) _)).size)); have hT2 := HX.out _ D.out; have Z := Lib.hid (Z.out.below D.out); have q0 := Z.out.cell 0; have q1 := Z.out.cell 1; have q2 := Z.out.cell 2; have r0 := Z.out.frozen 0; have r1 := Z.out.frozen 1; have r2 := Z.out.frozen 2; clear hr hb))
  all_goals
    go_wp2
    refine ret_edit rfl rfl rfl Z.out.set rfl (.bool true) rfl ?_
    exact JoinPost.of HJ.out.1 HJ.out.2 (R2.out.three Z.out) (RRow.nil _ _) (below_three w _ (w.heap.size + 1 + 1) (by omega) _ _ _ (B.out.trans (D.out.mono B.out.size)))
set_option maxRecDepth 1000000 in
set_option maxHeartbeats 4000000 in
theorem join_none_d1 (w : World) (a b : Ed) (A1 A2 A3 A4 : Option Addr) (n1 n2 n3 n4 c1 c2 c3 c4 : Nat) (l1 : a.d.length = n1) (l2 : a.i.length = n2) (l3 : b.d.length = n3) (l4 : b.i.length = n4) (hs1 : n1 + n3 ≤ 35184372088832) (hs2 : n2 + n4 ≤ 35184372088832) (hpa : -9223372036854775808 ≤ a.p ∧ a.p ≤ 9223372036854775807) (hpb : -9223372036854775808 ≤ b.p ∧ b.p ≤ 9223372036854775807) (h3 : n3 ≠ 0) (h2 : n2 ≠ 0) :
    Calls Try.prog 11 #[editV a.p (.slice A1 n1 c1) (.slice A2 n2 c2), editV b.p (.slice A3 n3 c3) (.slice A4 n4 c4)] w (JoinPost w a b) := by
  obtain ⟨w1, hw1⟩ : ∃ w1, w1 = ((w.alloc (.cells #[.int .i64 a.p, .slice A1 n1 c1, .slice A2 n2 c2] 24)).alloc (.cells #[.int .i64 b.p, .slice A3 n3 c3, .slice A4 n4 c4] 24)).alloc (.cells edit0 24) := ⟨_, rfl⟩
  obtain ⟨b1, hX, hY, hZ⟩ := three_boxes hw1
  have X := Lib.hid hX
  have Y := Lib.hid hY
  have Z := Lib.hid hZ
  have B := Lib.hid b1
  have HW1 := Lib.hid hw1
  have HX : Hid (∀ W, Below w1.heap.size w1 W → W.cell? ⟨w.heap.size, 0, none⟩ = some (.int .i64 a.p) ∧ W.cell? ⟨w.heap.size, 1, none⟩ = some (.slice A1 n1 c1) ∧ W.cell? ⟨w.heap.size, 2, none⟩ = some (.slice A2 n2 c2) ∧ W.cell? ⟨w.heap.size + 1, 0, none⟩ = some (.int .i64 b.p) ∧ W.cell? ⟨w.heap.size + 1, 1, none⟩ = some (.slice A3 n3 c3) ∧ W.cell? ⟨w.heap.size + 1, 2, none⟩ = some (.slice A4 n4 c4)) := Lib.hid fun W hb =>
    ⟨(hX.below hb).cell 0, (hX.below hb).cell 1, (hX.below hb).cell 2, (hY.below hb).cell 0, (hY.below hb).cell 1, (hY.below hb).cell 2⟩
  obtain ⟨x0, x1, x2, y0, y1, y2⟩ := HX.out w1 (Below.refl _ _)
  have CE1 := Lib.hid fun W => ends_any W a.p b.p A2 n2 c2 hpa hpb (by omega)
  have CE2 := Lib.hid fun W => ends_any W b.p a.p A3 n3 c3 hpb hpa (by omega)
  have tok1 : True := trivial
  have _HS := Lib.hid (And.intro hs1 hs2)
  have HJ : Hid (joinE a b = ⟨0, [], []⟩ ∧ joinB a b = false) := Lib.hid (by
    have := l1
    have := l2
    have := l3
    have := l4
    have g1 : goesOn a b = false := by unfold goesOn; rw [decide_eq_false_iff_not]; rintro ⟨u1, u2⟩; rw [u1] at l3; simp at l3; omega
    have g2 : goesBack a b = false := by unfold goesBack; rw [decide_eq_false_iff_not]; rintro ⟨u1, u2, u3⟩; rw [u1] at l2; rw [u2] at l4; simp at l2; omega
    unfold joinE joinB
    rw [g1, g2]
    exact ⟨rfl, rfl⟩)
  have z3a : ((n3 : Int) == 0) = false := by simp; omega
  have z3b : ((n3 : Int) = 0) = False := by simp; omega
  have z3c : (n3 = 0) = False := by simp; omega
  have z2a : ((n2 : Int) == 0) = false := by simp; omega
  have z2b : ((n2 : Int) = 0) = False := by simp; omega
  have z2c : (n2 = 0) = False := by simp; omega
  have q0 := Z.out.cell 0
  have q1 := Z.out.cell 1
  have q2 := Z.out.cell 2
  have r0 := Z.out.frozen 0
  have r1 := Z.out.frozen 1
  have r2 := Z.out.frozen 2
  clear hX hY hZ b1 hw1 l1 l2 l3 l4 hs1 hs2 hpa hpb h3 h2
  go_enter Try.func11, Try.ntmps11
  go_wp2_with fail
  rw [← HW1.out]
  go_wp2_with fail
  refine ret_edit rfl rfl rfl Z.out rfl (.bool false) rfl ?_
  exact JoinPost.of HJ.out.1 HJ.out.2 (RRow.nil _ _) (RRow.nil _ _) B.out
set_option maxRecDepth 1000000 in
set_option maxHeartbeats 4000000 in
theorem join_none_d2 (w : World) (a b : Ed) (A1 A2 A3 A4 : Option Addr) (n1 n2 n3 n4 c1 c2 c3 c4 : Nat) (l1 : a.d.length = n1) (l2 : a.i.length = n2) (l3 : b.d.length = n3) (l4 : b.i.length = n4) (hs1 : n1 + n3 ≤ 35184372088832) (hs2 : n2 + n4 ≤ 35184372088832) (hpa : -9223372036854775808 ≤ a.p ∧ a.p ≤ 9223372036854775807) (hpb : -9223372036854775808 ≤ b.p ∧ b.p ≤ 9223372036854775807) (h3 : n3 ≠ 0) (h2 : n2 = 0) (h4 : n4 ≠ 0) :
    Calls Try.prog 11 #[editV a.p (.slice A1 n1 c1) (.slice A2 n2 c2), editV b.p (.slice A3 n3 c3) (.slice A4 n4 c4)] w (JoinPost w a b) := by
  obtain ⟨w1, hw1⟩ : ∃ w1, w1 = ((w.alloc (.cells #[.int .i64 a.p, .slice A1 n1 c1, .slice A2 n2 c2] 24)).alloc (.cells #[.int .i64 b.p, .slice A3 n3 c3, .slice A4 n4 c4] 24)).alloc (.cells edit0 24) := ⟨_, rfl⟩
  obtain ⟨b1, hX, hY, hZ⟩ := three_boxes hw1
  have X := Lib.hid hX
  have Y := Lib.hid hY
  have Z := Lib.hid hZ
  have B := Lib.hid b1
  have HW1 := Lib.hid hw1
  have HX : Hid (∀ W, Below w1.heap.size w1 W → W.cell? ⟨w.heap.size, 0, none⟩ = some (.int .i64 a.p) ∧ W.cell? ⟨w.heap.size, 1, none⟩ = some (.slice A1 n1 c1) ∧ W.cell? ⟨w.heap.size, 2, none⟩ = some (.slice A2 n2 c2) ∧ W.cell? ⟨w.heap.size + 1, 0, none⟩ = some (.int .i64 b.p) ∧ W.cell? ⟨w.heap.size + 1, 1, none⟩ = some (.slice A3 n3 c3) ∧ W.cell? ⟨w.heap.size + 1, 2, none⟩ = some (.slice A4 n4 c4)) := Lib.hid fun W hb =>
    ⟨(hX.below hb).cell 0, (hX.below hb).cell 1, (hX.below hb).cell 2, (hY.below hb).cell 0, (hY.below hb).cell 1, (hY.below hb).cell 2⟩
  obtain ⟨x0, x1, x2, y0, y1, y2⟩ := HX.out w1 (Below.refl _ _)
  have CE1 := Lib.hid fun W => ends_any W a.p b.p A2 n2 c2 hpa hpb (by omega)
  have CE2 := Lib.hid fun W => ends_any W b.p a.p A3 n3 c3 hpb hpa (by omega)
  have tok1 : True := trivial
  have _HS := Lib.hid (And.intro hs1 hs2)
  have HJ : Hid (joinE a b = ⟨0, [], []⟩ ∧ joinB a b = false) := Lib.hid (by
    have := l1
    have := l2
    have := l3
    have := l4
    have g1 : goesOn a b = false := by unfold goesOn; rw [decide_eq_false_iff_not]; rintro ⟨u1, u2⟩; rw [u1] at l3; simp at l3; omega
    have g2 : goesBack a b = false := by unfold goesBack; rw [decide_eq_false_iff_not]; rintro ⟨u1, u2, u3⟩; rw [u1] at l2; rw [u2] at l4; simp at l4; omega
    unfold joinE joinB
    rw [g1, g2]
    exact ⟨rfl, rfl⟩)
  have z3a : ((n3 : Int) == 0) = false := by simp; omega
  have z3b : ((n3 : Int) = 0) = False := by simp; omega
  have z3c : (n3 = 0) = False := by simp; omega
  have z2a : ((n2 : Int) == 0) = true := by simp; omega
  have z2b : ((n2 : Int) = 0) = True := by simp; omega
  have z2c : (n2 = 0) = True := by simp; omega
  have z4a : ((n4 : Int) == 0) = false := by simp; omega
  have z4b : ((n4 : Int) = 0) = False := by simp; omega
  have z4c : (n4 = 0) = False := by simp; omega
  have q0 := Z.out.cell 0
  have q1 := Z.out.cell 1
  have q2 := Z.out.cell 2
  have r0 := Z.out.frozen 0
  have r1 := Z.out.frozen 1
  have r2 := Z.out.frozen 2
  clear hX hY hZ b1 hw1 l1 l2 l3 l4 hs1 hs2 hpa hpb h3 h2 h4
  go_enter Try.func11, Try.ntmps11
  go_wp2_with fail
  rw [← HW1.out]
  go_wp2_with fail
  refine ret_edit rfl rfl rfl Z.out rfl (.bool false) rfl ?_
  exact JoinPost.of HJ.out.1 HJ.out.2 (RRow.nil _ _) (RRow.nil _ _) B.out
set_option maxRecDepth 1000000 in
set_option maxHeartbeats 4000000 in
theorem join_none_d3 (w : World) (a b : Ed) (A1 A2 A3 A4 : Option Addr) (n1 n2 n3 n4 c1 c2 c3 c4 : Nat) (l1 : a.d.length = n1) (l2 : a.i.length = n2) (l3 : b.d.length = n3) (l4 : b.i.length = n4) (hs1 : n1 + n3 ≤ 35184372088832) (hs2 : n2 + n4 ≤ 35184372088832) (hpa : -9223372036854775808 ≤ a.p ∧ a.p ≤ 9223372036854775807) (hpb : -9223372036854775808 ≤ b.p ∧ b.p ≤ 9223372036854775807) (h3 : n3 ≠ 0) (h2 : n2 = 0) (h4 : n4 = 0) (he2 : endsP b.p n3 a.p = false) :
    Calls Try.prog 11 #[editV a.p (.slice A1 n1 c1) (.slice A2 n2 c2), editV b.p (.slice A3 n3 c3) (.slice A4 n4 c4)] w (JoinPost w a b) := by
  obtain ⟨w1, hw1⟩ : ∃ w1, w1 = ((w.alloc (.cells #[.int .i64 a.p, .slice A1 n1 c1, .slice A2 n2 c2] 24)).alloc (.cells #[.int .i64 b.p, .slice A3 n3 c3, .slice A4 n4 c4] 24)).alloc (.cells edit0 24) := ⟨_, rfl⟩
  obtain ⟨b1, hX, hY, hZ⟩ := three_boxes hw1
  have X := Lib.hid hX
  have Y := Lib.hid hY
  have Z := Lib.hid hZ
  have B := Lib.hid b1
  have HW1 := Lib.hid hw1
  have HX : Hid (∀ W, Below w1.heap.size w1 W → W.cell? ⟨w.heap.size, 0, none⟩ = some (.int .i64 a.p) ∧ W.cell? ⟨w.heap.size, 1, none⟩ = some (.slice A1 n1 c1) ∧ W.cell? ⟨w.heap.size, 2, none⟩ = some (.slice A2 n2 c2) ∧ W.cell? ⟨w.heap.size + 1, 0, none⟩ = some (.int .i64 b.p) ∧ W.cell? ⟨w.heap.size + 1, 1, none⟩ = some (.slice A3 n3 c3) ∧ W.cell? ⟨w.heap.size + 1, 2, none⟩ = some (.slice A4 n4 c4)) := Lib.hid fun W hb =>
    ⟨(hX.below hb).cell 0, (hX.below hb).cell 1, (hX.below hb).cell 2, (hY.below hb).cell 0, (hY.below hb).cell 1, (hY.below hb).cell 2⟩
  obtain ⟨x0, x1, x2, y0, y1, y2⟩ := HX.out w1 (Below.refl _ _)
  have CE1 := Lib.hid fun W => ends_any W a.p b.p A2 n2 c2 hpa hpb (by omega)
  have CE2 := Lib.hid fun W => ends_any W b.p a.p A3 n3 c3 hpb hpa (by omega)
  have tok1 : True := trivial
  have _HS := Lib.hid (And.intro hs1 hs2)
  have HJ : Hid (joinE a b = ⟨0, [], []⟩ ∧ joinB a b = false) := Lib.hid (by
    have := l1
    have := l2
    have := l3
    have := l4
    have g1 : goesOn a b = false := by unfold goesOn; rw [decide_eq_false_iff_not]; rintro ⟨u1, u2⟩; rw [u1] at l3; simp at l3; omega
    have g2 : goesBack a b = false := by unfold goesBack; rw [decide_eq_false_iff_not]; rintro ⟨u1, u2, u3⟩; rw [u1] at l2; rw [u2] at l4; unfold endsP at he2; rw [decide_eq_false_iff_not] at he2; rw [l3] at u3; exact he2 u3
    unfold joinE joinB
    rw [g1, g2]
    exact ⟨rfl, rfl⟩)
  have HE2 : Hid (endsP b.p n3 a.p = false) := Lib.hid he2
  have z3a : ((n3 : Int) == 0) = false := by simp; omega
  have z3b : ((n3 : Int) = 0) = False := by simp; omega
  have z3c : (n3 = 0) = False := by simp; omega
  have z2a : ((n2 : Int) == 0) = true := by simp; omega
  have z2b : ((n2 : Int) = 0) = True := by simp; omega
  have z2c : (n2 = 0) = True := by simp; omega
  have z4a : ((n4 : Int) == 0) = true := by simp; omega
  have z4b : ((n4 : Int) = 0) = True := by simp; omega
  have z4c : (n4 = 0) = True := by simp; omega
  have q0 := Z.out.cell 0
  have q1 := Z.out.cell 1
  have q2 := Z.out.cell 2
  have r0 := Z.out.frozen 0
  have r1 := Z.out.frozen 1
  have r2 := Z.out.frozen 2
  clear hX hY hZ b1 hw1 l1 l2 l3 l4 hs1 hs2 hpa hpb h3 h2 h4 he2
  go_enter Try.func11, Try.ntmps11
  go_wp2_with fail
  rw [← HW1.out]
  go_wp2_with (first
    | (go_at_call 48; refine (CE2.out _).mono ?_; rintro e W ⟨rfl, rfl⟩; try rw [HE2.out]))
  refine ret_edit rfl rfl rfl Z.out.set rfl (.bool false) rfl ?_
  exact JoinPost.of HJ.out.1 HJ.out.2 (RRow.nil _ _) (RRow.nil _ _) (below_three w _ (w.heap.size + 1 + 1) (by omega) _ _ _ B.out)
set_option maxRecDepth 1000000 in
set_option maxHeartbeats 4000000 in
theorem join_none_e1 (w : World) (a b : Ed) (A1 A2 A3 A4 : Option Addr) (n1 n2 n3 n4 c1 c2 c3 c4 : Nat) (l1 : a.d.length = n1) (l2 : a.i.length = n2) (l3 : b.d.length = n3) (l4 : b.i.length = n4) (hs1 : n1 + n3 ≤ 35184372088832) (hs2 : n2 + n4 ≤ 35184372088832) (hpa : -9223372036854775808 ≤ a.p ∧ a.p ≤ 9223372036854775807) (hpb : -9223372036854775808 ≤ b.p ∧ b.p ≤ 9223372036854775807) (h3 : n3 = 0) (he1 : endsP a.p n2 b.p = false) (h2 : n2 ≠ 0) :
    Calls Try.prog 11 #[editV a.p (.slice A1 n1 c1) (.slice A2 n2 c2), editV b.p (.slice A3 n3 c3) (.slice A4 n4 c4)] w (JoinPost w a b) := by
  obtain ⟨w1, hw1⟩ : ∃ w1, w1 = ((w.alloc (.cells #[.int .i64 a.p, .slice A1 n1 c1, .slice A2 n2 c2] 24)).alloc (.cells #[.int .i64 b.p, .slice A3 n3 c3, .slice A4 n4 c4] 24)).alloc (.cells edit0 24) := ⟨_, rfl⟩
  obtain ⟨b1, hX, hY, hZ⟩ := three_boxes hw1
  have X := Lib.hid hX
  have Y := Lib.hid hY
  have Z := Lib.hid hZ
  have B := Lib.hid b1
  have HW1 := Lib.hid hw1
  have HX : Hid (∀ W, Below w1.heap.size w1 W → W.cell? ⟨w.heap.size, 0, none⟩ = some (.int .i64 a.p) ∧ W.cell? ⟨w.heap.size, 1, none⟩ = some (.slice A1 n1 c1) ∧ W.cell? ⟨w.heap.size, 2, none⟩ = some (.slice A2 n2 c2) ∧ W.cell? ⟨w.heap.size + 1, 0, none⟩ = some (.int .i64 b.p) ∧ W.cell? ⟨w.heap.size + 1, 1, none⟩ = some (.slice A3 n3 c3) ∧ W.cell? ⟨w.heap.size + 1, 2, none⟩ = some (.slice A4 n4 c4)) := Lib.hid fun W hb =>
    ⟨(hX.below hb).cell 0, (hX.below hb).cell 1, (hX.below hb).cell 2, (hY.below hb).cell 0, (hY.below hb).cell 1, (hY.below hb).cell 2⟩
  obtain ⟨x0, x1, x2, y0, y1, y2⟩ := HX.out w1 (Below.refl _ _)
  have CE1 := Lib.hid fun W => ends_any W a.p b.p A2 n2 c2 hpa hpb (by omega)
  have CE2 := Lib.hid fun W => ends_any W b.p a.p A3 n3 c3 hpb hpa (by omega)
  have tok1 : True := trivial
  have _HS := Lib.hid (And.intro hs1 hs2)
  have HJ : Hid (joinE a b = ⟨0, [], []⟩ ∧ joinB a b = false) := Lib.hid (by
    have := l1
    have := l2
    have := l3
    have := l4
    have g1 : goesOn a b = false := by unfold goesOn; rw [decide_eq_false_iff_not]; rintro ⟨u1, u2⟩; rw [u1] at l3; unfold endsP at he1; rw [decide_eq_false_iff_not] at he1; rw [l2] at u2; exact he1 u2
    have g2 : goesBack a b = false := by unfold goesBack; rw [decide_eq_false_iff_not]; rintro ⟨u1, u2, u3⟩; rw [u1] at l2; rw [u2] at l4; simp at l2; omega
    unfold joinE joinB
    rw [g1, g2]
    exact ⟨rfl, rfl⟩)
  have HE1 : Hid (endsP a.p n2 b.p = false) := Lib.hid he1
  have z3a : ((n3 : Int) == 0) = true := by simp; omega
  have z3b : ((n3 : Int) = 0) = True := by simp; omega
  have z3c : (n3 = 0) = True := by simp; omega
  have z2a : ((n2 : Int) == 0) = false := by simp; omega
  have z2b : ((n2 : Int) = 0) = False := by simp; omega
  have z2c : (n2 = 0) = False := by simp; omega
  have q0 := Z.out.cell 0
  have q1 := Z.out.cell 1
  have q2 := Z.out.cell 2
  have r0 := Z.out.frozen 0
  have r1 := Z.out.frozen 1
  have r2 := Z.out.frozen 2
  clear hX hY hZ b1 hw1 l1 l2 l3 l4 hs1 hs2 hpa hpb h3 he1 h2
  go_enter Try.func11, Try.ntmps11
  go_wp2_with fail
  rw [← HW1.out]
  go_wp2_with (first
    | (go_at_call 48; have tk := tok1; clear tok1 tk; have tok2 : True := trivial; refine (CE1.out _).mono ?_; rintro e W ⟨rfl, rfl⟩; try rw [HE1.out]))
  refine ret_edit rfl rfl rfl Z.out.set rfl (.bool false) rfl ?_
  exact JoinPost.of HJ.out.1 HJ.out.2 (RRow.nil _ _) (RRow.nil _ _) (below_three w _ (w.heap.size + 1 + 1) (by omega) _ _ _ B.out)
set_option maxRecDepth 1000000 in
set_option maxHeartbeats 4000000 in
theorem join_none_e2 (w : World) (a b : Ed) (A1 A2 A3 A4 : Option Addr) (n1 n2 n3 n4 c1 c2 c3 c4 : Nat) (l1 : a.d.length = n1) (l2 : a.i.length = n2) (l3 : b.d.length = n3) (l4 : b.i.length = n4) (hs1 : n1 + n3 ≤ 35184372088832) (hs2 : n2 + n4 ≤ 35184372088832) (hpa : -9223372036854775808 ≤ a.p ∧ a.p ≤ 9223372036854775807) (hpb : -9223372036854775808 ≤ b.p ∧ b.p ≤ 9223372036854775807) (h3 : n3 = 0) (he1 : endsP a.p n2 b.p = false) (h2 : n2 = 0) (h4 : n4 ≠ 0) :
    Calls Try.prog 11 #[editV a.p (.slice A1 n1 c1) (.slice A2 n2 c2), editV b.p (.slice A3 n3 c3) (.slice A4 n4 c4)] w (JoinPost w a b) := by
  obtain ⟨w1, hw1⟩ : ∃ w1, w1 = ((w.alloc (.cells #[.int .i64 a.p, .slice A1 n1 c1, .slice A2 n2 c2] 24)).alloc (.cells #[.int .i64 b.p, .slice A3 n3 c3, .slice A4 n4 c4] 24)).alloc (.cells edit0 24) := ⟨_, rfl⟩
  obtain ⟨b1, hX, hY, hZ⟩ := three_boxes hw1
  have X := Lib.hid hX
  have Y := Lib.hid hY
  have Z := Lib.hid hZ
  have B := Lib.hid b1
  have HW1 := Lib.hid hw1
  have HX : Hid (∀ W, Below w1.heap.size w1 W → W.cell? ⟨w.heap.size, 0, none⟩ = some (.int .i64 a.p) ∧ W.cell? ⟨w.heap.size, 1, none⟩ = some (.slice A1 n1 c1) ∧ W.cell? ⟨w.heap.size, 2, none⟩ = some (.slice A2 n2 c2) ∧ W.cell? ⟨w.heap.size + 1, 0, none⟩ = some (.int .i64 b.p) ∧ W.cell? ⟨w.heap.size + 1, 1, none⟩ = some (.slice A3 n3 c3) ∧ W.cell? ⟨w.heap.size + 1, 2, none⟩ = some (.slice A4 n4 c4)) := Lib.hid fun W hb =>
    ⟨(hX.below hb).cell 0, (hX.below hb).cell 1, (hX.below hb).cell 2, (hY.below hb).cell 0, (hY.below hb).cell 1, (hY.below hb).cell 2⟩
  obtain ⟨x0, x1, x2, y0, y1, y2⟩ := HX.out w1 (Below.refl _ _)
  have CE1 := Lib.hid fun W => ends_any W a.p b.p A2 n2 c2 hpa hpb (by omega)
  have CE2 := Lib.hid fun W => ends_any W b.p a.p A3 n3 c3 hpb hpa (by omega)
  have tok1 : True := trivial
  have _HS := Lib.hid (And.intro hs1 hs2)
  have HJ : Hid (joinE a b = ⟨0, [], []⟩ ∧ joinB a b = false) := Lib.hid (by
    have := l1
    have := l2
    have := l3
    have := l4
    have g1 : goesOn a b = false := by unfold goesOn; rw [decide_eq_false_iff_not]; rintro ⟨u1, u2⟩; rw [u1] at l3; unfold endsP at he1; rw [decide_eq_false_iff_not] at he1; rw [l2] at u2; exact he1 u2
    have g2 : goesBack a b = false := by unfold goesBack; rw [decide_eq_false_iff_not]; rintro ⟨u1, u2, u3⟩; rw [u1] at l2; rw [u2] at l4; simp at l4; omega
    unfold joinE joinB
    rw [g1, g2]
    exact ⟨rfl, rfl⟩)
  have HE1 : Hid (endsP a.p n2 b.p = false) := Lib.hid he1
  have z3a : ((n3 : Int) == 0) = true := by simp; omega
  have z3b : ((n3 : Int) = 0) = True := by simp; omega
  have z3c : (n3 = 0) = True := by simp; omega
  have z2a : ((n2 : Int) == 0) = true := by simp; omega
  have z2b : ((n2 : Int) = 0) = True := by simp; omega
  have z2c : (n2 = 0) = True := by simp; omega
  have z4a : ((n4 : Int) == 0) = false := by simp; omega
  have z4b : ((n4 : Int) = 0) = False := by simp; omega
  have z4c : (n4 = 0) = False := by simp; omega
  have q0 := Z.out.cell 0
  have q1 := Z.out.cell 1
  have q2 := Z.out.cell 2
  have r0 := Z.out.frozen 0
  have r1 := Z.out.frozen 1
  have r2 := Z.out.frozen 2
  clear hX hY hZ b1 hw1 l1 l2 l3 l4 hs1 hs2 hpa hpb h3 he1 h2 h4
  go_enter Try.func11, Try.ntmps11
  go_wp2_with fail
  rw [← HW1.out]
  go_wp2_with (first
    | (go_at_call 48; have tk := tok1; clear tok1 tk; have tok2 : True := trivial; refine (CE1.out _).mono ?_; rintro e W ⟨rfl, rfl⟩; try rw [HE1.out]))
  refine ret_edit rfl rfl rfl Z.out.set rfl (.bool false) rfl ?_
  exact JoinPost.of HJ.out.1 HJ.out.2 (RRow.nil _ _) (RRow.nil _ _) (below_three w _ (w.heap.size + 1 + 1) (by omega) _ _ _ B.out)
set_option maxRecDepth 1000000 in
set_option maxHeartbeats 4000000 in
theorem join_none_e3 (w : World) (a b : Ed) (A1 A2 A3 A4 : Option Addr) (n1 n2 n3 n4 c1 c2 c3 c4 : Nat) (l1 : a.d.length = n1) (l2 : a.i.length = n2) (l3 : b.d.length = n3) (l4 : b.i.length = n4) (hs1 : n1 + n3 ≤ 35184372088832) (hs2 : n2 + n4 ≤ 35184372088832) (hpa : -9223372036854775808 ≤ a.p ∧ a.p ≤ 9223372036854775807) (hpb : -9223372036854775808 ≤ b.p ∧ b.p ≤ 9223372036854775807) (h3 : n3 = 0) (he1 : endsP a.p n2 b.p = false) (h2 : n2 = 0) (h4 : n4 = 0) (he2 : endsP b.p n3 a.p = false) :
    Calls Try.prog 11 #[editV a.p (.slice A1 n1 c1) (.slice A2 n2 c2), editV b.p (.slice A3 n3 c3) (.slice A4 n4 c4)] w (JoinPost w a b) := by
  obtain ⟨w1, hw1⟩ : ∃ w1, w1 = ((w.alloc (.cells #[.int .i64 a.p, .slice A1 n1 c1, .slice A2 n2 c2] 24)).alloc (.cells #[.int .i64 b.p, .slice A3 n3 c3, .slice A4 n4 c4] 24)).alloc (.cells edit0 24) := ⟨_, rfl⟩
  obtain ⟨b1, hX, hY, hZ⟩ := three_boxes hw1
  have X := Lib.hid hX
  have Y := Lib.hid hY
  have Z := Lib.hid hZ
  have B := Lib.hid b1
  have HW1 := Lib.hid hw1
  have HX : Hid (∀ W, Below w1.heap.size w1 W → W.cell? ⟨w.heap.size, 0, none⟩ = some (.int .i64 a.p) ∧ W.cell? ⟨w.heap.size, 1, none⟩ = some (.slice A1 n1 c1) ∧ W.cell? ⟨w.heap.size, 2, none⟩ = some (.slice A2 n2 c2) ∧ W.cell? ⟨w.heap.size + 1, 0, none⟩ = some (.int .i64 b.p) ∧ W.cell? ⟨w.heap.size + 1, 1, none⟩ = some (.slice A3 n3 c3) ∧ W.cell? ⟨w.heap.size + 1, 2, none⟩ = some (.slice A4 n4 c4)) := Lib.hid fun W hb =>
    ⟨(hX.below hb).cell 0, (hX.below hb).cell 1, (hX.below hb).cell 2, (hY.below hb).cell 0, (hY.below hb).cell 1, (hY.below hb).cell 2⟩
  obtain ⟨x0, x1, x2, y0, y1, y2⟩ := HX.out w1 (Below.refl _ _)
  have CE1 := Lib.hid fun W => ends_any W a.p b.p A2 n2 c2 hpa hpb (by omega)
  have CE2 := Lib.hid fun W => ends_any W b.p a.p A3 n3 c3 hpb hpa (by omega)
  have tok1 : True := trivial
  have _HS := Lib.hid (And.intro hs1 hs2)
  have HJ : Hid (joinE a b = ⟨0, [], []⟩ ∧ joinB a b = false) := Lib.hid (by
    have := l1
    have := l2
    have := l3
    have := l4
    have g1 : goesOn a b = false := by unfold goesOn; rw [decide_eq_false_iff_not]; rintro ⟨u1, u2⟩; rw [u1] at l3; unfold endsP at he1; rw [decide_eq_false_iff_not] at he1; rw [l2] at u2; exact he1 u2
    have g2 : goesBack a b = false := by unfold goesBack; rw [decide_eq_false_iff_not]; rintro ⟨u1, u2, u3⟩; rw [u1] at l2; rw [u2] at l4; unfold endsP at he2; rw [decide_eq_false_iff_not] at he2; rw [l3] at u3; exact he2 u3
    unfold joinE joinB
    rw [g1, g2]
    exact ⟨rfl, rfl⟩)
  have HE1 : Hid (endsP a.p n2 b.p = false) := Lib.hid he1
  have HE2 : Hid (endsP b.p n3 a.p = false) := Lib.hid he2
  have z3a : ((n3 : Int) == 0) = true := by simp; omega
  have z3b : ((n3 : Int) = 0) = True := by simp; omega
  have z3c : (n3 = 0) = True := by simp; omega
  have z2a : ((n2 : Int) == 0) = true := by simp; omega
  have z2b : ((n2 : Int) = 0) = True := by simp; omega
  have z2c : (n2 = 0) = True := by simp; omega
  have z4a : ((n4 : Int) == 0) = true := by simp; omega
  have z4b : ((n4 : Int) = 0) = True := by simp; omega
  have z4c : (n4 = 0) = True := by simp; omega
  have q0 := Z.out.cell 0
  have q1 := Z.out.cell 1
  have q2 := Z.out.cell 2
  have r0 := Z.out.frozen 0
  have r1 := Z.out.frozen 1
  have r2 := Z.out.frozen 2
  clear hX hY hZ b1 hw1 l1 l2 l3 l4 hs1 hs2 hpa hpb h3 he1 h2 h4 he2
  go_enter Try.func11, Try.ntmps11
  go_wp2_with fail
  rw [← HW1.out]
  go_wp2_with (first
    | (go_at_call 48; have tk := tok1; clear tok1 tk; have tok2 : True := trivial; refine (CE1.out _).mono ?_; rintro e W ⟨rfl, rfl⟩; try rw [HE1.out])
    | (go_at_call 48; have tk := tok2; clear tok2 tk; refine (CE2.out _).mono ?_; rintro e W ⟨rfl, rfl⟩; try rw [HE2.out]))
  refine ret_edit rfl rfl rfl Z.out.set rfl (.bool false) rfl ?_
  exact JoinPost.of HJ.out.1 HJ.out.2 (RRow.nil _ _) (RRow.nil _ _) (below_three w _ (w.heap.size + 1 + 1) (by omega) _ _ _ B.out)
theorem join_any (w : World) (a b : Ed) (v1 v2 v3 v4 : Value) (k1 : Holds1 w v1 (runeVals a.d)) (k2 : Holds1 w v2 (runeVals a.i)) (k3 : Holds1 w v3 (runeVals b.d)) (k4 : Holds1 w v4 (runeVals b.i)) (hs1 : a.d.length + b.d.length ≤ 35184372088832) (hs2 : a.i.length + b.i.length ≤ 35184372088832) (hpa : -9223372036854775808 ≤ a.p ∧ a.p ≤ 9223372036854775807) (hpb : -9223372036854775808 ≤ b.p ∧ b.p ≤ 9223372036854775807) :
    Calls Try.prog 11 #[editV a.p v1 v2, editV b.p v3 v4] w (JoinPost w a b) := by
  obtain ⟨A1, c1, rfl, _⟩ := id k1
  obtain ⟨A2, c2, rfl, _⟩ := id k2
  obtain ⟨A3, c3, rfl, _⟩ := id k3
  obtain ⟨A4, c4, rfl, _⟩ := id k4
  simp only [runeVals_length] at k1 k2 k3 k4 ⊢
  by_cases h3 : b.d.length = 0
  · by_cases he1 : endsP a.p a.i.length b.p = true
    · exact join_on w a b A1 A2 A3 A4 _ _ _ _ c1 c2 c3 c4 k1 k2 k4 rfl rfl rfl rfl hs1 hs2 hpa hpb h3 he1
    · have he1 : endsP a.p a.i.length b.p = false := by simpa using he1
      by_cases h2 : a.i.length = 0
      · by_cases h4 : b.i.length = 0
        · by_cases he2 : endsP b.p b.d.length a.p = true
          · exact join_back_e w a b A1 A2 A3 A4 _ _ _ _ c1 c2 c3 c4 k1 k3 rfl rfl rfl rfl hs1 hs2 hpa hpb h3 he1 h2 h4 he2
          · exact join_none_e3 w a b A1 A2 A3 A4 _ _ _ _ c1 c2 c3 c4 rfl rfl rfl rfl hs1 hs2 hpa hpb h3 he1 h2 h4 (by simpa using he2)
        · exact join_none_e2 w a b A1 A2 A3 A4 _ _ _ _ c1 c2 c3 c4 rfl rfl rfl rfl hs1 hs2 hpa hpb h3 he1 h2 h4
      · exact join_none_e1 w a b A1 A2 A3 A4 _ _ _ _ c1 c2 c3 c4 rfl rfl rfl rfl hs1 hs2 hpa hpb h3 he1 h2
  · by_cases h2 : a.i.length = 0
    · by_cases h4 : b.i.length = 0
      · by_cases he2 : endsP b.p b.d.length a.p = true
        · exact join_back_d w a b A1 A2 A3 A4 _ _ _ _ c1 c2 c3 c4 k1 k3 rfl rfl rfl rfl hs1 hs2 hpa hpb h3 h2 h4 he2
        · exact join_none_d3 w a b A1 A2 A3 A4 _ _ _ _ c1 c2 c3 c4 rfl rfl rfl rfl hs1 hs2 hpa hpb h3 h2 h4 (by simpa using he2)
      · exact join_none_d2 w a b A1 A2 A3 A4 _ _ _ _ c1 c2 c3 c4 rfl rfl rfl rfl hs1 hs2 hpa hpb h3 h2 h4
    · exact join_none_d1 w a b A1 A2 A3 A4 _ _ _ _ c1 c2 c3 c4 rfl rfl rfl rfl hs1 hs2 hpa hpb h3 h2
end Go.Proofs.Ytjgjbdpknfplkaa
