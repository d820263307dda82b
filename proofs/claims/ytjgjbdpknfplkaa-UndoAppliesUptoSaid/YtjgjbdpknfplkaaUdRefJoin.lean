/-
  The document's Join.
-/
import Derived.Test.YtjgjbdpknfplkaaUdJoin
namespace Go.Proofs.Ytjgjbdpknfplkaa
open Go.RowKit Go.Shelf Go.Lib
attribute [local go_sem] Oper.semAt_some

theorem sub_is {p q : Int} {n : Nat} (hp : -9223372036854775808 ≤ p ∧ p ≤ 9223372036854775807) (hq : -9223372036854775808 ≤ q ∧ q ≤ 9223372036854775807) (hn : n ≤ 35184372088832) (h : p ≤ q) : wrap64 (q - p) = (n : Int) ↔ q = p + n := by unfold wrap64; omega
set_option maxRecDepth 1000000 in
set_option maxHeartbeats 4000000 in
theorem refjoin_none_d1 (w : World) (a b : Ed) (A1 A2 A3 A4 : Option Addr) (n1 n2 n3 n4 c1 c2 c3 c4 : Nat) (l1 : a.d.length = n1) (l2 : a.i.length = n2) (l3 : b.d.length = n3) (l4 : b.i.length = n4) (hs1 : n1 + n3 ≤ 35184372088832) (hs2 : n2 + n4 ≤ 35184372088832) (hpa : -9223372036854775808 ≤ a.p ∧ a.p ≤ 9223372036854775807) (hpb : -9223372036854775808 ≤ b.p ∧ b.p ≤ 9223372036854775807) (h3 : n3 ≠ 0) (h2 : n2 ≠ 0) :
    Calls Try.prog 12 #[editV a.p (.slice A1 n1 c1) (.slice A2 n2 c2), editV b.p (.slice A3 n3 c3) (.slice A4 n4 c4)] w (JoinPost w a b) := by
  obtain ⟨w1, hw1⟩ : ∃ w1, w1 = ((w.alloc (.cells #[.int .i64 a.p, .slice A1 n1 c1, .slice A2 n2 c2] 24)).alloc (.cells #[.int .i64 b.p, .slice A3 n3 c3, .slice A4 n4 c4] 24)).alloc (.cells edit0 24) := ⟨_, rfl⟩
  obtain ⟨b1, hX, hY, hZ⟩ := three_boxes hw1
  have X := Lib.hid hX
  have Y := Lib.hid hY
  have Z := Lib.hid hZ
  have B := Lib.hid b1
  have HW1 := Lib.hid hw1
  have HX : Hid (∀ W, Below w1.heap.size w1 W → W.cell? ⟨w.heap.size, 0, none⟩ = some (.int .i64 a.p) ∧ W.cell? ⟨w.heap.size, 1, none⟩ = some (.slice A1 n1 c1) ∧ W.cell? ⟨w.heap.size, 2, none⟩ = some (.slice A2 n2 c2) ∧ W.cell? ⟨w.heap.size + 1, 0, none⟩ = some (.int .i64 b.p) ∧ W.cell? ⟨w.heap.size + 1, 1, none⟩ = some (.slice A3 n3 c3) ∧ W.cell? ⟨w.heap.size + 1, 2, none⟩ = some (.slice A4 n4 c4)) := Lib.hid fun W hb =>
    ⟨(hX.below hb).cell 0, (hX.below hb).cell 1, (hX.below hb).cell 2, (hY.below hb).cell 0, (hY.below hb).cell 1, (hY.below hb).cell 2⟩
  have _HS := Lib.hid (And.intro hs1 hs2)
  have e12 := sub_is hpa hpb (n := n2) (by omega)
  have e21 := sub_is hpb hpa (n := n3) (by omega)
  have HJ : Hid (joinE a b = ⟨0, [], []⟩ ∧ joinB a b = false) := Lib.hid (by
    have := l1
    have := l2
    have := l3
    have := l4
    have g1 : goesOn a b = false := by unfold goesOn; rw [decide_eq_false_iff_not]; rintro ⟨u1, u2⟩; rw [u1] at l3; simp at l3; omega
    have g2 : goesBack a b = false := by unfold goesBack; rw [decide_eq_false_iff_not]; rintro ⟨u1, u2, u3⟩; rw [u1] at l2; simp at l2; omega
    unfold joinE joinB
    rw [g1, g2]
    exact ⟨rfl, rfl⟩)
  have z3a : ((n3 : Int) == 0) = false := by simp; omega
  have z3b : ((n3 : Int) = 0) = False := by simp; omega
  have z3c : (n3 = 0) = False := by simp; omega
  have z2a : ((n2 : Int) == 0) = false := by simp; omega
  have z2b : ((n2 : Int) = 0) = False := by simp; omega
  have z2c : (n2 = 0) = False := by simp; omega
  clear hX hY hZ b1 hw1 l1 l2 l3 l4 hs1 hs2 hpa hpb e12 e21 h3 h2 HX
  go_enter Try.func12, Try.ntmps12
  go_wp2_with fail
  rw [← HW1.out]
  refine ret_edit rfl rfl rfl Z.out rfl (.bool false) rfl ?_
  exact JoinPost.of HJ.out.1 HJ.out.2 (RRow.nil _ _) (RRow.nil _ _) B.out
set_option maxRecDepth 1000000 in
set_option maxHeartbeats 4000000 in
theorem refjoin_none_d2 (w : World) (a b : Ed) (A1 A2 A3 A4 : Option Addr) (n1 n2 n3 n4 c1 c2 c3 c4 : Nat) (l1 : a.d.length = n1) (l2 : a.i.length = n2) (l3 : b.d.length = n3) (l4 : b.i.length = n4) (hs1 : n1 + n3 ≤ 35184372088832) (hs2 : n2 + n4 ≤ 35184372088832) (hpa : -9223372036854775808 ≤ a.p ∧ a.p ≤ 9223372036854775807) (hpb : -9223372036854775808 ≤ b.p ∧ b.p ≤ 9223372036854775807) (h3 : n3 ≠ 0) (h2 : n2 = 0) (h4 : n4 ≠ 0) :
    Calls Try.prog 12 #[editV a.p (.slice A1 n1 c1) (.slice A2 n2 c2), editV b.p (.slice A3 n3 c3) (.slice A4 n4 c4)] w (JoinPost w a b) := by
  obtain ⟨w1, hw1⟩ : ∃ w1, w1 = ((w.alloc (.cells #[.int .i64 a.p, .slice A1 n1 c1, .slice A2 n2 c2] 24)).alloc (.cells #[.int .i64 b.p, .slice A3 n3 c3, .slice A4 n4 c4] 24)).alloc (.cells edit0 24) := ⟨_, rfl⟩
  obtain ⟨b1, hX, hY, hZ⟩ := three_boxes hw1
  have X := Lib.hid hX
  have Y := Lib.hid hY
  have Z := Lib.hid hZ
  have B := Lib.hid b1
  have HW1 := Lib.hid hw1
  have HX : Hid (∀ W, Below w1.heap.size w1 W → W.cell? ⟨w.heap.size, 0, none⟩ = some (.int .i64 a.p) ∧ W.cell? ⟨w.heap.size, 1, none⟩ = some (.slice A1 n1 c1) ∧ W.cell? ⟨w.heap.size, 2, none⟩ = some (.slice A2 n2 c2) ∧ W.cell? ⟨w.heap.size + 1, 0, none⟩ = some (.int .i64 b.p) ∧ W.cell? ⟨w.heap.size + 1, 1, none⟩ = some (.slice A3 n3 c3) ∧ W.cell? ⟨w.heap.size + 1, 2, none⟩ = some (.slice A4 n4 c4)) := Lib.hid fun W hb =>
    ⟨(hX.below hb).cell 0, (hX.below hb).cell 1, (hX.below hb).cell 2, (hY.below hb).cell 0, (hY.below hb).cell 1, (hY.below hb).cell 2⟩
  have _HS := Lib.hid (And.intro hs1 hs2)
  have e12 := sub_is hpa hpb (n := n2) (by omega)
  have e21 := sub_is hpb hpa (n := n3) (by omega)
  have HJ : Hid (joinE a b = ⟨0, [], []⟩ ∧ joinB a b = false) := Lib.hid (by
    have := l1
    have := l2
    have := l3
    have := l4
    have g1 : goesOn a b = false := by unfold goesOn; rw [decide_eq_false_iff_not]; rintro ⟨u1, u2⟩; rw [u1] at l3; simp at l3; omega
    have g2 : goesBack a b = false := by unfold goesBack; rw [decide_eq_false_iff_not]; rintro ⟨u1, u2, u3⟩; rw [u2] at l4; simp at l4; omega
    unfold joinE joinB
    rw [g1, g2]
    exact ⟨rfl, rfl⟩)
  have z3a : ((n3 : Int) == 0) = false := by simp; omega
  have z3b : ((n3 : Int) = 0) = False := by simp; omega
  have z3c : (n3 = 0) = False := by simp; omega
  have z2a : ((n2 : Int) == 0) = true := by simp; omega
  have z2b : ((n2 : Int) = 0) = True := by simp; omega
  have z2c : (n2 = 0) = True := by simp; omega
  have z4a : ((n4 : Int) == 0) = false := by simp; omega
  have z4b : ((n4 : Int) = 0) = False := by simp; omega
  have z4c : (n4 = 0) = False := by simp; omega
  clear hX hY hZ b1 hw1 l1 l2 l3 l4 hs1 hs2 hpa hpb e12 e21 h3 h2 h4 HX
  go_enter Try.func12, Try.ntmps12
  go_wp2_with fail
  rw [← HW1.out]
  refine ret_edit rfl rfl rfl Z.out rfl (.bool false) rfl ?_
  exact JoinPost.of HJ.out.1 HJ.out.2 (RRow.nil _ _) (RRow.nil _ _) B.out
set_option maxRecDepth 1000000 in
set_option maxHeartbeats 4000000 in
theorem refjoin_none_d3 (w : World) (a b : Ed) (A1 A2 A3 A4 : Option Addr) (n1 n2 n3 n4 c1 c2 c3 c4 : Nat) (l1 : a.d.length = n1) (l2 : a.i.length = n2) (l3 : b.d.length = n3) (l4 : b.i.length = n4) (hs1 : n1 + n3 ≤ 35184372088832) (hs2 : n2 + n4 ≤ 35184372088832) (hpa : -9223372036854775808 ≤ a.p ∧ a.p ≤ 9223372036854775807) (hpb : -9223372036854775808 ≤ b.p ∧ b.p ≤ 9223372036854775807) (h3 : n3 ≠ 0) (h2 : n2 = 0) (h4 : n4 = 0) (hle2 : ¬ b.p ≤ a.p) :
    Calls Try.prog 12 #[editV a.p (.slice A1 n1 c1) (.slice A2 n2 c2), editV b.p (.slice A3 n3 c3) (.slice A4 n4 c4)] w (JoinPost w a b) := by
  obtain ⟨w1, hw1⟩ : ∃ w1, w1 = ((w.alloc (.cells #[.int .i64 a.p, .slice A1 n1 c1, .slice A2 n2 c2] 24)).alloc (.cells #[.int .i64 b.p, .slice A3 n3 c3, .slice A4 n4 c4] 24)).alloc (.cells edit0 24) := ⟨_, rfl⟩
  obtain ⟨b1, hX, hY, hZ⟩ := three_boxes hw1
  have X := Lib.hid hX
  have Y := Lib.hid hY
  have Z := Lib.hid hZ
  have B := Lib.hid b1
  have HW1 := Lib.hid hw1
  have HX : Hid (∀ W, Below w1.heap.size w1 W → W.cell? ⟨w.heap.size, 0, none⟩ = some (.int .i64 a.p) ∧ W.cell? ⟨w.heap.size, 1, none⟩ = some (.slice A1 n1 c1) ∧ W.cell? ⟨w.heap.size, 2, none⟩ = some (.slice A2 n2 c2) ∧ W.cell? ⟨w.heap.size + 1, 0, none⟩ = some (.int .i64 b.p) ∧ W.cell? ⟨w.heap.size + 1, 1, none⟩ = some (.slice A3 n3 c3) ∧ W.cell? ⟨w.heap.size + 1, 2, none⟩ = some (.slice A4 n4 c4)) := Lib.hid fun W hb =>
    ⟨(hX.below hb).cell 0, (hX.below hb).cell 1, (hX.below hb).cell 2, (hY.below hb).cell 0, (hY.below hb).cell 1, (hY.below hb).cell 2⟩
  have _HS := Lib.hid (And.intro hs1 hs2)
  have e12 := sub_is hpa hpb (n := n2) (by omega)
  have e21 := sub_is hpb hpa (n := n3) (by omega)
  have HJ : Hid (joinE a b = ⟨0, [], []⟩ ∧ joinB a b = false) := Lib.hid (by
    have := l1
    have := l2
    have := l3
    have := l4
    have g1 : goesOn a b = false := by unfold goesOn; rw [decide_eq_false_iff_not]; rintro ⟨u1, u2⟩; rw [u1] at l3; simp at l3; omega
    have g2 : goesBack a b = false := by unfold goesBack; rw [decide_eq_false_iff_not]; rintro ⟨u1, u2, u3⟩; rw [u3] at hle2; omega
    unfold joinE joinB
    rw [g1, g2]
    exact ⟨rfl, rfl⟩)
  have z3a : ((n3 : Int) == 0) = false := by simp; omega
  have z3b : ((n3 : Int) = 0) = False := by simp; omega
  have z3c : (n3 = 0) = False := by simp; omega
  have z2a : ((n2 : Int) == 0) = true := by simp; omega
  have z2b : ((n2 : Int) = 0) = True := by simp; omega
  have z2c : (n2 = 0) = True := by simp; omega
  have z4a : ((n4 : Int) == 0) = true := by simp; omega
  have z4b : ((n4 : Int) = 0) = True := by simp; omega
  have z4c : (n4 = 0) = True := by simp; omega
  have le2 : (b.p ≤ a.p) = False := eq_false (by omega)
  clear hX hY hZ b1 hw1 l1 l2 l3 l4 hs1 hs2 hpa hpb e12 e21 h3 h2 h4 hle2 HX
  go_enter Try.func12, Try.ntmps12
  go_wp2_with fail
  rw [← HW1.out]
  refine ret_edit rfl rfl rfl Z.out rfl (.bool false) rfl ?_
  exact JoinPost.of HJ.out.1 HJ.out.2 (RRow.nil _ _) (RRow.nil _ _) B.out
set_option maxRecDepth 1000000 in
set_option maxHeartbeats 4000000 in
theorem refjoin_none_d4 (w : World) (a b : Ed) (A1 A2 A3 A4 : Option Addr) (n1 n2 n3 n4 c1 c2 c3 c4 : Nat) (l1 : a.d.length = n1) (l2 : a.i.length = n2) (l3 : b.d.length = n3) (l4 : b.i.length = n4) (hs1 : n1 + n3 ≤ 35184372088832) (hs2 : n2 + n4 ≤ 35184372088832) (hpa : -9223372036854775808 ≤ a.p ∧ a.p ≤ 9223372036854775807) (hpb : -9223372036854775808 ≤ b.p ∧ b.p ≤ 9223372036854775807) (h3 : n3 ≠ 0) (h2 : n2 = 0) (h4 : n4 = 0) (hle2 : b.p ≤ a.p) (hne2 : ¬ wrap64 (a.p - b.p) = (n3 : Int)) :
    Calls Try.prog 12 #[editV a.p (.slice A1 n1 c1) (.slice A2 n2 c2), editV b.p (.slice A3 n3 c3) (.slice A4 n4 c4)] w (JoinPost w a b) := by
  obtain ⟨w1, hw1⟩ : ∃ w1, w1 = ((w.alloc (.cells #[.int .i64 a.p, .slice A1 n1 c1, .slice A2 n2 c2] 24)).alloc (.cells #[.int .i64 b.p, .slice A3 n3 c3, .slice A4 n4 c4] 24)).alloc (.cells edit0 24) := ⟨_, rfl⟩
  obtain ⟨b1, hX, hY, hZ⟩ := three_boxes hw1
  have X := Lib.hid hX
  have Y := Lib.hid hY
  have Z := Lib.hid hZ
  have B := Lib.hid b1
  have HW1 := Lib.hid hw1
  have HX : Hid (∀ W, Below w1.heap.size w1 W → W.cell? ⟨w.heap.size, 0, none⟩ = some (.int .i64 a.p) ∧ W.cell? ⟨w.heap.size, 1, none⟩ = some (.slice A1 n1 c1) ∧ W.cell? ⟨w.heap.size, 2, none⟩ = some (.slice A2 n2 c2) ∧ W.cell? ⟨w.heap.size + 1, 0, none⟩ = some (.int .i64 b.p) ∧ W.cell? ⟨w.heap.size + 1, 1, none⟩ = some (.slice A3 n3 c3) ∧ W.cell? ⟨w.heap.size + 1, 2, none⟩ = some (.slice A4 n4 c4)) := Lib.hid fun W hb =>
    ⟨(hX.below hb).cell 0, (hX.below hb).cell 1, (hX.below hb).cell 2, (hY.below hb).cell 0, (hY.below hb).cell 1, (hY.below hb).cell 2⟩
  have _HS := Lib.hid (And.intro hs1 hs2)
  have e12 := sub_is hpa hpb (n := n2) (by omega)
  have e21 := sub_is hpb hpa (n := n3) (by omega)
  have HJ : Hid (joinE a b = ⟨0, [], []⟩ ∧ joinB a b = false) := Lib.hid (by
    have := l1
    have := l2
    have := l3
    have := l4
    have g1 : goesOn a b = false := by unfold goesOn; rw [decide_eq_false_iff_not]; rintro ⟨u1, u2⟩; rw [u1] at l3; simp at l3; omega
    have g2 : goesBack a b = false := by unfold goesBack; rw [decide_eq_false_iff_not]; rintro ⟨u1, u2, u3⟩; rw [← l3] at hne2 e21; exact hne2 ((e21 hle2).2 u3)
    unfold joinE joinB
    rw [g1, g2]
    exact ⟨rfl, rfl⟩)
  have z3a : ((n3 : Int) == 0) = false := by simp; omega
  have z3b : ((n3 : Int) = 0) = False := by simp; omega
  have z3c : (n3 = 0) = False := by simp; omega
  have z2a : ((n2 : Int) == 0) = true := by simp; omega
  have z2b : ((n2 : Int) = 0) = True := by simp; omega
  have z2c : (n2 = 0) = True := by simp; omega
  have z4a : ((n4 : Int) == 0) = true := by simp; omega
  have z4b : ((n4 : Int) = 0) = True := by simp; omega
  have z4c : (n4 = 0) = True := by simp; omega
  have le2 : (b.p ≤ a.p) = True := eq_true (by omega)
  have eq2 : (wrap64 (a.p - b.p) == (n3 : Int)) = false := by simpa using hne2
  have eq2' : (wrap64 (a.p - b.p) = (n3 : Int)) = False := eq_false hne2
  clear hX hY hZ b1 hw1 l1 l2 l3 l4 hs1 hs2 hpa hpb e12 e21 h3 h2 h4 hle2 hne2 HX
  go_enter Try.func12, Try.ntmps12
  go_wp2_with fail
  rw [← HW1.out]
  refine ret_edit rfl rfl rfl Z.out rfl (.bool false) rfl ?_
  exact JoinPost.of HJ.out.1 HJ.out.2 (RRow.nil _ _) (RRow.nil _ _) B.out
set_option maxRecDepth 1000000 in
set_option maxHeartbeats 4000000 in
theorem refjoin_none_e1 (w : World) (a b : Ed) (A1 A2 A3 A4 : Option Addr) (n1 n2 n3 n4 c1 c2 c3 c4 : Nat) (l1 : a.d.length = n1) (l2 : a.i.length = n2) (l3 : b.d.length = n3) (l4 : b.i.length = n4) (hs1 : n1 + n3 ≤ 35184372088832) (hs2 : n2 + n4 ≤ 35184372088832) (hpa : -9223372036854775808 ≤ a.p ∧ a.p ≤ 9223372036854775807) (hpb : -9223372036854775808 ≤ b.p ∧ b.p ≤ 9223372036854775807) (h3 : n3 = 0) (hle : ¬ a.p ≤ b.p) (h2 : n2 ≠ 0) :
    Calls Try.prog 12 #[editV a.p (.slice A1 n1 c1) (.slice A2 n2 c2), editV b.p (.slice A3 n3 c3) (.slice A4 n4 c4)] w (JoinPost w a b) := by
  obtain ⟨w1, hw1⟩ : ∃ w1, w1 = ((w.alloc (.cells #[.int .i64 a.p, .slice A1 n1 c1, .slice A2 n2 c2] 24)).alloc (.cells #[.int .i64 b.p, .slice A3 n3 c3, .slice A4 n4 c4] 24)).alloc (.cells edit0 24) := ⟨_, rfl⟩
  obtain ⟨b1, hX, hY, hZ⟩ := three_boxes hw1
  have X := Lib.hid hX
  have Y := Lib.hid hY
  have Z := Lib.hid hZ
  have B := Lib.hid b1
  have HW1 := Lib.hid hw1
  have HX : Hid (∀ W, Below w1.heap.size w1 W → W.cell? ⟨w.heap.size, 0, none⟩ = some (.int .i64 a.p) ∧ W.cell? ⟨w.heap.size, 1, none⟩ = some (.slice A1 n1 c1) ∧ W.cell? ⟨w.heap.size, 2, none⟩ = some (.slice A2 n2 c2) ∧ W.cell? ⟨w.heap.size + 1, 0, none⟩ = some (.int .i64 b.p) ∧ W.cell? ⟨w.heap.size + 1, 1, none⟩ = some (.slice A3 n3 c3) ∧ W.cell? ⟨w.heap.size + 1, 2, none⟩ = some (.slice A4 n4 c4)) := Lib.hid fun W hb =>
    ⟨(hX.below hb).cell 0, (hX.below hb).cell 1, (hX.below hb).cell 2, (hY.below hb).cell 0, (hY.below hb).cell 1, (hY.below hb).cell 2⟩
  have _HS := Lib.hid (And.intro hs1 hs2)
  have e12 := sub_is hpa hpb (n := n2) (by omega)
  have e21 := sub_is hpb hpa (n := n3) (by omega)
  have HJ : Hid (joinE a b = ⟨0, [], []⟩ ∧ joinB a b = false) := Lib.hid (by
    have := l1
    have := l2
    have := l3
    have := l4
    have g1 : goesOn a b = false := by unfold goesOn; rw [decide_eq_false_iff_not]; rintro ⟨u1, u2⟩; rw [u2] at hle; omega
    have g2 : goesBack a b = false := by unfold goesBack; rw [decide_eq_false_iff_not]; rintro ⟨u1, u2, u3⟩; rw [u1] at l2; simp at l2; omega
    unfold joinE joinB
    rw [g1, g2]
    exact ⟨rfl, rfl⟩)
  have z3a : ((n3 : Int) == 0) = true := by simp; omega
  have z3b : ((n3 : Int) = 0) = True := by simp; omega
  have z3c : (n3 = 0) = True := by simp; omega
  have le1 : (a.p ≤ b.p) = False := eq_false (by omega)
  have z2a : ((n2 : Int) == 0) = false := by simp; omega
  have z2b : ((n2 : Int) = 0) = False := by simp; omega
  have z2c : (n2 = 0) = False := by simp; omega
  clear hX hY hZ b1 hw1 l1 l2 l3 l4 hs1 hs2 hpa hpb e12 e21 h3 hle h2 HX
  go_enter Try.func12, Try.ntmps12
  go_wp2_with fail
  rw [← HW1.out]
  refine ret_edit rfl rfl rfl Z.out rfl (.bool false) rfl ?_
  exact JoinPost.of HJ.out.1 HJ.out.2 (RRow.nil _ _) (RRow.nil _ _) B.out
set_option maxRecDepth 1000000 in
set_option maxHeartbeats 4000000 in
theorem refjoin_none_e2 (w : World) (a b : Ed) (A1 A2 A3 A4 : Option Addr) (n1 n2 n3 n4 c1 c2 c3 c4 : Nat) (l1 : a.d.length = n1) (l2 : a.i.length = n2) (l3 : b.d.length = n3) (l4 : b.i.length = n4) (hs1 : n1 + n3 ≤ 35184372088832) (hs2 : n2 + n4 ≤ 35184372088832) (hpa : -9223372036854775808 ≤ a.p ∧ a.p ≤ 9223372036854775807) (hpb : -9223372036854775808 ≤ b.p ∧ b.p ≤ 9223372036854775807) (h3 : n3 = 0) (hle : ¬ a.p ≤ b.p) (h2 : n2 = 0) (h4 : n4 ≠ 0) :
    Calls Try.prog 12 #[editV a.p (.slice A1 n1 c1) (.slice A2 n2 c2), editV b.p (.slice A3 n3 c3) (.slice A4 n4 c4)] w (JoinPost w a b) := by
  obtain ⟨w1, hw1⟩ : ∃ w1, w1 = ((w.alloc (.cells #[.int .i64 a.p, .slice A1 n1 c1, .slice A2 n2 c2] 24)).alloc (.cells #[.int .i64 b.p, .slice A3 n3 c3, .slice A4 n4 c4] 24)).alloc (.cells edit0 24) := ⟨_, rfl⟩
  obtain ⟨b1, hX, hY, hZ⟩ := three_boxes hw1
  have X := Lib.hid hX
  have Y := Lib.hid hY
  have Z := Lib.hid hZ
  have B := Lib.hid b1
  have HW1 := Lib.hid hw1
  have HX : Hid (∀ W, Below w1.heap.size w1 W → W.cell? ⟨w.heap.size, 0, none⟩ = some (.int .i64 a.p) ∧ W.cell? ⟨w.heap.size, 1, none⟩ = some (.slice A1 n1 c1) ∧ W.cell? ⟨w.heap.size, 2, none⟩ = some (.slice A2 n2 c2) ∧ W.cell? ⟨w.heap.size + 1, 0, none⟩ = some (.int .i64 b.p) ∧ W.cell? ⟨w.heap.size + 1, 1, none⟩ = some (.slice A3 n3 c3) ∧ W.cell? ⟨w.heap.size + 1, 2, none⟩ = some (.slice A4 n4 c4)) := Lib.hid fun W hb =>
    ⟨(hX.below hb).cell 0, (hX.below hb).cell 1, (hX.below hb).cell 2, (hY.below hb).cell 0, (hY.below hb).cell 1, (hY.below hb).cell 2⟩
  have _HS := Lib.hid (And.intro hs1 hs2)
  have e12 := sub_is hpa hpb (n := n2) (by omega)
  have e21 := sub_is hpb hpa (n := n3) (by omega)
  have HJ : Hid (joinE a b = ⟨0, [], []⟩ ∧ joinB a b = false) := Lib.hid (by
    have := l1
    have := l2
    have := l3
    have := l4
    have g1 : goesOn a b = false := by unfold goesOn; rw [decide_eq_false_iff_not]; rintro ⟨u1, u2⟩; rw [u2] at hle; omega
    have g2 : goesBack a b = false := by unfold goesBack; rw [decide_eq_false_iff_not]; rintro ⟨u1, u2, u3⟩; rw [u2] at l4; simp at l4; omega
    unfold joinE joinB
    rw [g1, g2]
    exact ⟨rfl, rfl⟩)
  have z3a : ((n3 : Int) == 0) = true := by simp; omega
  have z3b : ((n3 : Int) = 0) = True := by simp; omega
  have z3c : (n3 = 0) = True := by simp; omega
  have le1 : (a.p ≤ b.p) = False := eq_false (by omega)
  have z2a : ((n2 : Int) == 0) = true := by simp; omega
  have z2b : ((n2 : Int) = 0) = True := by simp; omega
  have z2c : (n2 = 0) = True := by simp; omega
  have z4a : ((n4 : Int) == 0) = false := by simp; omega
  have z4b : ((n4 : Int) = 0) = False := by simp; omega
  have z4c : (n4 = 0) = False := by simp; omega
  clear hX hY hZ b1 hw1 l1 l2 l3 l4 hs1 hs2 hpa hpb e12 e21 h3 hle h2 h4 HX
  go_enter Try.func12, Try.ntmps12
  go_wp2_with fail
  rw [← HW1.out]
  refine ret_edit rfl rfl rfl Z.out rfl (.bool false) rfl ?_
  exact JoinPost.of HJ.out.1 HJ.out.2 (RRow.nil _ _) (RRow.nil _ _) B.out
set_option maxRecDepth 1000000 in
set_option maxHeartbeats 4000000 in
theorem refjoin_none_e3 (w : World) (a b : Ed) (A1 A2 A3 A4 : Option Addr) (n1 n2 n3 n4 c1 c2 c3 c4 : Nat) (l1 : a.d.length = n1) (l2 : a.i.length = n2) (l3 : b.d.length = n3) (l4 : b.i.length = n4) (hs1 : n1 + n3 ≤ 35184372088832) (hs2 : n2 + n4 ≤ 35184372088832) (hpa : -9223372036854775808 ≤ a.p ∧ a.p ≤ 9223372036854775807) (hpb : -9223372036854775808 ≤ b.p ∧ b.p ≤ 9223372036854775807) (h3 : n3 = 0) (hle : ¬ a.p ≤ b.p) (h2 : n2 = 0) (h4 : n4 = 0) (hle2 : ¬ b.p ≤ a.p) :
    Calls Try.prog 12 #[editV a.p (.slice A1 n1 c1) (.slice A2 n2 c2), editV b.p (.slice A3 n3 c3) (.slice A4 n4 c4)] w (JoinPost w a b) := by
  obtain ⟨w1, hw1⟩ : ∃ w1, w1 = ((w.alloc (.cells #[.int .i64 a.p, .slice A1 n1 c1, .slice A2 n2 c2] 24)).alloc (.cells #[.int .i64 b.p, .slice A3 n3 c3, .slice A4 n4 c4] 24)).alloc (.cells edit0 24) := ⟨_, rfl⟩
  obtain ⟨b1, hX, hY, hZ⟩ := three_boxes hw1
  have X := Lib.hid hX
  have Y := Lib.hid hY
  have Z := Lib.hid hZ
  have B := Lib.hid b1
  have HW1 := Lib.hid hw1
  have HX : Hid (∀ W, Below w1.heap.size w1 W → W.cell? ⟨w.heap.size, 0, none⟩ = some (.int .i64 a.p) ∧ W.cell? ⟨w.heap.size, 1, none⟩ = some (.slice A1 n1 c1) ∧ W.cell? ⟨w.heap.size, 2, none⟩ = some (.slice A2 n2 c2) ∧ W.cell? ⟨w.heap.size + 1, 0, none⟩ = some (.int .i64 b.p) ∧ W.cell? ⟨w.heap.size + 1, 1, none⟩ = some (.slice A3 n3 c3) ∧ W.cell? ⟨w.heap.size + 1, 2, none⟩ = some (.slice A4 n4 c4)) := Lib.hid fun W hb =>
    ⟨(hX.below hb).cell 0, (hX.below hb).cell 1, (hX.below hb).cell 2, (hY.below hb).cell 0, (hY.below hb).cell 1, (hY.below hb).cell 2⟩
  have _HS := Lib.hid (And.intro hs1 hs2)
  have e12 := sub_is hpa hpb (n := n2) (by omega)
  have e21 := sub_is hpb hpa (n := n3) (by omega)
  have HJ : Hid (joinE a b = ⟨0, [], []⟩ ∧ joinB a b = false) := Lib.hid (by
    have := l1
    have := l2
    have := l3
    have := l4
    have g1 : goesOn a b = false := by unfold goesOn; rw [decide_eq_false_iff_not]; rintro ⟨u1, u2⟩; rw [u2] at hle; omega
    have g2 : goesBack a b = false := by unfold goesBack; rw [decide_eq_false_iff_not]; rintro ⟨u1, u2, u3⟩; rw [u3] at hle2; omega
    unfold joinE joinB
    rw [g1, g2]
    exact ⟨rfl, rfl⟩)
  have z3a : ((n3 : Int) == 0) = true := by simp; omega
  have z3b : ((n3 : Int) = 0) = True := by simp; omega
  have z3c : (n3 = 0) = True := by simp; omega
  have le1 : (a.p ≤ b.p) = False := eq_false (by omega)
  have z2a : ((n2 : Int) == 0) = true := by simp; omega
  have z2b : ((n2 : Int) = 0) = True := by simp; omega
  have z2c : (n2 = 0) = True := by simp; omega
  have z4a : ((n4 : Int) == 0) = true := by simp; omega
  have z4b : ((n4 : Int) = 0) = True := by simp; omega
  have z4c : (n4 = 0) = True := by simp; omega
  have le2 : (b.p ≤ a.p) = False := eq_false (by omega)
  clear hX hY hZ b1 hw1 l1 l2 l3 l4 hs1 hs2 hpa hpb e12 e21 h3 hle h2 h4 hle2 HX
  go_enter Try.func12, Try.ntmps12
  go_wp2_with fail
  rw [← HW1.out]
  refine ret_edit rfl rfl rfl Z.out rfl (.bool false) rfl ?_
  exact JoinPost.of HJ.out.1 HJ.out.2 (RRow.nil _ _) (RRow.nil _ _) B.out
set_option maxRecDepth 1000000 in
set_option maxHeartbeats 4000000 in
theorem refjoin_none_e4 (w : World) (a b : Ed) (A1 A2 A3 A4 : Option Addr) (n1 n2 n3 n4 c1 c2 c3 c4 : Nat) (l1 : a.d.length = n1) (l2 : a.i.length = n2) (l3 : b.d.length = n3) (l4 : b.i.length = n4) (hs1 : n1 + n3 ≤ 35184372088832) (hs2 : n2 + n4 ≤ 35184372088832) (hpa : -9223372036854775808 ≤ a.p ∧ a.p ≤ 9223372036854775807) (hpb : -9223372036854775808 ≤ b.p ∧ b.p ≤ 9223372036854775807) (h3 : n3 = 0) (hle : ¬ a.p ≤ b.p) (h2 : n2 = 0) (h4 : n4 = 0) (hle2 : b.p ≤ a.p) (hne2 : ¬ wrap64 (a.p - b.p) = (n3 : Int)) :
    Calls Try.prog 12 #[editV a.p (.slice A1 n1 c1) (.slice A2 n2 c2), editV b.p (.slice A3 n3 c3) (.slice A4 n4 c4)] w (JoinPost w a b) := by
  obtain ⟨w1, hw1⟩ : ∃ w1, w1 = ((w.alloc (.cells #[.int .i64 a.p, .slice A1 n1 c1, .slice A2 n2 c2] 24)).alloc (.cells #[.int .i64 b.p, .slice A3 n3 c3, .slice A4 n4 c4] 24)).alloc (.cells edit0 24) := ⟨_, rfl⟩
  obtain ⟨b1, hX, hY, hZ⟩ := three_boxes hw1
  have X := Lib.hid hX
  have Y := Lib.hid hY
  have Z := Lib.hid hZ
  have B := Lib.hid b1
  have HW1 := Lib.hid hw1
  have HX : Hid (∀ W, Below w1.heap.size w1 W → W.cell? ⟨w.heap.size, 0, none⟩ = some (.int .i64 a.p) ∧ W.cell? ⟨w.heap.size, 1, none⟩ = some (.slice A1 n1 c1) ∧ W.cell? ⟨w.heap.size, 2, none⟩ = some (.slice A2 n2 c2) ∧ W.cell? ⟨w.heap.size + 1, 0, none⟩ = some (.int .i64 b.p) ∧ W.cell? ⟨w.heap.size + 1, 1, none⟩ = some (.slice A3 n3 c3) ∧ W.cell? ⟨w.heap.size + 1, 2, none⟩ = some (.slice A4 n4 c4)) := Lib.hid fun W hb =>
    ⟨(hX.below hb).cell 0, (hX.below hb).cell 1, (hX.below hb).cell 2, (hY.below hb).cell 0, (hY.below hb).cell 1, (hY.below hb).cell 2⟩
  have _HS := Lib.hid (And.intro hs1 hs2)
  have e12 := sub_is hpa hpb (n := n2) (by omega)
  have e21 := sub_is hpb hpa (n := n3) (by omega)
  have HJ : Hid (joinE a b = ⟨0, [], []⟩ ∧ joinB a b = false) := Lib.hid (by
    have := l1
    have := l2
    have := l3
    have := l4
    have g1 : goesOn a b = false := by unfold goesOn; rw [decide_eq_false_iff_not]; rintro ⟨u1, u2⟩; rw [u2] at hle; omega
    have g2 : goesBack a b = false := by unfold goesBack; rw [decide_eq_false_iff_not]; rintro ⟨u1, u2, u3⟩; rw [← l3] at hne2 e21; exact hne2 ((e21 hle2).2 u3)
    unfold joinE joinB
    rw [g1, g2]
    exact ⟨rfl, rfl⟩)
  have z3a : ((n3 : Int) == 0) = true := by simp; omega
  have z3b : ((n3 : Int) = 0) = True := by simp; omega
  have z3c : (n3 = 0) = True := by simp; omega
  have le1 : (a.p ≤ b.p) = False := eq_false (by omega)
  have z2a : ((n2 : Int) == 0) = true := by simp; omega
  have z2b : ((n2 : Int) = 0) = True := by simp; omega
  have z2c : (n2 = 0) = True := by simp; omega
  have z4a : ((n4 : Int) == 0) = true := by simp; omega
  have z4b : ((n4 : Int) = 0) = True := by simp; omega
  have z4c : (n4 = 0) = True := by simp; omega
  have le2 : (b.p ≤ a.p) = True := eq_true (by omega)
  have eq2 : (wrap64 (a.p - b.p) == (n3 : Int)) = false := by simpa using hne2
  have eq2' : (wrap64 (a.p - b.p) = (n3 : Int)) = False := eq_false hne2
  clear hX hY hZ b1 hw1 l1 l2 l3 l4 hs1 hs2 hpa hpb e12 e21 h3 hle h2 h4 hle2 hne2 HX
  go_enter Try.func12, Try.ntmps12
  go_wp2_with fail
  rw [← HW1.out]
  refine ret_edit rfl rfl rfl Z.out rfl (.bool false) rfl ?_
  exact JoinPost.of HJ.out.1 HJ.out.2 (RRow.nil _ _) (RRow.nil _ _) B.out
set_option maxRecDepth 1000000 in
set_option maxHeartbeats 4000000 in
theorem refjoin_none_f1 (w : World) (a b : Ed) (A1 A2 A3 A4 : Option Addr) (n1 n2 n3 n4 c1 c2 c3 c4 : Nat) (l1 : a.d.length = n1) (l2 : a.i.length = n2) (l3 : b.d.length = n3) (l4 : b.i.length = n4) (hs1 : n1 + n3 ≤ 35184372088832) (hs2 : n2 + n4 ≤ 35184372088832) (hpa : -9223372036854775808 ≤ a.p ∧ a.p ≤ 9223372036854775807) (hpb : -9223372036854775808 ≤ b.p ∧ b.p ≤ 9223372036854775807) (h3 : n3 = 0) (hle : a.p ≤ b.p) (hne : ¬ wrap64 (b.p - a.p) = (n2 : Int)) (h2 : n2 ≠ 0) :
    Calls Try.prog 12 #[editV a.p (.slice A1 n1 c1) (.slice A2 n2 c2), editV b.p (.slice A3 n3 c3) (.slice A4 n4 c4)] w (JoinPost w a b) := by
  obtain ⟨w1, hw1⟩ : ∃ w1, w1 = ((w.alloc (.cells #[.int .i64 a.p, .slice A1 n1 c1, .slice A2 n2 c2] 24)).alloc (.cells #[.int .i64 b.p, .slice A3 n3 c3, .slice A4 n4 c4] 24)).alloc (.cells edit0 24) := ⟨_, rfl⟩
  obtain ⟨b1, hX, hY, hZ⟩ := three_boxes hw1
  have X := Lib.hid hX
  have Y := Lib.hid hY
  have Z := Lib.hid hZ
  have B := Lib.hid b1
  have HW1 := Lib.hid hw1
  have HX : Hid (∀ W, Below w1.heap.size w1 W → W.cell? ⟨w.heap.size, 0, none⟩ = some (.int .i64 a.p) ∧ W.cell? ⟨w.heap.size, 1, none⟩ = some (.slice A1 n1 c1) ∧ W.cell? ⟨w.heap.size, 2, none⟩ = some (.slice A2 n2 c2) ∧ W.cell? ⟨w.heap.size + 1, 0, none⟩ = some (.int .i64 b.p) ∧ W.cell? ⟨w.heap.size + 1, 1, none⟩ = some (.slice A3 n3 c3) ∧ W.cell? ⟨w.heap.size + 1, 2, none⟩ = some (.slice A4 n4 c4)) := Lib.hid fun W hb =>
    ⟨(hX.below hb).cell 0, (hX.below hb).cell 1, (hX.below hb).cell 2, (hY.below hb).cell 0, (hY.below hb).cell 1, (hY.below hb).cell 2⟩
  have _HS := Lib.hid (And.intro hs1 hs2)
  have e12 := sub_is hpa hpb (n := n2) (by omega)
  have e21 := sub_is hpb hpa (n := n3) (by omega)
  have HJ : Hid (joinE a b = ⟨0, [], []⟩ ∧ joinB a b = false) := Lib.hid (by
    have := l1
    have := l2
    have := l3
    have := l4
    have g1 : goesOn a b = false := by unfold goesOn; rw [decide_eq_false_iff_not]; rintro ⟨u1, u2⟩; rw [← l2] at hne e12; exact hne ((e12 hle).2 u2)
    have g2 : goesBack a b = false := by unfold goesBack; rw [decide_eq_false_iff_not]; rintro ⟨u1, u2, u3⟩; rw [u1] at l2; simp at l2; omega
    unfold joinE joinB
    rw [g1, g2]
    exact ⟨rfl, rfl⟩)
  have z3a : ((n3 : Int) == 0) = true := by simp; omega
  have z3b : ((n3 : Int) = 0) = True := by simp; omega
  have z3c : (n3 = 0) = True := by simp; omega
  have le1 : (a.p ≤ b.p) = True := eq_true (by omega)
  have eq1 : (wrap64 (b.p - a.p) == (n2 : Int)) = false := by simpa using hne
  have eq1' : (wrap64 (b.p - a.p) = (n2 : Int)) = False := eq_false hne
  have z2a : ((n2 : Int) == 0) = false := by simp; omega
  have z2b : ((n2 : Int) = 0) = False := by simp; omega
  have z2c : (n2 = 0) = False := by simp; omega
  clear hX hY hZ b1 hw1 l1 l2 l3 l4 hs1 hs2 hpa hpb e12 e21 h3 hle hne h2 HX
  go_enter Try.func12, Try.ntmps12
  go_wp2_with fail
  rw [← HW1.out]
  refine ret_edit rfl rfl rfl Z.out rfl (.bool false) rfl ?_
  exact JoinPost.of HJ.out.1 HJ.out.2 (RRow.nil _ _) (RRow.nil _ _) B.out
set_option maxRecDepth 1000000 in
set_option maxHeartbeats 4000000 in
theorem refjoin_none_f2 (w : World) (a b : Ed) (A1 A2 A3 A4 : Option Addr) (n1 n2 n3 n4 c1 c2 c3 c4 : Nat) (l1 : a.d.length = n1) (l2 : a.i.length = n2) (l3 : b.d.length = n3) (l4 : b.i.length = n4) (hs1 : n1 + n3 ≤ 35184372088832) (hs2 : n2 + n4 ≤ 35184372088832) (hpa : -9223372036854775808 ≤ a.p ∧ a.p ≤ 9223372036854775807) (hpb : -9223372036854775808 ≤ b.p ∧ b.p ≤ 9223372036854775807) (h3 : n3 = 0) (hle : a.p ≤ b.p) (hne : ¬ wrap64 (b.p - a.p) = (n2 : Int)) (h2 : n2 = 0) (h4 : n4 ≠ 0) :
    Calls Try.prog 12 #[editV a.p (.slice A1 n1 c1) (.slice A2 n2 c2), editV b.p (.slice A3 n3 c3) (.slice A4 n4 c4)] w (JoinPost w a b) := by
  obtain ⟨w1, hw1⟩ : ∃ w1, w1 = ((w.alloc (.cells #[.int .i64 a.p, .slice A1 n1 c1, .slice A2 n2 c2] 24)).alloc (.cells #[.int .i64 b.p, .slice A3 n3 c3, .slice A4 n4 c4] 24)).alloc (.cells edit0 24) := ⟨_, rfl⟩
  obtain ⟨b1, hX, hY, hZ⟩ := three_boxes hw1
  have X := Lib.hid hX
  have Y := Lib.hid hY
  have Z := Lib.hid hZ
  have B := Lib.hid b1
  have HW1 := Lib.hid hw1
  have HX : Hid (∀ W, Below w1.heap.size w1 W → W.cell? ⟨w.heap.size, 0, none⟩ = some (.int .i64 a.p) ∧ W.cell? ⟨w.heap.size, 1, none⟩ = some (.slice A1 n1 c1) ∧ W.cell? ⟨w.heap.size, 2, none⟩ = some (.slice A2 n2 c2) ∧ W.cell? ⟨w.heap.size + 1, 0, none⟩ = some (.int .i64 b.p) ∧ W.cell? ⟨w.heap.size + 1, 1, none⟩ = some (.slice A3 n3 c3) ∧ W.cell? ⟨w.heap.size + 1, 2, none⟩ = some (.slice A4 n4 c4)) := Lib.hid fun W hb =>
    ⟨(hX.below hb).cell 0, (hX.below hb).cell 1, (hX.below hb).cell 2, (hY.below hb).cell 0, (hY.below hb).cell 1, (hY.below hb).cell 2⟩
  have _HS := Lib.hid (And.intro hs1 hs2)
  have e12 := sub_is hpa hpb (n := n2) (by omega)
  have e21 := sub_is hpb hpa (n := n3) (by omega)
  have HJ : Hid (joinE a b = ⟨0, [], []⟩ ∧ joinB a b = false) := Lib.hid (by
    have := l1
    have := l2
    have := l3
    have := l4
    have g1 : goesOn a b = false := by unfold goesOn; rw [decide_eq_false_iff_not]; rintro ⟨u1, u2⟩; rw [← l2] at hne e12; exact hne ((e12 hle).2 u2)
    have g2 : goesBack a b = false := by unfold goesBack; rw [decide_eq_false_iff_not]; rintro ⟨u1, u2, u3⟩; rw [u2] at l4; simp at l4; omega
    unfold joinE joinB
    rw [g1, g2]
    exact ⟨rfl, rfl⟩)
  have z3a : ((n3 : Int) == 0) = true := by simp; omega
  have z3b : ((n3 : Int) = 0) = True := by simp; omega
  have z3c : (n3 = 0) = True := by simp; omega
  have le1 : (a.p ≤ b.p) = True := eq_true (by omega)
  have eq1 : (wrap64 (b.p - a.p) == (n2 : Int)) = false := by simpa using hne
  have eq1' : (wrap64 (b.p - a.p) = (n2 : Int)) = False := eq_false hne
  have z2a : ((n2 : Int) == 0) = true := by simp; omega
  have z2b : ((n2 : Int) = 0) = True := by simp; omega
  have z2c : (n2 = 0) = True := by simp; omega
  have z4a : ((n4 : Int) == 0) = false := by simp; omega
  have z4b : ((n4 : Int) = 0) = False := by simp; omega
  have z4c : (n4 = 0) = False := by simp; omega
  clear hX hY hZ b1 hw1 l1 l2 l3 l4 hs1 hs2 hpa hpb e12 e21 h3 hle hne h2 h4 HX
  go_enter Try.func12, Try.ntmps12
  go_wp2_with fail
  rw [← HW1.out]
  refine ret_edit rfl rfl rfl Z.out rfl (.bool false) rfl ?_
  exact JoinPost.of HJ.out.1 HJ.out.2 (RRow.nil _ _) (RRow.nil _ _) B.out
set_option maxRecDepth 1000000 in
set_option maxHeartbeats 4000000 in
theorem refjoin_none_f3 (w : World) (a b : Ed) (A1 A2 A3 A4 : Option Addr) (n1 n2 n3 n4 c1 c2 c3 c4 : Nat) (l1 : a.d.length = n1) (l2 : a.i.length = n2) (l3 : b.d.length = n3) (l4 : b.i.length = n4) (hs1 : n1 + n3 ≤ 35184372088832) (hs2 : n2 + n4 ≤ 35184372088832) (hpa : -9223372036854775808 ≤ a.p ∧ a.p ≤ 9223372036854775807) (hpb : -9223372036854775808 ≤ b.p ∧ b.p ≤ 9223372036854775807) (h3 : n3 = 0) (hle : a.p ≤ b.p) (hne : ¬ wrap64 (b.p - a.p) = (n2 : Int)) (h2 : n2 = 0) (h4 : n4 = 0) (hle2 : ¬ b.p ≤ a.p) :
    Calls Try.prog 12 #[editV a.p (.slice A1 n1 c1) (.slice A2 n2 c2), editV b.p (.slice A3 n3 c3) (.slice A4 n4 c4)] w (JoinPost w a b) := by
  obtain ⟨w1, hw1⟩ : ∃ w1, w1 = ((w.alloc (.cells #[.int .i64 a.p, .slice A1 n1 c1, .slice A2 n2 c2] 24)).alloc (.cells #[.int .i64 b.p, .slice A3 n3 c3, .slice A4 n4 c4] 24)).alloc (.cells edit0 24) := ⟨_, rfl⟩
  obtain ⟨b1, hX, hY, hZ⟩ := three_boxes hw1
  have X := Lib.hid hX
  have Y := Lib.hid hY
  have Z := Lib.hid hZ
  have B := Lib.hid b1
  have HW1 := Lib.hid hw1
  have HX : Hid (∀ W, Below w1.heap.size w1 W → W.cell? ⟨w.heap.size, 0, none⟩ = some (.int .i64 a.p) ∧ W.cell? ⟨w.heap.size, 1, none⟩ = some (.slice A1 n1 c1) ∧ W.cell? ⟨w.heap.size, 2, none⟩ = some (.slice A2 n2 c2) ∧ W.cell? ⟨w.heap.size + 1, 0, none⟩ = some (.int .i64 b.p) ∧ W.cell? ⟨w.heap.size + 1, 1, none⟩ = some (.slice A3 n3 c3) ∧ W.cell? ⟨w.heap.size + 1, 2, none⟩ = some (.slice A4 n4 c4)) := Lib.hid fun W hb =>
    ⟨(hX.below hb).cell 0, (hX.below hb).cell 1, (hX.below hb).cell 2, (hY.below hb).cell 0, (hY.below hb).cell 1, (hY.below hb).cell 2⟩
  have _HS := Lib.hid (And.intro hs1 hs2)
  have e12 := sub_is hpa hpb (n := n2) (by omega)
  have e21 := sub_is hpb hpa (n := n3) (by omega)
  have HJ : Hid (joinE a b = ⟨0, [], []⟩ ∧ joinB a b = false) := Lib.hid (by
    have := l1
    have := l2
    have := l3
    have := l4
    have g1 : goesOn a b = false := by unfold goesOn; rw [decide_eq_false_iff_not]; rintro ⟨u1, u2⟩; rw [← l2] at hne e12; exact hne ((e12 hle).2 u2)
    have g2 : goesBack a b = false := by unfold goesBack; rw [decide_eq_false_iff_not]; rintro ⟨u1, u2, u3⟩; rw [u3] at hle2; omega
    unfold joinE joinB
    rw [g1, g2]
    exact ⟨rfl, rfl⟩)
  have z3a : ((n3 : Int) == 0) = true := by simp; omega
  have z3b : ((n3 : Int) = 0) = True := by simp; omega
  have z3c : (n3 = 0) = True := by simp; omega
  have le1 : (a.p ≤ b.p) = True := eq_true (by omega)
  have eq1 : (wrap64 (b.p - a.p) == (n2 : Int)) = false := by simpa using hne
  have eq1' : (wrap64 (b.p - a.p) = (n2 : Int)) = False := eq_false hne
  have z2a : ((n2 : Int) == 0) = true := by simp; omega
  have z2b : ((n2 : Int) = 0) = True := by simp; omega
  have z2c : (n2 = 0) = True := by simp; omega
  have z4a : ((n4 : Int) == 0) = true := by simp; omega
  have z4b : ((n4 : Int) = 0) = True := by simp; omega
  have z4c : (n4 = 0) = True := by simp; omega
  have le2 : (b.p ≤ a.p) = False := eq_false (by omega)
  clear hX hY hZ b1 hw1 l1 l2 l3 l4 hs1 hs2 hpa hpb e12 e21 h3 hle hne h2 h4 hle2 HX
  go_enter Try.func12, Try.ntmps12
  go_wp2_with fail
  rw [← HW1.out]
  refine ret_edit rfl rfl rfl Z.out rfl (.bool false) rfl ?_
  exact JoinPost.of HJ.out.1 HJ.out.2 (RRow.nil _ _) (RRow.nil _ _) B.out
set_option maxRecDepth 1000000 in
set_option maxHeartbeats 4000000 in
theorem refjoin_none_f4 (w : World) (a b : Ed) (A1 A2 A3 A4 : Option Addr) (n1 n2 n3 n4 c1 c2 c3 c4 : Nat) (l1 : a.d.length = n1) (l2 : a.i.length = n2) (l3 : b.d.length = n3) (l4 : b.i.length = n4) (hs1 : n1 + n3 ≤ 35184372088832) (hs2 : n2 + n4 ≤ 35184372088832) (hpa : -9223372036854775808 ≤ a.p ∧ a.p ≤ 9223372036854775807) (hpb : -9223372036854775808 ≤ b.p ∧ b.p ≤ 9223372036854775807) (h3 : n3 = 0) (hle : a.p ≤ b.p) (hne : ¬ wrap64 (b.p - a.p) = (n2 : Int)) (h2 : n2 = 0) (h4 : n4 = 0) (hle2 : b.p ≤ a.p) (hne2 : ¬ wrap64 (a.p - b.p) = (n3 : Int)) :
    Calls Try.prog 12 #[editV a.p (.slice A1 n1 c1) (.slice A2 n2 c2), editV b.p (.slice A3 n3 c3) (.slice A4 n4 c4)] w (JoinPost w a b) := by
  obtain ⟨w1, hw1⟩ : ∃ w1, w1 = ((w.alloc (.cells #[.int .i64 a.p, .slice A1 n1 c1, .slice A2 n2 c2] 24)).alloc (.cells #[.int .i64 b.p, .slice A3 n3 c3, .slice A4 n4 c4] 24)).alloc (.cells edit0 24) := ⟨_, rfl⟩
  obtain ⟨b1, hX, hY, hZ⟩ := three_boxes hw1
  have X := Lib.hid hX
  have Y := Lib.hid hY
  have Z := Lib.hid hZ
  have B := Lib.hid b1
  have HW1 := Lib.hid hw1
  have HX : Hid (∀ W, Below w1.heap.size w1 W → W.cell? ⟨w.heap.size, 0, none⟩ = some (.int .i64 a.p) ∧ W.cell? ⟨w.heap.size, 1, none⟩ = some (.slice A1 n1 c1) ∧ W.cell? ⟨w.heap.size, 2, none⟩ = some (.slice A2 n2 c2) ∧ W.cell? ⟨w.heap.size + 1, 0, none⟩ = some (.int .i64 b.p) ∧ W.cell? ⟨w.heap.size + 1, 1, none⟩ = some (.slice A3 n3 c3) ∧ W.cell? ⟨w.heap.size + 1, 2, none⟩ = some (.slice A4 n4 c4)) := Lib.hid fun W hb =>
    ⟨(hX.below hb).cell 0, (hX.below hb).cell 1, (hX.below hb).cell 2, (hY.below hb).cell 0, (hY.below hb).cell 1, (hY.below hb).cell 2⟩
  have _HS := Lib.hid (And.intro hs1 hs2)
  have e12 := sub_is hpa hpb (n := n2) (by omega)
  have e21 := sub_is hpb hpa (n := n3) (by omega)
  have HJ : Hid (joinE a b = ⟨0, [], []⟩ ∧ joinB a b = false) := Lib.hid (by
    have := l1
    have := l2
    have := l3
    have := l4
    have g1 : goesOn a b = false := by unfold goesOn; rw [decide_eq_false_iff_not]; rintro ⟨u1, u2⟩; rw [← l2] at hne e12; exact hne ((e12 hle).2 u2)
    have g2 : goesBack a b = false := by unfold goesBack; rw [decide_eq_false_iff_not]; rintro ⟨u1, u2, u3⟩; rw [← l3] at hne2 e21; exact hne2 ((e21 hle2).2 u3)
    unfold joinE joinB
    rw [g1, g2]
    exact ⟨rfl, rfl⟩)
  have z3a : ((n3 : Int) == 0) = true := by simp; omega
  have z3b : ((n3 : Int) = 0) = True := by simp; omega
  have z3c : (n3 = 0) = True := by simp; omega
  have le1 : (a.p ≤ b.p) = True := eq_true (by omega)
  have eq1 : (wrap64 (b.p - a.p) == (n2 : Int)) = false := by simpa using hne
  have eq1' : (wrap64 (b.p - a.p) = (n2 : Int)) = False := eq_false hne
  have z2a : ((n2 : Int) == 0) = true := by simp; omega
  have z2b : ((n2 : Int) = 0) = True := by simp; omega
  have z2c : (n2 = 0) = True := by simp; omega
  have z4a : ((n4 : Int) == 0) = true := by simp; omega
  have z4b : ((n4 : Int) = 0) = True := by simp; omega
  have z4c : (n4 = 0) = True := by simp; omega
  have le2 : (b.p ≤ a.p) = True := eq_true (by omega)
  have eq2 : (wrap64 (a.p - b.p) == (n3 : Int)) = false := by simpa using hne2
  have eq2' : (wrap64 (a.p - b.p) = (n3 : Int)) = False := eq_false hne2
  clear hX hY hZ b1 hw1 l1 l2 l3 l4 hs1 hs2 hpa hpb e12 e21 h3 hle hne h2 h4 hle2 hne2 HX
  go_enter Try.func12, Try.ntmps12
  go_wp2_with fail
  rw [← HW1.out]
  refine ret_edit rfl rfl rfl Z.out rfl (.bool false) rfl ?_
  exact JoinPost.of HJ.out.1 HJ.out.2 (RRow.nil _ _) (RRow.nil _ _) B.out
set_option maxRecDepth 1000000 in
set_option maxHeartbeats 4000000 in
theorem refjoin_on (w : World) (a b : Ed) (A1 A2 A3 A4 : Option Addr) (n1 n2 n3 n4 c1 c2 c3 c4 : Nat) (k1 : Holds1 w (.slice A1 n1 c1) (runeVals a.d)) (k2 : Holds1 w (.slice A2 n2 c2) (runeVals a.i)) (k4 : Holds1 w (.slice A4 n4 c4) (runeVals b.i)) (l1 : a.d.length = n1) (l2 : a.i.length = n2) (l3 : b.d.length = n3) (l4 : b.i.length = n4) (hs1 : n1 + n3 ≤ 35184372088832) (hs2 : n2 + n4 ≤ 35184372088832) (hpa : -9223372036854775808 ≤ a.p ∧ a.p ≤ 9223372036854775807) (hpb : -9223372036854775808 ≤ b.p ∧ b.p ≤ 9223372036854775807) (h3 : n3 = 0) (hle : a.p ≤ b.p) (heq : wrap64 (b.p - a.p) = (n2 : Int)) :
    Calls Try.prog 12 #[editV a.p (.slice A1 n1 c1) (.slice A2 n2 c2), editV b.p (.slice A3 n3 c3) (.slice A4 n4 c4)] w (JoinPost w a b) := by
  obtain ⟨w1, hw1⟩ : ∃ w1, w1 = ((w.alloc (.cells #[.int .i64 a.p, .slice A1 n1 c1, .slice A2 n2 c2] 24)).alloc (.cells #[.int .i64 b.p, .slice A3 n3 c3, .slice A4 n4 c4] 24)).alloc (.cells edit0 24) := ⟨_, rfl⟩
  obtain ⟨b1, hX, hY, hZ⟩ := three_boxes hw1
  have X := Lib.hid hX
  have Y := Lib.hid hY
  have Z := Lib.hid hZ
  have B := Lib.hid b1
  have HW1 := Lib.hid hw1
  have HX : Hid (∀ W, Below w1.heap.size w1 W → W.cell? ⟨w.heap.size, 0, none⟩ = some (.int .i64 a.p) ∧ W.cell? ⟨w.heap.size, 1, none⟩ = some (.slice A1 n1 c1) ∧ W.cell? ⟨w.heap.size, 2, none⟩ = some (.slice A2 n2 c2) ∧ W.cell? ⟨w.heap.size + 1, 0, none⟩ = some (.int .i64 b.p) ∧ W.cell? ⟨w.heap.size + 1, 1, none⟩ = some (.slice A3 n3 c3) ∧ W.cell? ⟨w.heap.size + 1, 2, none⟩ = some (.slice A4 n4 c4)) := Lib.hid fun W hb =>
    ⟨(hX.below hb).cell 0, (hX.below hb).cell 1, (hX.below hb).cell 2, (hY.below hb).cell 0, (hY.below hb).cell 1, (hY.below hb).cell 2⟩
  have _HS := Lib.hid (And.intro hs1 hs2)
  have e12 := sub_is hpa hpb (n := n2) (by omega)
  have e21 := sub_is hpb hpa (n := n3) (by omega)
  have HJ : Hid (joinE a b = ⟨a.p, a.d, a.i ++ b.i⟩ ∧ joinB a b = true) := Lib.hid (by
    have := l1
    have := l2
    have := l3
    have := l4
    have g1 : goesOn a b = true := by unfold goesOn; rw [decide_eq_true_iff]; exact ⟨nil_of (by omega), by rw [l2]; exact (e12 hle).1 heq⟩
    unfold joinE joinB
    rw [g1]
    exact ⟨rfl, rfl⟩)
  have CL1 : Hid (∀ W, Below w.heap.size w W → Calls Try.prog 47 #[.slice A1 n1 c1] W fun x w' => ∃ A n c, x = .returned (.slice A n c) ∧ RRow w' W.heap.size (.slice A n c) a.d ∧ Below W.heap.size W w') := Lib.hid fun W hb => by
    refine (clone_any W _ a.d (k1.below hb) (by omega)).mono ?_
    rintro x w' ⟨r, rfl, h1, h2⟩
    obtain ⟨Ar, nr, cr, rfl⟩ := h1.form3
    exact ⟨Ar, nr, cr, rfl, h1, h2⟩
  have CL2 : Hid (∀ W, Below w.heap.size w W → Calls Try.prog 47 #[.slice A2 n2 c2] W fun x w' => ∃ A n c, x = .returned (.slice A n c) ∧ RRow w' W.heap.size (.slice A n c) a.i ∧ Below W.heap.size W w') := Lib.hid fun W hb => by
    refine (clone_any W _ a.i (k2.below hb) (by omega)).mono ?_
    rintro x w' ⟨r, rfl, h1, h2⟩
    obtain ⟨Ar, nr, cr, rfl⟩ := h1.form3
    exact ⟨Ar, nr, cr, rfl, h1, h2⟩
  have HK4 := Lib.hid fun (W : World) (hb : Below w.heap.size w W) => k4.below hb
  have HSUM : Hid (a.i.length + b.i.length ≤ 35184372088832) := Lib.hid (by omega)
  have z3a : ((n3 : Int) == 0) = true := by simp; omega
  have z3b : ((n3 : Int) = 0) = True := by simp; omega
  have z3c : (n3 = 0) = True := by simp; omega
  have le1 : (a.p ≤ b.p) = True := eq_true (by omega)
  have eq1 : (wrap64 (b.p - a.p) == (n2 : Int)) = true := beq_iff_eq.2 heq
  have eq1' : (wrap64 (b.p - a.p) = (n2 : Int)) = True := eq_true heq
  clear hX hY hZ b1 hw1 l1 l2 l3 l4 hs1 hs2 hpa hpb e12 e21 h3 hle heq k1 k2 k4
  go_enter Try.func12, Try.ntmps12
  go_wp2_with fail
  rw [← HW1.out]
  have D : Hid (Below w1.heap.size w1 w1.drew) := Lib.hid (Below.refl _ _).drew
  have HU : Hid (∀ W x y z, Below w1.heap.size w1 W → EBox (((W.setCell ⟨w.heap.size + 1 + 1, 0, none⟩ x).setCell ⟨w.heap.size + 1 + 1, 1, none⟩ y).setCell ⟨w.heap.size + 1 + 1, 2, none⟩ z) w.heap.size #[.int .i64 a.p, .slice A1 n1 c1, .slice A2 n2 c2] ∧ EBox (((W.setCell ⟨w.heap.size + 1 + 1, 0, none⟩ x).setCell ⟨w.heap.size + 1 + 1, 1, none⟩ y).setCell ⟨w.heap.size + 1 + 1, 2, none⟩ z) (w.heap.size + 1) #[.int .i64 b.p, .slice A3 n3 c3, .slice A4 n4 c4]) := Lib.hid fun W x y z hb =>
    ⟨(three_other W _ x y z (by omega)).trans (X.out.below hb), (three_other W _ x y z (by omega)).trans (Y.out.below hb)⟩
  have hT0 := HX.out _ D.out
  have tok1 : True := trivial
  go_region_held3 (fun W => W.cell? ⟨w.heap.size, 0, none⟩ = some (.int .i64 a.p) ∧ W.cell? ⟨w.heap.size, 1, none⟩ = some (.slice A1 n1 c1) ∧ W.cell? ⟨w.heap.size, 2, none⟩ = some (.slice A2 n2 c2) ∧ W.cell? ⟨w.heap.size + 1, 0, none⟩ = some (.int .i64 b.p) ∧ W.cell? ⟨w.heap.size + 1, 1, none⟩ = some (.slice A3 n3 c3) ∧ W.cell? ⟨w.heap.size + 1, 2, none⟩ = some (.slice A4 n4 c4)) (first | with_reducible exact hT0 | with_reducible exact hT1 | with_reducible exact hT2 | with_reducible exact hT5 | (refine six_of ?_ ?_; with_reducible exact (HU.out _ _ _ _ D5.out).1; with_reducible exact (HU.out _ _ _ _ D5.out).2) | fail) (first
    | (go_at_call 47; have tk := tok1; clear tok1 tk; have tok2 : True := trivial; refine (CL1.out _ (B.out.trans (D.out.mono B.out.size))).mono ?_; rintro e w2 ⟨Ac, nc, cc, rfl, hr, hb⟩; have R1 := Lib.hid (hr.less (Nat.le_trans B.out.size D.out.size)); have D := Lib.hid (D.out.trans (hb.mono D.out.size)); have hT1 := HX.out _ D.out; clear hr hb)
    | (go_at_call 47; have tk := tok2; clear tok2 tk; refine (CL2.out _ (B.out.trans (D.out.mono B.out.size))).mono ?_; rintro e w3 ⟨Ae, ne, ce, rfl, hr, hb⟩; have D3 := Lib.hid (D.out.trans (hb.mono D.out.size)); have hT2 := HX.out _ D3.out; obtain ⟨A5, n5, c5, w5, r5, hR5, hb5⟩ := run_append_runes w3 22 w2.heap.size _ a.i hr (HK4.out _ (B.out.trans (D3.out.mono B.out.size))) HSUM.out hb.size; have R1 := Lib.hid (R1.out.below (hb.trans hb5)); have R2 := Lib.hid (hR5.less (Nat.le_trans B.out.size D.out.size)); have D5 := Lib.hid (D3.out.trans (hb5.mono D.out.size)); have Z5 := Lib.hid (Z.out.below D5.out); have hT5 := HX.out _ D5.out; have q0 := Z5.out.cell 0; have q1 := Z5.out.cell 1; have q2 := Z5.out.cell 2; have f0 := Z5.out.frozen 0; have f1 := Z5.out.frozen 1; have f2 := Z5.out.frozen 2; clear hr hb hR5 hb5)
    | (with_reducible refine step_of_run2 r5 ?_ ?_; exact ⟨rfl, rfl, _, _, rfl, rfl, rfl⟩))
  all_goals
    go_wp2
    refine ret_edit rfl rfl rfl Z5.out.set rfl (.bool true) rfl ?_
    exact JoinPost.of HJ.out.1 HJ.out.2 (R1.out.three Z5.out) (R2.out.three Z5.out) (below_three w _ (w.heap.size + 1 + 1) (by omega) _ _ _ (B.out.trans (D5.out.mono B.out.size)))
set_option maxRecDepth 1000000 in
set_option maxHeartbeats 4000000 in
theorem refjoin_back_d (w : World) (a b : Ed) (A1 A2 A3 A4 : Option Addr) (n1 n2 n3 n4 c1 c2 c3 c4 : Nat) (k1 : Holds1 w (.slice A1 n1 c1) (runeVals a.d)) (k3 : Holds1 w (.slice A3 n3 c3) (runeVals b.d)) (l1 : a.d.length = n1) (l2 : a.i.length = n2) (l3 : b.d.length = n3) (l4 : b.i.length = n4) (hs1 : n1 + n3 ≤ 35184372088832) (hs2 : n2 + n4 ≤ 35184372088832) (hpa : -9223372036854775808 ≤ a.p ∧ a.p ≤ 9223372036854775807) (hpb : -9223372036854775808 ≤ b.p ∧ b.p ≤ 9223372036854775807) (h3 : n3 ≠ 0) (h2 : n2 = 0) (h4 : n4 = 0) (hle2 : b.p ≤ a.p) (heq2 : wrap64 (a.p - b.p) = (n3 : Int)) :
    Calls Try.prog 12 #[editV a.p (.slice A1 n1 c1) (.slice A2 n2 c2), editV b.p (.slice A3 n3 c3) (.slice A4 n4 c4)] w (JoinPost w a b) := by
  obtain ⟨w1, hw1⟩ : ∃ w1, w1 = ((w.alloc (.cells #[.int .i64 a.p, .slice A1 n1 c1, .slice A2 n2 c2] 24)).alloc (.cells #[.int .i64 b.p, .slice A3 n3 c3, .slice A4 n4 c4] 24)).alloc (.cells edit0 24) := ⟨_, rfl⟩
  obtain ⟨b1, hX, hY, hZ⟩ := three_boxes hw1
  have X := Lib.hid hX
  have Y := Lib.hid hY
  have Z := Lib.hid hZ
  have B := Lib.hid b1
  have HW1 := Lib.hid hw1
  have HX : Hid (∀ W, Below w1.heap.size w1 W → W.cell? ⟨w.heap.size, 0, none⟩ = some (.int .i64 a.p) ∧ W.cell? ⟨w.heap.size, 1, none⟩ = some (.slice A1 n1 c1) ∧ W.cell? ⟨w.heap.size, 2, none⟩ = some (.slice A2 n2 c2) ∧ W.cell? ⟨w.heap.size + 1, 0, none⟩ = some (.int .i64 b.p) ∧ W.cell? ⟨w.heap.size + 1, 1, none⟩ = some (.slice A3 n3 c3) ∧ W.cell? ⟨w.heap.size + 1, 2, none⟩ = some (.slice A4 n4 c4)) := Lib.hid fun W hb =>
    ⟨(hX.below hb).cell 0, (hX.below hb).cell 1, (hX.below hb).cell 2, (hY.below hb).cell 0, (hY.below hb).cell 1, (hY.below hb).cell 2⟩
  have _HS := Lib.hid (And.intro hs1 hs2)
  have e12 := sub_is hpa hpb (n := n2) (by omega)
  have e21 := sub_is hpb hpa (n := n3) (by omega)
  have HJ : Hid (joinE a b = ⟨b.p, b.d ++ a.d, []⟩ ∧ joinB a b = true) := Lib.hid (by
    have := l1
    have := l2
    have := l3
    have := l4
    have g1 : goesOn a b = false := by unfold goesOn; rw [decide_eq_false_iff_not]; rintro ⟨u1, u2⟩; rw [u1] at l3; simp at l3; omega
    have g2 : goesBack a b = true := by unfold goesBack; rw [decide_eq_true_iff]; exact ⟨nil_of (by omega), nil_of (by omega), by rw [l3]; exact (e21 hle2).1 heq2⟩
    unfold joinE joinB
    rw [g1, g2]
    exact ⟨rfl, rfl⟩)
  have CL1 : Hid (∀ W, Below w.heap.size w W → Calls Try.prog 47 #[.slice A3 n3 c3] W fun x w' => ∃ A n c, x = .returned (.slice A n c) ∧ RRow w' W.heap.size (.slice A n c) b.d ∧ Below W.heap.size W w') := Lib.hid fun W hb => by
    refine (clone_any W _ b.d (k3.below hb) (by omega)).mono ?_
    rintro x w' ⟨r, rfl, h1, h2⟩
    obtain ⟨Ar, nr, cr, rfl⟩ := h1.form3
    exact ⟨Ar, nr, cr, rfl, h1, h2⟩
  have HK4 := Lib.hid fun (W : World) (hb : Below w.heap.size w W) => k1.below hb
  have HSUM : Hid (b.d.length + a.d.length ≤ 35184372088832) := Lib.hid (by omega)
  have z3a : ((n3 : Int) == 0) = false := by simp; omega
  have z3b : ((n3 : Int) = 0) = False := by simp; omega
  have z3c : (n3 = 0) = False := by simp; omega
  have z2a : ((n2 : Int) == 0) = true := by simp; omega
  have z2b : ((n2 : Int) = 0) = True := by simp; omega
  have z2c : (n2 = 0) = True := by simp; omega
  have z4a : ((n4 : Int) == 0) = true := by simp; omega
  have z4b : ((n4 : Int) = 0) = True := by simp; omega
  have z4c : (n4 = 0) = True := by simp; omega
  have le2 : (b.p ≤ a.p) = True := eq_true (by omega)
  have eq2 : (wrap64 (a.p - b.p) == (n3 : Int)) = true := beq_iff_eq.2 heq2
  have eq2' : (wrap64 (a.p - b.p) = (n3 : Int)) = True := eq_true heq2
  clear hX hY hZ b1 hw1 l1 l2 l3 l4 hs1 hs2 hpa hpb e12 e21 h3 h2 h4 hle2 heq2 k1 k3
  go_enter Try.func12, Try.ntmps12
  go_wp2_with fail
  rw [← HW1.out]
  have D : Hid (Below w1.heap.size w1 w1.drew) := Lib.hid (Below.refl _ _).drew
  have HU : Hid (∀ W x y z, Below w1.heap.size w1 W → EBox (((W.setCell ⟨w.heap.size + 1 + 1, 0, none⟩ x).setCell ⟨w.heap.size + 1 + 1, 1, none⟩ y).setCell ⟨w.heap.size + 1 + 1, 2, none⟩ z) w.heap.size #[.int .i64 a.p, .slice A1 n1 c1, .slice A2 n2 c2] ∧ EBox (((W.setCell ⟨w.heap.size + 1 + 1, 0, none⟩ x).setCell ⟨w.heap.size + 1 + 1, 1, none⟩ y).setCell ⟨w.heap.size + 1 + 1, 2, none⟩ z) (w.heap.size + 1) #[.int .i64 b.p, .slice A3 n3 c3, .slice A4 n4 c4]) := Lib.hid fun W x y z hb =>
    ⟨(three_other W _ x y z (by omega)).trans (X.out.below hb), (three_other W _ x y z (by omega)).trans (Y.out.below hb)⟩
  have hT0 := HX.out _ D.out
  go_region_held3 (fun W => W.cell? ⟨w.heap.size, 0, none⟩ = some (.int .i64 a.p) ∧ W.cell? ⟨w.heap.size, 1, none⟩ = some (.slice A1 n1 c1) ∧ W.cell? ⟨w.heap.size, 2, none⟩ = some (.slice A2 n2 c2) ∧ W.cell? ⟨w.heap.size + 1, 0, none⟩ = some (.int .i64 b.p) ∧ W.cell? ⟨w.heap.size + 1, 1, none⟩ = some (.slice A3 n3 c3) ∧ W.cell? ⟨w.heap.size + 1, 2, none⟩ = some (.slice A4 n4 c4)) (first | with_reducible exact hT0 | with_reducible exact hT2 | with_reducible exact hT5 | (refine six_of ?_ ?_; with_reducible exact (HU.out _ _ _ _ D5.out).1; with_reducible exact (HU.out _ _ _ _ D5.out).2) | fail) (first
    | (go_at_call 47; refine (CL1.out _ (B.out.trans (D.out.mono B.out.size))).mono ?_; rintro e w3 ⟨Ae, ne, ce, rfl, hr, hb⟩; have D3 := Lib.hid (D.out.trans (hb.mono D.out.size)); have hT2 := HX.out _ D3.out; obtain ⟨A5, n5, c5, w5, r5, hR5, hb5⟩ := run_append_runes w3 22 w1.heap.size _ b.d hr (HK4.out _ (B.out.trans (D3.out.mono B.out.size))) HSUM.out hb.size; have R2 := Lib.hid (hR5.less B.out.size); have D5 := Lib.hid (D3.out.trans (hb5.mono (Nat.le_refl _))); have Z5 := Lib.hid (Z.out.below D5.out); have hT5 := HX.out _ D5.out; have q0 := Z5.out.cell 0; have q1 := Z5.out.cell 1; have q2 := Z5.out.cell 2; have f0 := Z5.out.frozen 0; have f1 := Z5.out.frozen 1; have f2 := Z5.out.frozen 2; clear hr hb hR5 hb5)
    | (with_reducible refine step_of_run2 r5 ?_ ?_; exact ⟨rfl, rfl, _, _, rfl, rfl, rfl⟩))
  all_goals
    go_wp2
    refine ret_edit rfl rfl rfl Z5.out.set rfl (.bool true) rfl ?_
    exact JoinPost.of HJ.out.1 HJ.out.2 (R2.out.three Z5.out) (RRow.nil _ _) (below_three w _ (w.heap.size + 1 + 1) (by omega) _ _ _ (B.out.trans (D5.out.mono B.out.size)))
set_option maxRecDepth 1000000 in
set_option maxHeartbeats 4000000 in
theorem refjoin_back_e (w : World) (a b : Ed) (A1 A2 A3 A4 : Option Addr) (n1 n2 n3 n4 c1 c2 c3 c4 : Nat) (k1 : Holds1 w (.slice A1 n1 c1) (runeVals a.d)) (k3 : Holds1 w (.slice A3 n3 c3) (runeVals b.d)) (l1 : a.d.length = n1) (l2 : a.i.length = n2) (l3 : b.d.length = n3) (l4 : b.i.length = n4) (hs1 : n1 + n3 ≤ 35184372088832) (hs2 : n2 + n4 ≤ 35184372088832) (hpa : -9223372036854775808 ≤ a.p ∧ a.p ≤ 9223372036854775807) (hpb : -9223372036854775808 ≤ b.p ∧ b.p ≤ 9223372036854775807) (h3 : n3 = 0) (hle : ¬ a.p ≤ b.p) (h2 : n2 = 0) (h4 : n4 = 0) (hle2 : b.p ≤ a.p) (heq2 : wrap64 (a.p - b.p) = (n3 : Int)) :
    Calls Try.prog 12 #[editV a.p (.slice A1 n1 c1) (.slice A2 n2 c2), editV b.p (.slice A3 n3 c3) (.slice A4 n4 c4)] w (JoinPost w a b) := by
  obtain ⟨w1, hw1⟩ : ∃ w1, w1 = ((w.alloc (.cells #[.int .i64 a.p, .slice A1 n1 c1, .slice A2 n2 c2] 24)).alloc (.cells #[.int .i64 b.p, .slice A3 n3 c3, .slice A4 n4 c4] 24)).alloc (.cells edit0 24) := ⟨_, rfl⟩
  obtain ⟨b1, hX, hY, hZ⟩ := three_boxes hw1
  have X := Lib.hid hX
  have Y := Lib.hid hY
  have Z := Lib.hid hZ
  have B := Lib.hid b1
  have HW1 := Lib.hid hw1
  have HX : Hid (∀ W, Below w1.heap.size w1 W → W.cell? ⟨w.heap.size, 0, none⟩ = some (.int .i64 a.p) ∧ W.cell? ⟨w.heap.size, 1, none⟩ = some (.slice A1 n1 c1) ∧ W.cell? ⟨w.heap.size, 2, none⟩ = some (.slice A2 n2 c2) ∧ W.cell? ⟨w.heap.size + 1, 0, none⟩ = some (.int .i64 b.p) ∧ W.cell? ⟨w.heap.size + 1, 1, none⟩ = some (.slice A3 n3 c3) ∧ W.cell? ⟨w.heap.size + 1, 2, none⟩ = some (.slice A4 n4 c4)) := Lib.hid fun W hb =>
    ⟨(hX.below hb).cell 0, (hX.below hb).cell 1, (hX.below hb).cell 2, (hY.below hb).cell 0, (hY.below hb).cell 1, (hY.below hb).cell 2⟩
  have _HS := Lib.hid (And.intro hs1 hs2)
  have e12 := sub_is hpa hpb (n := n2) (by omega)
  have e21 := sub_is hpb hpa (n := n3) (by omega)
  have HJ : Hid (joinE a b = ⟨b.p, b.d ++ a.d, []⟩ ∧ joinB a b = true) := Lib.hid (by
    have := l1
    have := l2
    have := l3
    have := l4
    have g1 : goesOn a b = false := by unfold goesOn; rw [decide_eq_false_iff_not]; rintro ⟨u1, u2⟩; rw [u2] at hle; omega
    have g2 : goesBack a b = true := by unfold goesBack; rw [decide_eq_true_iff]; exact ⟨nil_of (by omega), nil_of (by omega), by rw [l3]; exact (e21 hle2).1 heq2⟩
    unfold joinE joinB
    rw [g1, g2]
    exact ⟨rfl, rfl⟩)
  have CL1 : Hid (∀ W, Below w.heap.size w W → Calls Try.prog 47 #[.slice A3 n3 c3] W fun x w' => ∃ A n c, x = .returned (.slice A n c) ∧ RRow w' W.heap.size (.slice A n c) b.d ∧ Below W.heap.size W w') := Lib.hid fun W hb => by
    refine (clone_any W _ b.d (k3.below hb) (by omega)).mono ?_
    rintro x w' ⟨r, rfl, h1, h2⟩
    obtain ⟨Ar, nr, cr, rfl⟩ := h1.form3
    exact ⟨Ar, nr, cr, rfl, h1, h2⟩
  have HK4 := Lib.hid fun (W : World) (hb : Below w.heap.size w W) => k1.below hb
  have HSUM : Hid (b.d.length + a.d.length ≤ 35184372088832) := Lib.hid (by omega)
  have z3a : ((n3 : Int) == 0) = true := by simp; omega
  have z3b : ((n3 : Int) = 0) = True := by simp; omega
  have z3c : (n3 = 0) = True := by simp; omega
  have le1 : (a.p ≤ b.p) = False := eq_false (by omega)
  have z2a : ((n2 : Int) == 0) = true := by simp; omega
  have z2b : ((n2 : Int) = 0) = True := by simp; omega
  have z2c : (n2 = 0) = True := by simp; omega
  have z4a : ((n4 : Int) == 0) = true := by simp; omega
  have z4b : ((n4 : Int) = 0) = True := by simp; omega
  have z4c : (n4 = 0) = True := by simp; omega
  have le2 : (b.p ≤ a.p) = True := eq_true (by omega)
  have eq2 : (wrap64 (a.p - b.p) == (n3 : Int)) = true := beq_iff_eq.2 heq2
  have eq2' : (wrap64 (a.p - b.p) = (n3 : Int)) = True := eq_true heq2
  clear hX hY hZ b1 hw1 l1 l2 l3 l4 hs1 hs2 hpa hpb e12 e21 h3 hle h2 h4 hle2 heq2 k1 k3
  go_enter Try.func12, Try.ntmps12
  go_wp2_with fail
  rw [← HW1.out]
  have D : Hid (Below w1.heap.size w1 w1.drew) := Lib.hid (Below.refl _ _).drew
  have HU : Hid (∀ W x y z, Below w1.heap.size w1 W → EBox (((W.setCell ⟨w.heap.size + 1 + 1, 0, none⟩ x).setCell ⟨w.heap.size + 1 + 1, 1, none⟩ y).setCell ⟨w.heap.size + 1 + 1, 2, none⟩ z) w.heap.size #[.int .i64 a.p, .slice A1 n1 c1, .slice A2 n2 c2] ∧ EBox (((W.setCell ⟨w.heap.size + 1 + 1, 0, none⟩ x).setCell ⟨w.heap.size + 1 + 1, 1, none⟩ y).setCell ⟨w.heap.size + 1 + 1, 2, none⟩ z) (w.heap.size + 1) #[.int .i64 b.p, .slice A3 n3 c3, .slice A4 n4 c4]) := Lib.hid fun W x y z hb =>
    ⟨(three_other W _ x y z (by omega)).trans (X.out.below hb), (three_other W _ x y z (by omega)).trans (Y.out.below hb)⟩
  have hT0 := HX.out _ D.out
  go_region_held3 (fun W => W.cell? ⟨w.heap.size, 0, none⟩ = some (.int .i64 a.p) ∧ W.cell? ⟨w.heap.size, 1, none⟩ = some (.slice A1 n1 c1) ∧ W.cell? ⟨w.heap.size, 2, none⟩ = some (.slice A2 n2 c2) ∧ W.cell? ⟨w.heap.size + 1, 0, none⟩ = some (.int .i64 b.p) ∧ W.cell? ⟨w.heap.size + 1, 1, none⟩ = some (.slice A3 n3 c3) ∧ W.cell? ⟨w.heap.size + 1, 2, none⟩ = some (.slice A4 n4 c4)) (first | with_reducible exact hT0 | with_reducible exact hT2 | with_reducible exact hT5 | (refine six_of ?_ ?_; with_reducible exact (HU.out _ _ _ _ D5.out).1; with_reducible exact (HU.out _ _ _ _ D5.out).2) | fail) (first
    | (go_at_call 47; refine (CL1.out _ (B.out.trans (D.out.mono B.out.size))).mono ?_; rintro e w3 ⟨Ae, ne, ce, rfl, hr, hb⟩; have D3 := Lib.hid (D.out.trans (hb.mono D.out.size)); have hT2 := HX.out _ D3.out; obtain ⟨A5, n5, c5, w5, r5, hR5, hb5⟩ := run_append_runes w3 22 w1.heap.size _ b.d hr (HK4.out _ (B.out.trans (D3.out.mono B.out.size))) HSUM.out hb.size; have R2 := Lib.hid (hR5.less B.out.size); have D5 := Lib.hid (D3.out.trans (hb5.mono (Nat.le_refl _))); have Z5 := Lib.hid (Z.out.below D5.out); have hT5 := HX.out _ D5.out; have q0 := Z5.out.cell 0; have q1 := Z5.out.cell 1; have q2 := Z5.out.cell 2; have f0 := Z5.out.frozen 0; have f1 := Z5.out.frozen 1; have f2 := Z5.out.frozen 2; clear hr hb hR5 hb5)
    | (with_reducible refine step_of_run2 r5 ?_ ?_; exact ⟨rfl, rfl, _, _, rfl, rfl, rfl⟩))
  all_goals
    go_wp2
    refine ret_edit rfl rfl rfl Z5.out.set rfl (.bool true) rfl ?_
    exact JoinPost.of HJ.out.1 HJ.out.2 (R2.out.three Z5.out) (RRow.nil _ _) (below_three w _ (w.heap.size + 1 + 1) (by omega) _ _ _ (B.out.trans (D5.out.mono B.out.size)))
set_option maxRecDepth 1000000 in
set_option maxHeartbeats 4000000 in
theorem refjoin_back_f (w : World) (a b : Ed) (A1 A2 A3 A4 : Option Addr) (n1 n2 n3 n4 c1 c2 c3 c4 : Nat) (k1 : Holds1 w (.slice A1 n1 c1) (runeVals a.d)) (k3 : Holds1 w (.slice A3 n3 c3) (runeVals b.d)) (l1 : a.d.length = n1) (l2 : a.i.length = n2) (l3 : b.d.length = n3) (l4 : b.i.length = n4) (hs1 : n1 + n3 ≤ 35184372088832) (hs2 : n2 + n4 ≤ 35184372088832) (hpa : -9223372036854775808 ≤ a.p ∧ a.p ≤ 9223372036854775807) (hpb : -9223372036854775808 ≤ b.p ∧ b.p ≤ 9223372036854775807) (h3 : n3 = 0) (hle : a.p ≤ b.p) (hne : ¬ wrap64 (b.p - a.p) = (n2 : Int)) (h2 : n2 = 0) (h4 : n4 = 0) (hle2 : b.p ≤ a.p) (heq2 : wrap64 (a.p - b.p) = (n3 : Int)) :
    Calls Try.prog 12 #[editV a.p (.slice A1 n1 c1) (.slice A2 n2 c2), editV b.p (.slice A3 n3 c3) (.slice A4 n4 c4)] w (JoinPost w a b) := by
  obtain ⟨w1, hw1⟩ : ∃ w1, w1 = ((w.alloc (.cells #[.int .i64 a.p, .slice A1 n1 c1, .slice A2 n2 c2] 24)).alloc (.cells #[.int .i64 b.p, .slice A3 n3 c3, .slice A4 n4 c4] 24)).alloc (.cells edit0 24) := ⟨_, rfl⟩
  obtain ⟨b1, hX, hY, hZ⟩ := three_boxes hw1
  have X := Lib.hid hX
  have Y := Lib.hid hY
  have Z := Lib.hid hZ
  have B := Lib.hid b1
  have HW1 := Lib.hid hw1
  have HX : Hid (∀ W, Below w1.heap.size w1 W → W.cell? ⟨w.heap.size, 0, none⟩ = some (.int .i64 a.p) ∧ W.cell? ⟨w.heap.size, 1, none⟩ = some (.slice A1 n1 c1) ∧ W.cell? ⟨w.heap.size, 2, none⟩ = some (.slice A2 n2 c2) ∧ W.cell? ⟨w.heap.size + 1, 0, none⟩ = some (.int .i64 b.p) ∧ W.cell? ⟨w.heap.size + 1, 1, none⟩ = some (.slice A3 n3 c3) ∧ W.cell? ⟨w.heap.size + 1, 2, none⟩ = some (.slice A4 n4 c4)) := Lib.hid fun W hb =>
    ⟨(hX.below hb).cell 0, (hX.below hb).cell 1, (hX.below hb).cell 2, (hY.below hb).cell 0, (hY.below hb).cell 1, (hY.below hb).cell 2⟩
  have _HS := Lib.hid (And.intro hs1 hs2)
  have e12 := sub_is hpa hpb (n := n2) (by omega)
  have e21 := sub_is hpb hpa (n := n3) (by omega)
  have HJ : Hid (joinE a b = ⟨b.p, b.d ++ a.d, []⟩ ∧ joinB a b = true) := Lib.hid (by
    have := l1
    have := l2
    have := l3
    have := l4
    have g1 : goesOn a b = false := by unfold goesOn; rw [decide_eq_false_iff_not]; rintro ⟨u1, u2⟩; rw [← l2] at hne e12; exact hne ((e12 hle).2 u2)
    have g2 : goesBack a b = true := by unfold goesBack; rw [decide_eq_true_iff]; exact ⟨nil_of (by omega), nil_of (by omega), by rw [l3]; exact (e21 hle2).1 heq2⟩
    unfold joinE joinB
    rw [g1, g2]
    exact ⟨rfl, rfl⟩)
  have CL1 : Hid (∀ W, Below w.heap.size w W → Calls Try.prog 47 #[.slice A3 n3 c3] W fun x w' => ∃ A n c, x = .returned (.slice A n c) ∧ RRow w' W.heap.size (.slice A n c) b.d ∧ Below W.heap.size W w') := Lib.hid fun W hb => by
    refine (clone_any W _ b.d (k3.below hb) (by omega)).mono ?_
    rintro x w' ⟨r, rfl, h1, h2⟩
    obtain ⟨Ar, nr, cr, rfl⟩ := h1.form3
    exact ⟨Ar, nr, cr, rfl, h1, h2⟩
  have HK4 := Lib.hid fun (W : World) (hb : Below w.heap.size w W) => k1.below hb
  have HSUM : Hid (b.d.length + a.d.length ≤ 35184372088832) := Lib.hid (by omega)
  have z3a : ((n3 : Int) == 0) = true := by simp; omega
  have z3b : ((n3 : Int) = 0) = True := by simp; omega
  have z3c : (n3 = 0) = True := by simp; omega
  have le1 : (a.p ≤ b.p) = True := eq_true (by omega)
  have eq1 : (wrap64 (b.p - a.p) == (n2 : Int)) = false := by simpa using hne
  have eq1' : (wrap64 (b.p - a.p) = (n2 : Int)) = False := eq_false hne
  have z2a : ((n2 : Int) == 0) = true := by simp; omega
  have z2b : ((n2 : Int) = 0) = True := by simp; omega
  have z2c : (n2 = 0) = True := by simp; omega
  have z4a : ((n4 : Int) == 0) = true := by simp; omega
  have z4b : ((n4 : Int) = 0) = True := by simp; omega
  have z4c : (n4 = 0) = True := by simp; omega
  have le2 : (b.p ≤ a.p) = True := eq_true (by omega)
  have eq2 : (wrap64 (a.p - b.p) == (n3 : Int)) = true := beq_iff_eq.2 heq2
  have eq2' : (wrap64 (a.p - b.p) = (n3 : Int)) = True := eq_true heq2
  clear hX hY hZ b1 hw1 l1 l2 l3 l4 hs1 hs2 hpa hpb e12 e21 h3 hle hne h2 h4 hle2 heq2 k1 k3
  go_enter Try.func12, Try.ntmps12
  go_wp2_with fail
  rw [← HW1.out]
  have D : Hid (Below w1.heap.size w1 w1.drew) := Lib.hid (Below.refl _ _).drew
  have HU : Hid (∀ W x y z, Below w1.heap.size w1 W → EBox (((W.setCell ⟨w.heap.size + 1 + 1, 0, none⟩ x).setCell ⟨w.heap.size + 1 + 1, 1, none⟩ y).setCell ⟨w.heap.size + 1 + 1, 2, none⟩ z) w.heap.size #[.int .i64 a.p, .slice A1 n1 c1, .slice A2 n2 c2] ∧ EBox (((W.setCell ⟨w.heap.size + 1 + 1, 0, none⟩ x).setCell ⟨w.heap.size + 1 + 1, 1, none⟩ y).setCell ⟨w.heap.size + 1 + 1, 2, none⟩ z) (w.heap.size + 1) #[.int .i64 b.p, .slice A3 n3 c3, .slice A4 n4 c4]) := Lib.hid fun W x y z hb =>
    ⟨(three_other W _ x y z (by omega)).trans (X.out.below hb), (three_other W _ x y z (by omega)).trans (Y.out.below hb)⟩
  have hT0 := HX.out _ D.out
  go_region_held3 (fun W => W.cell? ⟨w.heap.size, 0, none⟩ = some (.int .i64 a.p) ∧ W.cell? ⟨w.heap.size, 1, none⟩ = some (.slice A1 n1 c1) ∧ W.cell? ⟨w.heap.size, 2, none⟩ = some (.slice A2 n2 c2) ∧ W.cell? ⟨w.heap.size + 1, 0, none⟩ = some (.int .i64 b.p) ∧ W.cell? ⟨w.heap.size + 1, 1, none⟩ = some (.slice A3 n3 c3) ∧ W.cell? ⟨w.heap.size + 1, 2, none⟩ = some (.slice A4 n4 c4)) (first | with_reducible exact hT0 | with_reducible exact hT2 | with_reducible exact hT5 | (refine six_of ?_ ?_; with_reducible exact (HU.out _ _ _ _ D5.out).1; with_reducible exact (HU.out _ _ _ _ D5.out).2) | fail) (first
    | (go_at_call 47; refine (CL1.out _ (B.out.trans (D.out.mono B.out.size))).mono ?_; rintro e w3 ⟨Ae, ne, ce, rfl, hr, hb⟩; have D3 := Lib.hid (D.out.trans (hb.mono D.out.size)); have hT2 := HX.out _ D3.out; obtain ⟨A5, n5, c5, w5, r5, hR5, hb5⟩ := run_append_runes w3 22 w1.heap.size _ b.d hr (HK4.out _ (B.out.trans (D3.out.mono B.out.size))) HSUM.out hb.size; have R2 := Lib.hid (hR5.less B.out.size); have D5 := Lib.hid (D3.out.trans (hb5.mono (Nat.le_refl _))); have Z5 := Lib.hid (Z.out.below D5.out); have hT5 := HX.out _ D5.out; have q0 := Z5.out.cell 0; have q1 := Z5.out.cell 1; have q2 := Z5.out.cell 2; have f0 := Z5.out.frozen 0; have f1 := Z5.out.frozen 1; have f2 := Z5.out.frozen 2; clear hr hb hR5 hb5)
    | (with_reducible refine step_of_run2 r5 ?_ ?_; exact ⟨rfl, rfl, _, _, rfl, rfl, rfl⟩))
  all_goals
    go_wp2
    refine ret_edit rfl rfl rfl Z5.out.set rfl (.bool true) rfl ?_
    exact JoinPost.of HJ.out.1 HJ.out.2 (R2.out.three Z5.out) (RRow.nil _ _) (below_three w _ (w.heap.size + 1 + 1) (by omega) _ _ _ (B.out.trans (D5.out.mono B.out.size)))
theorem refJoin_any (w : World) (a b : Ed) (v1 v2 v3 v4 : Value) (k1 : Holds1 w v1 (runeVals a.d)) (k2 : Holds1 w v2 (runeVals a.i)) (k3 : Holds1 w v3 (runeVals b.d)) (k4 : Holds1 w v4 (runeVals b.i)) (hs1 : a.d.length + b.d.length ≤ 35184372088832) (hs2 : a.i.length + b.i.length ≤ 35184372088832) (hpa : -9223372036854775808 ≤ a.p ∧ a.p ≤ 9223372036854775807) (hpb : -9223372036854775808 ≤ b.p ∧ b.p ≤ 9223372036854775807) :
    Calls Try.prog 12 #[editV a.p v1 v2, editV b.p v3 v4] w (JoinPost w a b) := by
  obtain ⟨A1, c1, rfl, _⟩ := id k1
  obtain ⟨A2, c2, rfl, _⟩ := id k2
  obtain ⟨A3, c3, rfl, _⟩ := id k3
  obtain ⟨A4, c4, rfl, _⟩ := id k4
  simp only [runeVals_length] at k1 k2 k3 k4 ⊢
  by_cases h3 : b.d.length = 0
  · by_cases hle : a.p ≤ b.p
    · by_cases heq : wrap64 (b.p - a.p) = (a.i.length : Int)
      · exact refjoin_on w a b A1 A2 A3 A4 _ _ _ _ c1 c2 c3 c4 k1 k2 k4 rfl rfl rfl rfl hs1 hs2 hpa hpb h3 hle heq
      · skip
        by_cases h2 : a.i.length = 0
        · by_cases h4 : b.i.length = 0
          · by_cases hle2 : b.p ≤ a.p
            · by_cases heq2 : wrap64 (a.p - b.p) = (b.d.length : Int)
              · exact refjoin_back_f w a b A1 A2 A3 A4 _ _ _ _ c1 c2 c3 c4 k1 k3 rfl rfl rfl rfl hs1 hs2 hpa hpb h3 hle heq h2 h4 hle2 heq2
              · exact refjoin_none_f4 w a b A1 A2 A3 A4 _ _ _ _ c1 c2 c3 c4 rfl rfl rfl rfl hs1 hs2 hpa hpb h3 hle heq h2 h4 hle2 heq2
            · exact refjoin_none_f3 w a b A1 A2 A3 A4 _ _ _ _ c1 c2 c3 c4 rfl rfl rfl rfl hs1 hs2 hpa hpb h3 hle heq h2 h4 hle2
          · exact refjoin_none_f2 w a b A1 A2 A3 A4 _ _ _ _ c1 c2 c3 c4 rfl rfl rfl rfl hs1 hs2 hpa hpb h3 hle heq h2 h4
        · exact refjoin_none_f1 w a b A1 A2 A3 A4 _ _ _ _ c1 c2 c3 c4 rfl rfl rfl rfl hs1 hs2 hpa hpb h3 hle heq h2
    · skip
      by_cases h2 : a.i.length = 0
      · by_cases h4 : b.i.length = 0
        · by_cases hle2 : b.p ≤ a.p
          · by_cases heq2 : wrap64 (a.p - b.p) = (b.d.length : Int)
            · exact refjoin_back_e w a b A1 A2 A3 A4 _ _ _ _ c1 c2 c3 c4 k1 k3 rfl rfl rfl rfl hs1 hs2 hpa hpb h3 hle h2 h4 hle2 heq2
            · exact refjoin_none_e4 w a b A1 A2 A3 A4 _ _ _ _ c1 c2 c3 c4 rfl rfl rfl rfl hs1 hs2 hpa hpb h3 hle h2 h4 hle2 heq2
          · exact refjoin_none_e3 w a b A1 A2 A3 A4 _ _ _ _ c1 c2 c3 c4 rfl rfl rfl rfl hs1 hs2 hpa hpb h3 hle h2 h4 hle2
        · exact refjoin_none_e2 w a b A1 A2 A3 A4 _ _ _ _ c1 c2 c3 c4 rfl rfl rfl rfl hs1 hs2 hpa hpb h3 hle h2 h4
      · exact refjoin_none_e1 w a b A1 A2 A3 A4 _ _ _ _ c1 c2 c3 c4 rfl rfl rfl rfl hs1 hs2 hpa hpb h3 hle h2
  · skip
    by_cases h2 : a.i.length = 0
    · by_cases h4 : b.i.length = 0
      · by_cases hle2 : b.p ≤ a.p
        · by_cases heq2 : wrap64 (a.p - b.p) = (b.d.length : Int)
          · exact refjoin_back_d w a b A1 A2 A3 A4 _ _ _ _ c1 c2 c3 c4 k1 k3 rfl rfl rfl rfl hs1 hs2 hpa hpb h3 h2 h4 hle2 heq2
          · exact refjoin_none_d4 w a b A1 A2 A3 A4 _ _ _ _ c1 c2 c3 c4 rfl rfl rfl rfl hs1 hs2 hpa hpb h3 h2 h4 hle2 heq2
        · exact refjoin_none_d3 w a b A1 A2 A3 A4 _ _ _ _ c1 c2 c3 c4 rfl rfl rfl rfl hs1 hs2 hpa hpb h3 h2 h4 hle2
      · exact refjoin_none_d2 w a b A1 A2 A3 A4 _ _ _ _ c1 c2 c3 c4 rfl rfl rfl rfl hs1 hs2 hpa hpb h3 h2 h4
    · exact refjoin_none_d1 w a b A1 A2 A3 A4 _ _ _ _ c1 c2 c3 c4 rfl rfl rfl rfl hs1 hs2 hpa hpb h3 h2
end Go.Proofs.Ytjgjbdpknfplkaa
