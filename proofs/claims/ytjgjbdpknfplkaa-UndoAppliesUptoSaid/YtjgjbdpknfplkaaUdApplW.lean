/-
  A line behind an edit, the edit's inverse, two edits in one: the law holds.
-/
import Derived.Test.YtjgjbdpknfplkaaUdRefApply
import Derived.Test.YtjgjbdpknfplkaaUdInvW
import Derived.Test.YtjgjbdpknfplkaaUdArg
namespace Go.Proofs.Ytjgjbdpknfplkaa
open Go.RowKit Go.Shelf Go.Lib
attribute [local go_sem] Oper.semAt_some

theorem refInv_is (w : World) (e : Ed) (dv iv : Value) (hd : Holds1 w dv (runeVals e.d)) (hi : Holds1 w iv (runeVals e.i)) (hdl : e.d.length ≤ 35184372088832) (hil : e.i.length ≤ 35184372088832) :
    Calls Try.prog 17 #[editV e.p dv iv] w fun x w' => ∃ A n c A' n' c', x = .returned (editV e.p (.slice A n c) (.slice A' n' c')) ∧ Holds1 w' (.slice A n c) (runeVals e.i) ∧ Holds1 w' (.slice A' n' c') (runeVals e.d) ∧ Below w.heap.size w w' := by
  refine (refInverse_any w e.p e.d e.i dv iv hd hi hdl hil).mono ?_
  rintro x w' ⟨u1, u2, rfl, h1, h2, h3⟩
  obtain ⟨A, n, c, rfl⟩ := h1.form3
  obtain ⟨A', n', c', rfl⟩ := h2.form3
  exact ⟨A, n, c, A', n', c', rfl, h1.holds, h2.holds, h3⟩
theorem refApply_is (w : World) (l : List Int) (e : Ed) (lv dv iv : Value) (hl : Holds1 w lv (runeVals l)) (hd : Holds1 w dv (runeVals e.d)) (hi : Holds1 w iv (runeVals e.i)) (hll : l.length ≤ 35184372088832) (hdl : e.d.length ≤ 35184372088832) (hil : e.i.length ≤ 35184372088832) {k : Int} {r : List Int} (hk : apErr l e = k) (hr : apRes l e = r) :
    Calls Try.prog 10 #[lv, editV e.p dv iv] w fun x w' => ∃ A n c, x = .returned (.tuple #[.slice A n c, .int .i64 k]) ∧ Holds1 w' (.slice A n c) (runeVals r) ∧ Below w.heap.size w w' := by
  refine (refApply_any w l e lv dv iv hl hd hi hll hdl hil).mono ?_
  rintro x w' ⟨A, n, c, rfl, h1, h2⟩
  rw [hr] at h1
  rw [hk]
  exact ⟨A, n, c, rfl, h1.holds, h2⟩
theorem refJoin_is (w : World) (a b : Ed) (v1 v2 v3 v4 : Value) (k1 : Holds1 w v1 (runeVals a.d)) (k2 : Holds1 w v2 (runeVals a.i)) (k3 : Holds1 w v3 (runeVals b.d)) (k4 : Holds1 w v4 (runeVals b.i)) (hs1 : a.d.length + b.d.length ≤ 35184372088832) (hs2 : a.i.length + b.i.length ≤ 35184372088832) (hpa : -9223372036854775808 ≤ a.p ∧ a.p ≤ 9223372036854775807) (hpb : -9223372036854775808 ≤ b.p ∧ b.p ≤ 9223372036854775807) {z : Ed} {t : Bool} (hz : joinE a b = z) (ht : joinB a b = t) :
    Calls Try.prog 12 #[editV a.p v1 v2, editV b.p v3 v4] w fun x w' => ∃ A n c A' n' c', x = .returned (.tuple #[editV z.p (.slice A n c) (.slice A' n' c'), .bool t]) ∧ Holds1 w' (.slice A n c) (runeVals z.d) ∧ Holds1 w' (.slice A' n' c') (runeVals z.i) ∧ Below w.heap.size w w' := by
  subst hz ht
  refine (refJoin_any w a b v1 v2 v3 v4 k1 k2 k3 k4 hs1 hs2 hpa hpb).mono ?_
  rintro x w' ⟨A, n, c, A', n', c', rfl, h1, h2, h3⟩
  exact ⟨A, n, c, A', n', c', rfl, h1.holds, h2.holds, h3⟩
theorem nine_of {W : World} {r s t : Nat} {a b c d e f g h i : Value} (h1 : EBox W r #[a, b, c]) (h2 : EBox W s #[d, e, f]) (h3 : EBox W t #[g, h, i]) : W.cell? ⟨r, 0, none⟩ = some a ∧ W.cell? ⟨r, 1, none⟩ = some b ∧ W.cell? ⟨r, 2, none⟩ = some c ∧ W.cell? ⟨s, 0, none⟩ = some d ∧ W.cell? ⟨s, 1, none⟩ = some e ∧ W.cell? ⟨s, 2, none⟩ = some f ∧ W.cell? ⟨t, 0, none⟩ = some g ∧ W.cell? ⟨t, 1, none⟩ = some h ∧ W.cell? ⟨t, 2, none⟩ = some i :=
  ⟨h1.cell 0, h1.cell 1, h1.cell 2, h2.cell 0, h2.cell 1, h2.cell 2, h3.cell 0, h3.cell 1, h3.cell 2⟩
set_option maxRecDepth 1000000 in
set_option maxHeartbeats 8000000 in
theorem appl_walk (w : World) (l : List Int) (a b z : Ed) (k : Int) (jb : Bool) (r : List Int) (Al A1 A2 A3 A4 : Option Addr) (nl cl n1 n2 n3 n4 c1 c2 c3 c4 : Nat) (hl : Holds1 w (.slice Al nl cl) (runeVals l)) (h1 : Holds1 w (.slice A1 n1 c1) (runeVals a.d)) (h2 : Holds1 w (.slice A2 n2 c2) (runeVals a.i)) (h3 : Holds1 w (.slice A3 n3 c3) (runeVals b.d)) (h4 : Holds1 w (.slice A4 n4 c4) (runeVals b.i))
    (hs : l.length ≤ 35184372088832 ∧ a.d.length + b.d.length ≤ 35184372088832 ∧ a.i.length + b.i.length ≤ 35184372088832) (hpa : -9223372036854775808 ≤ a.p ∧ a.p ≤ 9223372036854775807) (hpb : -9223372036854775808 ≤ b.p ∧ b.p ≤ 9223372036854775807) (hk : apErr l a = k) (hr : apRes l a = r) (hz : joinE a b = z) (hjb : joinB a b = jb) (hrl : r.length ≤ 1024) (hzl : z.d.length ≤ 35184372088832 ∧ z.i.length ≤ 35184372088832) :
    Calls Try.prog 3 #[.slice Al nl cl, editV a.p (.slice A1 n1 c1) (.slice A2 n2 c2), editV b.p (.slice A3 n3 c3) (.slice A4 n4 c4)] w fun e w' => e = .returned (.bool true) ∧ Below w.heap.size w w' := by
  obtain ⟨w1, hw1⟩ : ∃ w1, w1 = (w.alloc (.cells #[.int .i64 a.p, .slice A1 n1 c1, .slice A2 n2 c2] 24)).alloc (.cells #[.int .i64 b.p, .slice A3 n3 c3, .slice A4 n4 c4] 24) := ⟨_, rfl⟩
  have b0 : Below w.heap.size w (w.alloc (.cells #[.int .i64 a.p, .slice A1 n1 c1, .slice A2 n2 c2] 24)) := (Below.refl _ _).alloc (Nat.le_refl _) _
  have b1' : Below (w.alloc (.cells #[.int .i64 a.p, .slice A1 n1 c1, .slice A2 n2 c2] 24)).heap.size (w.alloc (.cells #[.int .i64 a.p, .slice A1 n1 c1, .slice A2 n2 c2] 24)) w1 := by rw [hw1]; exact (Below.refl _ _).alloc (Nat.le_refl _) _
  have b1 : Below w.heap.size w w1 := b0.trans (b1'.mono b0.size)
  have EA : Hid (EBox w1 w.heap.size #[.int .i64 a.p, .slice A1 n1 c1, .slice A2 n2 c2]) := Lib.hid (EBox.below (alloc_new _ _) b1')
  have EB : Hid (EBox w1 (w.heap.size + 1) #[.int .i64 b.p, .slice A3 n3 c3, .slice A4 n4 c4]) := Lib.hid (by
    have := alloc_new (w.alloc (.cells #[.int .i64 a.p, .slice A1 n1 c1, .slice A2 n2 c2] 24)) (.cells #[.int .i64 b.p, .slice A3 n3 c3, .slice A4 n4 c4] 24)
    rw [← hw1] at this
    rw [show (w.alloc (.cells #[.int .i64 a.p, .slice A1 n1 c1, .slice A2 n2 c2] 24)).heap.size = w.heap.size + 1 by simp] at this
    exact this)
  have HW1 := Lib.hid hw1
  have B := Lib.hid b1
  have L := Lib.hid (hl.below b1)
  have D1 := Lib.hid (h1.below b1)
  have I1 := Lib.hid (h2.below b1)
  have D2 := Lib.hid (h3.below b1)
  have I2 := Lib.hid (h4.below b1)
  have HS := Lib.hid hs
  have HPA := Lib.hid hpa
  have HPB := Lib.hid hpb
  have HK := Lib.hid (And.intro hk hr)
  have HJ := Lib.hid (And.intro hz hjb)
  have HL := Lib.hid (And.intro hrl hzl)
  have a0 := EA.out.cell 0
  have a1 := EA.out.cell 1
  have a2 := EA.out.cell 2
  clear b0 b1' b1 hw1 hl h1 h2 h3 h4 hs hpa hpb hk hr hz hjb hrl hzl
  go_enter Try.func3, Try.ntmps3
  go_wp2_with fail
  rw [← HW1.out]
  go_wp2_with (first
    | (go_at_call 9; refine (apply_is _ l a _ _ _ L.out D1.out I1.out (by have := HS.out; omega) (by have := HS.out; omega) (by have := HS.out; omega) HK.out.1 HK.out.2).mono ?_; rintro e w2 ⟨A5, n5, c5, rfl, hr, hb⟩; have RX := Lib.hid hr; have L := Lib.hid (L.out.below hb); have D1 := Lib.hid (D1.out.below hb); have I1 := Lib.hid (I1.out.below hb); have D2 := Lib.hid (D2.out.below hb); have I2 := Lib.hid (I2.out.below hb); have EA := Lib.hid (EA.out.below hb); have EB := Lib.hid (EB.out.below hb); have B := Lib.hid (B.out.trans (hb.mono B.out.size)); have a0 := EA.out.cell 0; have a1 := EA.out.cell 1; have a2 := EA.out.cell 2; clear hr hb)
    | (go_at_call 10; refine (refApply_is _ l a _ _ _ L.out D1.out I1.out (by have := HS.out; omega) (by have := HS.out; omega) (by have := HS.out; omega) HK.out.1 HK.out.2).mono ?_; rintro e w3 ⟨A6, n6, c6, rfl, hr, hb⟩; have RY := Lib.hid hr; have L := Lib.hid (L.out.below hb); have D1 := Lib.hid (D1.out.below hb); have I1 := Lib.hid (I1.out.below hb); have D2 := Lib.hid (D2.out.below hb); have I2 := Lib.hid (I2.out.below hb); have EA := Lib.hid (EA.out.below hb); have EB := Lib.hid (EB.out.below hb); have RX := Lib.hid (RX.out.below hb); have B := Lib.hid (B.out.trans (hb.mono B.out.size)); have a0 := EA.out.cell 0; have a1 := EA.out.cell 1; have a2 := EA.out.cell 2; have b0 := EB.out.cell 0; have b1 := EB.out.cell 1; have b2 := EB.out.cell 2; clear hr hb)
    | (go_at_call 11; refine (join_is _ a b _ _ _ _ D1.out I1.out D2.out I2.out HS.out.2.1 HS.out.2.2 HPA.out HPB.out HJ.out.1 HJ.out.2).mono ?_; rintro e w4 ⟨A7, n7, c7, A8, n8, c8, rfl, hr, hr2, hb⟩; have CD := Lib.hid hr; have CI := Lib.hid hr2; have L := Lib.hid (L.out.below hb); have D1 := Lib.hid (D1.out.below hb); have I1 := Lib.hid (I1.out.below hb); have D2 := Lib.hid (D2.out.below hb); have I2 := Lib.hid (I2.out.below hb); have EA := Lib.hid (EA.out.below hb); have EB := Lib.hid (EB.out.below hb); have RX := Lib.hid (RX.out.below hb); have RY := Lib.hid (RY.out.below hb); have B := Lib.hid (B.out.trans (hb.mono B.out.size)); have bz := bel_alloc (Below.refl w4.heap.size w4) (.cells #[.int .i64 z.p, .slice A7 n7 c7, .slice A8 n8 c8] 24); have L := Lib.hid (L.out.below bz); have D1 := Lib.hid (D1.out.below bz); have I1 := Lib.hid (I1.out.below bz); have D2 := Lib.hid (D2.out.below bz); have I2 := Lib.hid (I2.out.below bz); have EA := Lib.hid (EA.out.below bz); have EB := Lib.hid (EB.out.below bz); have RX := Lib.hid (RX.out.below bz); have RY := Lib.hid (RY.out.below bz); have CD := Lib.hid (CD.out.below bz); have CI := Lib.hid (CI.out.below bz); have B := Lib.hid (B.out.trans (bz.mono B.out.size)); have EC : Hid (EBox (w4.alloc (.cells #[.int .i64 z.p, .slice A7 n7 c7, .slice A8 n8 c8] 24)) w4.heap.size #[.int .i64 z.p, .slice A7 n7 c7, .slice A8 n8 c8]) := Lib.hid (alloc_new _ _); have a0 := EA.out.cell 0; have a1 := EA.out.cell 1; have a2 := EA.out.cell 2; have b0 := EB.out.cell 0; have b1 := EB.out.cell 1; have b2 := EB.out.cell 2; clear hr hr2 hb bz)
    | (go_at_call 12; refine (refJoin_is _ a b _ _ _ _ D1.out I1.out D2.out I2.out HS.out.2.1 HS.out.2.2 HPA.out HPB.out HJ.out.1 HJ.out.2).mono ?_; rintro e w5 ⟨A9, n9, c9, A10, n10, c10, rfl, hr, hr2, hb⟩; have DD := Lib.hid hr; have DI := Lib.hid hr2; have L := Lib.hid (L.out.below hb); have D1 := Lib.hid (D1.out.below hb); have I1 := Lib.hid (I1.out.below hb); have D2 := Lib.hid (D2.out.below hb); have I2 := Lib.hid (I2.out.below hb); have EA := Lib.hid (EA.out.below hb); have EB := Lib.hid (EB.out.below hb); have RX := Lib.hid (RX.out.below hb); have RY := Lib.hid (RY.out.below hb); have CD := Lib.hid (CD.out.below hb); have CI := Lib.hid (CI.out.below hb); have EC := Lib.hid (EC.out.below hb); have B := Lib.hid (B.out.trans (hb.mono B.out.size)); have bz := bel_alloc (Below.refl w5.heap.size w5) (.cells #[.int .i64 z.p, .slice A9 n9 c9, .slice A10 n10 c10] 24); have L := Lib.hid (L.out.below bz); have D1 := Lib.hid (D1.out.below bz); have I1 := Lib.hid (I1.out.below bz); have D2 := Lib.hid (D2.out.below bz); have I2 := Lib.hid (I2.out.below bz); have EA := Lib.hid (EA.out.below bz); have EB := Lib.hid (EB.out.below bz); have RX := Lib.hid (RX.out.below bz); have RY := Lib.hid (RY.out.below bz); have CD := Lib.hid (CD.out.below bz); have CI := Lib.hid (CI.out.below bz); have EC := Lib.hid (EC.out.below bz); have DD := Lib.hid (DD.out.below bz); have DI := Lib.hid (DI.out.below bz); have B := Lib.hid (B.out.trans (bz.mono B.out.size)); have EE : Hid (EBox (w5.alloc (.cells #[.int .i64 z.p, .slice A9 n9 c9, .slice A10 n10 c10] 24)) w5.heap.size #[.int .i64 z.p, .slice A9 n9 c9, .slice A10 n10 c10]) := Lib.hid (alloc_new _ _); clear hr hr2 hb bz))
  generalize hw6 : w5.alloc (.cells #[.int .i64 z.p, .slice A9 n9 c9, .slice A10 n10 c10] 24) = w6 at *
  have bd : Below w6.heap.size w6 w6.drew := (Below.refl _ _).drew
  have L := Lib.hid (L.out.below bd)
  have D1 := Lib.hid (D1.out.below bd)
  have I1 := Lib.hid (I1.out.below bd)
  have EA := Lib.hid (EA.out.below bd)
  have RX := Lib.hid (RX.out.below bd)
  have RY := Lib.hid (RY.out.below bd)
  have CD := Lib.hid (CD.out.below bd)
  have CI := Lib.hid (CI.out.below bd)
  have EC := Lib.hid (EC.out.below bd)
  have DD := Lib.hid (DD.out.below bd)
  have DI := Lib.hid (DI.out.below bd)
  have EE := Lib.hid (EE.out.below bd)
  have B := Lib.hid (B.out.trans (bd.mono B.out.size))
  have hT0 : w6.drew.cell? ⟨w.heap.size, 0, none⟩ = some (.int .i64 a.p) ∧ w6.drew.cell? ⟨w.heap.size, 1, none⟩ = some (.slice A1 n1 c1) ∧ w6.drew.cell? ⟨w.heap.size, 2, none⟩ = some (.slice A2 n2 c2) ∧ w6.drew.cell? ⟨w4.heap.size, 0, none⟩ = some (.int .i64 z.p) ∧ w6.drew.cell? ⟨w4.heap.size, 1, none⟩ = some (.slice A7 n7 c7) ∧ w6.drew.cell? ⟨w4.heap.size, 2, none⟩ = some (.slice A8 n8 c8) ∧ w6.drew.cell? ⟨w5.heap.size, 0, none⟩ = some (.int .i64 z.p) ∧ w6.drew.cell? ⟨w5.heap.size, 1, none⟩ = some (.slice A9 n9 c9) ∧ w6.drew.cell? ⟨w5.heap.size, 2, none⟩ = some (.slice A10 n10 c10) := nine_of EA.out EC.out EE.out
  have kk : (k == k) = true := by simp
  have jj : (jb == jb) = true := by simp
  clear hw6
  have tok1 : True := trivial
  go_region_held3 (fun W => W.cell? ⟨w.heap.size, 0, none⟩ = some (.int .i64 a.p) ∧ W.cell? ⟨w.heap.size, 1, none⟩ = some (.slice A1 n1 c1) ∧ W.cell? ⟨w.heap.size, 2, none⟩ = some (.slice A2 n2 c2) ∧ W.cell? ⟨w4.heap.size, 0, none⟩ = some (.int .i64 z.p) ∧ W.cell? ⟨w4.heap.size, 1, none⟩ = some (.slice A7 n7 c7) ∧ W.cell? ⟨w4.heap.size, 2, none⟩ = some (.slice A8 n8 c8) ∧ W.cell? ⟨w5.heap.size, 0, none⟩ = some (.int .i64 z.p) ∧ W.cell? ⟨w5.heap.size, 1, none⟩ = some (.slice A9 n9 c9) ∧ W.cell? ⟨w5.heap.size, 2, none⟩ = some (.slice A10 n10 c10)) (first | with_reducible exact hT6 | with_reducible exact hT5 | with_reducible exact hT4 | with_reducible exact hT3 | with_reducible exact hT2 | with_reducible exact hT1 | with_reducible exact hT0 | fail) (first
    | (go_at_call 13; have tk := tok1; clear tok1 tk; have tok2 : True := trivial; refine (begun_any _).mono ?_; rintro e w11 ⟨rfl, hb⟩; have L := Lib.hid (L.out.below hb); have D1 := Lib.hid (D1.out.below hb); have I1 := Lib.hid (I1.out.below hb); have EA := Lib.hid (EA.out.below hb); have RX := Lib.hid (RX.out.below hb); have RY := Lib.hid (RY.out.below hb); have CD := Lib.hid (CD.out.below hb); have CI := Lib.hid (CI.out.below hb); have EC := Lib.hid (EC.out.below hb); have DD := Lib.hid (DD.out.below hb); have DI := Lib.hid (DI.out.below hb); have EE := Lib.hid (EE.out.below hb); have B := Lib.hid (B.out.trans (hb.mono B.out.size)); have hT1 : w11.cell? ⟨w.heap.size, 0, none⟩ = some (.int .i64 a.p) ∧ w11.cell? ⟨w.heap.size, 1, none⟩ = some (.slice A1 n1 c1) ∧ w11.cell? ⟨w.heap.size, 2, none⟩ = some (.slice A2 n2 c2) ∧ w11.cell? ⟨w4.heap.size, 0, none⟩ = some (.int .i64 z.p) ∧ w11.cell? ⟨w4.heap.size, 1, none⟩ = some (.slice A7 n7 c7) ∧ w11.cell? ⟨w4.heap.size, 2, none⟩ = some (.slice A8 n8 c8) ∧ w11.cell? ⟨w5.heap.size, 0, none⟩ = some (.int .i64 z.p) ∧ w11.cell? ⟨w5.heap.size, 1, none⟩ = some (.slice A9 n9 c9) ∧ w11.cell? ⟨w5.heap.size, 2, none⟩ = some (.slice A10 n10 c10) := nine_of EA.out EC.out EE.out; clear hb)
    | (go_at_call 14; have tk := tok2; clear tok2 tk; have tok3 : True := trivial; refine (samer_is _ r _ _ RX.out RY.out (by have := HL.out.1; omega)).mono ?_; rintro e w12 ⟨rfl, hb⟩; have L := Lib.hid (L.out.below hb); have D1 := Lib.hid (D1.out.below hb); have I1 := Lib.hid (I1.out.below hb); have EA := Lib.hid (EA.out.below hb); have RX := Lib.hid (RX.out.below hb); have RY := Lib.hid (RY.out.below hb); have CD := Lib.hid (CD.out.below hb); have CI := Lib.hid (CI.out.below hb); have EC := Lib.hid (EC.out.below hb); have DD := Lib.hid (DD.out.below hb); have DI := Lib.hid (DI.out.below hb); have EE := Lib.hid (EE.out.below hb); have B := Lib.hid (B.out.trans (hb.mono B.out.size)); have hT2 : w12.cell? ⟨w.heap.size, 0, none⟩ = some (.int .i64 a.p) ∧ w12.cell? ⟨w.heap.size, 1, none⟩ = some (.slice A1 n1 c1) ∧ w12.cell? ⟨w.heap.size, 2, none⟩ = some (.slice A2 n2 c2) ∧ w12.cell? ⟨w4.heap.size, 0, none⟩ = some (.int .i64 z.p) ∧ w12.cell? ⟨w4.heap.size, 1, none⟩ = some (.slice A7 n7 c7) ∧ w12.cell? ⟨w4.heap.size, 2, none⟩ = some (.slice A8 n8 c8) ∧ w12.cell? ⟨w5.heap.size, 0, none⟩ = some (.int .i64 z.p) ∧ w12.cell? ⟨w5.heap.size, 1, none⟩ = some (.slice A9 n9 c9) ∧ w12.cell? ⟨w5.heap.size, 2, none⟩ = some (.slice A10 n10 c10) := nine_of EA.out EC.out EE.out; clear hb)
    | (go_at_call 16; have tk := tok3; clear tok3 tk; have tok4 : True := trivial; refine (inv_is _ a _ _ D1.out I1.out (by have := HS.out; omega) (by have := HS.out; omega)).mono ?_; rintro e w13 ⟨A11, n11, c11, A12, n12, c12, rfl, hr, hr2, hb⟩; have U1 := Lib.hid hr; have U2 := Lib.hid hr2; have L := Lib.hid (L.out.below hb); have D1 := Lib.hid (D1.out.below hb); have I1 := Lib.hid (I1.out.below hb); have EA := Lib.hid (EA.out.below hb); have RX := Lib.hid (RX.out.below hb); have RY := Lib.hid (RY.out.below hb); have CD := Lib.hid (CD.out.below hb); have CI := Lib.hid (CI.out.below hb); have EC := Lib.hid (EC.out.below hb); have DD := Lib.hid (DD.out.below hb); have DI := Lib.hid (DI.out.below hb); have EE := Lib.hid (EE.out.below hb); have B := Lib.hid (B.out.trans (hb.mono B.out.size)); have hT3 : w13.cell? ⟨w.heap.size, 0, none⟩ = some (.int .i64 a.p) ∧ w13.cell? ⟨w.heap.size, 1, none⟩ = some (.slice A1 n1 c1) ∧ w13.cell? ⟨w.heap.size, 2, none⟩ = some (.slice A2 n2 c2) ∧ w13.cell? ⟨w4.heap.size, 0, none⟩ = some (.int .i64 z.p) ∧ w13.cell? ⟨w4.heap.size, 1, none⟩ = some (.slice A7 n7 c7) ∧ w13.cell? ⟨w4.heap.size, 2, none⟩ = some (.slice A8 n8 c8) ∧ w13.cell? ⟨w5.heap.size, 0, none⟩ = some (.int .i64 z.p) ∧ w13.cell? ⟨w5.heap.size, 1, none⟩ = some (.slice A9 n9 c9) ∧ w13.cell? ⟨w5.heap.size, 2, none⟩ = some (.slice A10 n10 c10) := nine_of EA.out EC.out EE.out; clear hr hr2 hb)
    | (go_at_call 17; have tk := tok4; clear tok4 tk; have tok5 : True := trivial; refine (refInv_is _ a _ _ D1.out I1.out (by have := HS.out; omega) (by have := HS.out; omega)).mono ?_; rintro e w14 ⟨A13, n13, c13, A14, n14, c14, rfl, hr, hr2, hb⟩; have V1 := Lib.hid hr; have V2 := Lib.hid hr2; have L := Lib.hid (L.out.below hb); have D1 := Lib.hid (D1.out.below hb); have I1 := Lib.hid (I1.out.below hb); have EA := Lib.hid (EA.out.below hb); have RX := Lib.hid (RX.out.below hb); have RY := Lib.hid (RY.out.below hb); have CD := Lib.hid (CD.out.below hb); have CI := Lib.hid (CI.out.below hb); have EC := Lib.hid (EC.out.below hb); have DD := Lib.hid (DD.out.below hb); have DI := Lib.hid (DI.out.below hb); have EE := Lib.hid (EE.out.below hb); have U1 := Lib.hid (U1.out.below hb); have U2 := Lib.hid (U2.out.below hb); have B := Lib.hid (B.out.trans (hb.mono B.out.size)); have hT4 : w14.cell? ⟨w.heap.size, 0, none⟩ = some (.int .i64 a.p) ∧ w14.cell? ⟨w.heap.size, 1, none⟩ = some (.slice A1 n1 c1) ∧ w14.cell? ⟨w.heap.size, 2, none⟩ = some (.slice A2 n2 c2) ∧ w14.cell? ⟨w4.heap.size, 0, none⟩ = some (.int .i64 z.p) ∧ w14.cell? ⟨w4.heap.size, 1, none⟩ = some (.slice A7 n7 c7) ∧ w14.cell? ⟨w4.heap.size, 2, none⟩ = some (.slice A8 n8 c8) ∧ w14.cell? ⟨w5.heap.size, 0, none⟩ = some (.int .i64 z.p) ∧ w14.cell? ⟨w5.heap.size, 1, none⟩ = some (.slice A9 n9 c9) ∧ w14.cell? ⟨w5.heap.size, 2, none⟩ = some (.slice A10 n10 c10) := nine_of EA.out EC.out EE.out; clear hr hr2 hb)
    | (go_at_call 15; have tk := tok5; clear tok5 tk; have tok6 : True := trivial; refine (same_is _ a.inv _ _ _ _ U1.out U2.out V1.out V2.out (by have := HS.out; show a.i.length ≤ _; omega) (by have := HS.out; show a.d.length ≤ _; omega)).mono ?_; rintro e w15 ⟨rfl, hb⟩; have L := Lib.hid (L.out.below hb); have D1 := Lib.hid (D1.out.below hb); have I1 := Lib.hid (I1.out.below hb); have EA := Lib.hid (EA.out.below hb); have RX := Lib.hid (RX.out.below hb); have RY := Lib.hid (RY.out.below hb); have CD := Lib.hid (CD.out.below hb); have CI := Lib.hid (CI.out.below hb); have EC := Lib.hid (EC.out.below hb); have DD := Lib.hid (DD.out.below hb); have DI := Lib.hid (DI.out.below hb); have EE := Lib.hid (EE.out.below hb); have B := Lib.hid (B.out.trans (hb.mono B.out.size)); have hT5 : w15.cell? ⟨w.heap.size, 0, none⟩ = some (.int .i64 a.p) ∧ w15.cell? ⟨w.heap.size, 1, none⟩ = some (.slice A1 n1 c1) ∧ w15.cell? ⟨w.heap.size, 2, none⟩ = some (.slice A2 n2 c2) ∧ w15.cell? ⟨w4.heap.size, 0, none⟩ = some (.int .i64 z.p) ∧ w15.cell? ⟨w4.heap.size, 1, none⟩ = some (.slice A7 n7 c7) ∧ w15.cell? ⟨w4.heap.size, 2, none⟩ = some (.slice A8 n8 c8) ∧ w15.cell? ⟨w5.heap.size, 0, none⟩ = some (.int .i64 z.p) ∧ w15.cell? ⟨w5.heap.size, 1, none⟩ = some (.slice A9 n9 c9) ∧ w15.cell? ⟨w5.heap.size, 2, none⟩ = some (.slice A10 n10 c10) := nine_of EA.out EC.out EE.out; clear hb)
    | (go_at_call 15; have tk := tok6; clear tok6 tk; have tok7 : True := trivial; refine (same_is _ z _ _ _ _ CD.out CI.out DD.out DI.out HL.out.2.1 HL.out.2.2).mono ?_; rintro e w16 ⟨rfl, hb⟩; have L := Lib.hid (L.out.below hb); have D1 := Lib.hid (D1.out.below hb); have I1 := Lib.hid (I1.out.below hb); have EA := Lib.hid (EA.out.below hb); have RX := Lib.hid (RX.out.below hb); have RY := Lib.hid (RY.out.below hb); have CD := Lib.hid (CD.out.below hb); have CI := Lib.hid (CI.out.below hb); have EC := Lib.hid (EC.out.below hb); have DD := Lib.hid (DD.out.below hb); have DI := Lib.hid (DI.out.below hb); have EE := Lib.hid (EE.out.below hb); have B := Lib.hid (B.out.trans (hb.mono B.out.size)); have hT6 : w16.cell? ⟨w.heap.size, 0, none⟩ = some (.int .i64 a.p) ∧ w16.cell? ⟨w.heap.size, 1, none⟩ = some (.slice A1 n1 c1) ∧ w16.cell? ⟨w.heap.size, 2, none⟩ = some (.slice A2 n2 c2) ∧ w16.cell? ⟨w4.heap.size, 0, none⟩ = some (.int .i64 z.p) ∧ w16.cell? ⟨w4.heap.size, 1, none⟩ = some (.slice A7 n7 c7) ∧ w16.cell? ⟨w4.heap.size, 2, none⟩ = some (.slice A8 n8 c8) ∧ w16.cell? ⟨w5.heap.size, 0, none⟩ = some (.int .i64 z.p) ∧ w16.cell? ⟨w5.heap.size, 1, none⟩ = some (.slice A9 n9 c9) ∧ w16.cell? ⟨w5.heap.size, 2, none⟩ = some (.slice A10 n10 c10) := nine_of EA.out EC.out EE.out; clear hb))
  all_goals
    go_wp2
    go_ret
    exact ⟨rfl, B.out⟩
theorem applies_any (w : World) (l : List Int) (lv : Value) (hl : Holds1 w lv (runeVals l)) (hll : l.length ≤ 1048576) (a b : EdB) (ha : EdBOk w a) (hb : EdBOk w b) (hal : a.d.length + a.i.length ≤ 1048576) (hbl : b.d.length + b.i.length ≤ 1048576) :
    Calls Try.prog 3 #[lv, a.val, b.val] w fun e w' => e = .returned (.bool true) ∧ Below w.heap.size w w' := by
  obtain ⟨Al, cl, rfl, _⟩ := id hl
  obtain ⟨⟨A1, c1, e1⟩, ⟨A2, c2, e2⟩⟩ := ha.forms
  obtain ⟨⟨A3, c3, e3⟩, ⟨A4, c4, e4⟩⟩ := hb.forms
  have h1 := ha.d
  have h2 := ha.i
  have h3 := hb.d
  have h4 := hb.i
  rw [e1] at h1
  rw [e2] at h2
  rw [e3] at h3
  rw [e4] at h4
  show Calls Try.prog 3 #[_, .agg #[.int .i64 a.p, a.dv, a.iv], .agg #[.int .i64 b.p, b.dv, b.iv]] w _
  rw [e1, e2, e3, e4]
  refine appl_walk w l a.ed b.ed _ _ _ _ Al A1 A2 A3 A4 _ cl _ _ _ _ c1 c2 c3 c4 hl h1 h2 h3 h4 ⟨by omega, ?_, ?_⟩ ha.p0 hb.p0 rfl rfl rfl rfl ?_ ?_
  · show a.d.length + b.d.length ≤ _
    omega
  · show a.i.length + b.i.length ≤ _
    omega
  · by_cases h : apErr l a.ed = 0
    · rw [(apErr_zero h).2.2.2]
      exact (apErr_zero h).2.2.1
    · unfold apRes
      rw [if_neg h]
      simp
  · unfold joinE
    split
    · exact ⟨by show a.d.length ≤ _; omega, by show (a.i ++ b.i).length ≤ _; rw [List.length_append]; omega⟩
    · split
      · exact ⟨by show (b.d ++ a.d).length ≤ _; rw [List.length_append]; omega, by show ([] : List Int).length ≤ _; simp⟩
      · exact ⟨by show ([] : List Int).length ≤ _; simp, by show ([] : List Int).length ≤ _; simp⟩
end Go.Proofs.Ytjgjbdpknfplkaa
