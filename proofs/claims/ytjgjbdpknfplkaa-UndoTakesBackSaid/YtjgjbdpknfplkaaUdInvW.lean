/-
  An edit and its inverse, two edits joined: the law holds.
-/
import Derived.Test.YtjgjbdpknfplkaaUdInvP
import Derived.Test.YtjgjbdpknfplkaaUdBegun
namespace Go.Proofs.Ytjgjbdpknfplkaa
open Go.RowKit Go.Shelf Go.Lib
attribute [local go_sem] Oper.semAt_some

theorem apply_is (w : World) (l : List Int) (e : Ed) (lv dv iv : Value) (hl : Holds1 w lv (runeVals l)) (hd : Holds1 w dv (runeVals e.d)) (hi : Holds1 w iv (runeVals e.i)) (hll : l.length ≤ 35184372088832) (hdl : e.d.length ≤ 35184372088832) (hil : e.i.length ≤ 35184372088832) {k : Int} {r : List Int} (hk : apErr l e = k) (hr : apRes l e = r) :
    Calls Try.prog 9 #[lv, editV e.p dv iv] w fun x w' => ∃ A n c, x = .returned (.tuple #[.slice A n c, .int .i64 k]) ∧ Holds1 w' (.slice A n c) (runeVals r) ∧ Below w.heap.size w w' := by
  refine (apply_any w l e lv dv iv hl hd hi hll hdl hil).mono ?_
  rintro x w' ⟨A, n, c, rfl, h1, h2⟩
  rw [hr] at h1
  rw [hk]
  exact ⟨A, n, c, rfl, h1.holds, h2⟩
theorem inv_is (w : World) (e : Ed) (dv iv : Value) (hd : Holds1 w dv (runeVals e.d)) (hi : Holds1 w iv (runeVals e.i)) (hdl : e.d.length ≤ 35184372088832) (hil : e.i.length ≤ 35184372088832) :
    Calls Try.prog 16 #[editV e.p dv iv] w fun x w' => ∃ A n c A' n' c', x = .returned (editV e.p (.slice A n c) (.slice A' n' c')) ∧ Holds1 w' (.slice A n c) (runeVals e.i) ∧ Holds1 w' (.slice A' n' c') (runeVals e.d) ∧ Below w.heap.size w w' := by
  refine (inverse_any w e.p e.d e.i dv iv hd hi hdl hil).mono ?_
  rintro x w' ⟨u1, u2, rfl, h1, h2, h3⟩
  obtain ⟨A, n, c, rfl⟩ := h1.form3
  obtain ⟨A', n', c', rfl⟩ := h2.form3
  exact ⟨A, n, c, A', n', c', rfl, h1.holds, h2.holds, h3⟩
theorem step_is (w : World) (l : List Int) (s : StepP) (lv iv : Value) (hl : Holds1 w lv (runeVals l)) (hi : Holds1 w iv (runeVals s.ins)) (hn : l.length ≤ 35184372088832) {e : Ed} (he : e = stepEd l s) :
    Calls Try.prog 41 #[.agg #[.int .i64 s.at', .int .i64 s.many, iv, .bool s.beg, .bool s.en], lv] w fun x w' => ∃ A n c, x = .returned (editV e.p (.slice A n c) iv) ∧ Holds1 w' (.slice A n c) (runeVals e.d) ∧ Below w.heap.size w w' := by
  subst he
  refine (step_any w l s lv iv hl hi hn).mono ?_
  rintro x w' ⟨A, n, c, rfl, h1, h2⟩
  exact ⟨A, n, c, rfl, h1.holds, h2⟩
theorem samer_is (w : World) (l : List Int) (lv rv : Value) (hl : Holds1 w lv (runeVals l)) (hr : Holds1 w rv (runeVals l)) (hn : l.length ≤ 35184372088832) :
    Calls Try.prog 14 #[lv, rv] w fun x w' => x = .returned (.bool true) ∧ Below w.heap.size w w' := by
  refine (same_any w l l lv rv hl hr (by omega)).mono ?_
  rintro x w' ⟨rfl, h⟩
  exact ⟨by rw [decide_eq_true rfl], h⟩
theorem same_is (w : World) (e : Ed) (v1 v2 u1 u2 : Value) (h1 : Holds1 w v1 (runeVals e.d)) (h2 : Holds1 w v2 (runeVals e.i)) (k1 : Holds1 w u1 (runeVals e.d)) (k2 : Holds1 w u2 (runeVals e.i)) (hx : e.d.length ≤ 35184372088832) (hy : e.i.length ≤ 35184372088832) :
    Calls Try.prog 15 #[editV e.p v1 v2, editV e.p u1 u2] w fun x w' => x = .returned (.bool true) ∧ Below w.heap.size w w' := by
  refine (refSame_any w e e v1 v2 u1 u2 h1 h2 k1 k2 (by omega) (by omega)).mono ?_
  rintro x w' ⟨rfl, h⟩
  exact ⟨by rw [decide_eq_true rfl], h⟩
theorem join_is (w : World) (a b : Ed) (v1 v2 v3 v4 : Value) (k1 : Holds1 w v1 (runeVals a.d)) (k2 : Holds1 w v2 (runeVals a.i)) (k3 : Holds1 w v3 (runeVals b.d)) (k4 : Holds1 w v4 (runeVals b.i)) (hs1 : a.d.length + b.d.length ≤ 35184372088832) (hs2 : a.i.length + b.i.length ≤ 35184372088832) (hpa : -9223372036854775808 ≤ a.p ∧ a.p ≤ 9223372036854775807) (hpb : -9223372036854775808 ≤ b.p ∧ b.p ≤ 9223372036854775807) {z : Ed} {t : Bool} (hz : joinE a b = z) (ht : joinB a b = t) :
    Calls Try.prog 11 #[editV a.p v1 v2, editV b.p v3 v4] w fun x w' => ∃ A n c A' n' c', x = .returned (.tuple #[editV z.p (.slice A n c) (.slice A' n' c'), .bool t]) ∧ Holds1 w' (.slice A n c) (runeVals z.d) ∧ Holds1 w' (.slice A' n' c') (runeVals z.i) ∧ Below w.heap.size w w' := by
  subst hz ht
  refine (join_any w a b v1 v2 v3 v4 k1 k2 k3 k4 hs1 hs2 hpa hpb).mono ?_
  rintro x w' ⟨A, n, c, A', n', c', rfl, h1, h2, h3⟩
  exact ⟨A, n, c, A', n', c', rfl, h1.holds, h2.holds, h3⟩
/-- what is known of the edits, plainly -/
structure InvF (l : List Int) (a : StepP) (x : Ed) : Prop where
  eq : x = stepEd l a
  l : l.length ≤ 35184372087808
  d : x.d.length ≤ 35184372087808
  i : x.i.length ≤ 35184372087808
  p : -9223372036854775808 ≤ x.p ∧ x.p ≤ 9223372036854775807
theorem InvF.of {l : List Int} {a : StepP} (hl : l.length ≤ 35184372087808) (hi : a.ins.length ≤ 35184372087808) : InvF l a (stepEd l a) := by
  refine ⟨rfl, hl, ?_, hi, ?_⟩
  · show ((l.drop _).take _).length ≤ _
    rw [List.length_take, List.length_drop]
    omega
  · have := stepAt_le l.length a.at'
    show _ ∧ ((stepAt l.length a.at' : Nat) : Int) ≤ _
    constructor
    · show _ ≤ ((stepAt l.length a.at' : Nat) : Int)
      omega
    · omega
set_option maxRecDepth 1000000 in
set_option maxHeartbeats 8000000 in
theorem inv_long (w : World) (l : List Int) (a b : StepP) (x : Ed) (Al Aa Ab : Option Addr) (cl na ca nb cb : Nat) (hl : Holds1 w (.slice Al l.length cl) (runeVals l)) (hia : Holds1 w (.slice Aa na ca) (runeVals a.ins)) (hib : Holds1 w (.slice Ab nb cb) (runeVals b.ins)) (hF : InvF l a x) (hxi : x.i = a.ins) (h1 : apErr l x = 3) :
    Calls Try.prog 6 #[.slice Al l.length cl, .agg #[.int .i64 a.at', .int .i64 a.many, .slice Aa na ca, .bool a.beg, .bool a.en], .agg #[.int .i64 b.at', .int .i64 b.many, .slice Ab nb cb, .bool b.beg, .bool b.en]] w fun e w' => e = .returned (.bool true) ∧ Below w.heap.size w w' := by
  obtain ⟨w1, hw1⟩ : ∃ w1, w1 = (w.alloc (.cells #[.int .i64 a.at', .int .i64 a.many, .slice Aa na ca, .bool a.beg, .bool a.en] 59)).alloc (.cells #[.int .i64 b.at', .int .i64 b.many, .slice Ab nb cb, .bool b.beg, .bool b.en] 59) := ⟨_, rfl⟩
  have b0 : Below w.heap.size w (w.alloc (.cells #[.int .i64 a.at', .int .i64 a.many, .slice Aa na ca, .bool a.beg, .bool a.en] 59)) := (Below.refl _ _).alloc (Nat.le_refl _) _
  have b1' : Below (w.alloc (.cells #[.int .i64 a.at', .int .i64 a.many, .slice Aa na ca, .bool a.beg, .bool a.en] 59)).heap.size (w.alloc (.cells #[.int .i64 a.at', .int .i64 a.many, .slice Aa na ca, .bool a.beg, .bool a.en] 59)) w1 := by rw [hw1]; exact (Below.refl _ _).alloc (Nat.le_refl _) _
  have b1 : Below w.heap.size w w1 := b0.trans (b1'.mono b0.size)
  have SA : Hid (SBox w1 w.heap.size #[.int .i64 a.at', .int .i64 a.many, .slice Aa na ca, .bool a.beg, .bool a.en]) := Lib.hid (SBox.below (alloc_new _ _) b1')
  have SB : Hid (SBox w1 (w.heap.size + 1) #[.int .i64 b.at', .int .i64 b.many, .slice Ab nb cb, .bool b.beg, .bool b.en]) := Lib.hid (by
    have := alloc_new (w.alloc (.cells #[.int .i64 a.at', .int .i64 a.many, .slice Aa na ca, .bool a.beg, .bool a.en] 59)) (.cells #[.int .i64 b.at', .int .i64 b.many, .slice Ab nb cb, .bool b.beg, .bool b.en] 59)
    rw [← hw1] at this
    rw [show (w.alloc (.cells #[.int .i64 a.at', .int .i64 a.many, .slice Aa na ca, .bool a.beg, .bool a.en] 59)).heap.size = w.heap.size + 1 by simp] at this
    exact this)
  have HW1 := Lib.hid hw1
  have B := Lib.hid b1
  have L := Lib.hid (hl.below b1)
  have IA := Lib.hid (hia.below b1)
  have IB := Lib.hid (hib.below b1)
  have HF := Lib.hid hF
  have HXI := Lib.hid hxi.symm
  have tok1 : True := trivial
  have HE1 : Hid (apErr l x = 3 ∧ apRes l x = []) := Lib.hid ⟨h1, by unfold apRes; rw [if_neg (by rw [h1]; decide)]⟩
  clear b0 b1' b1 hw1 hl hia hib hF hxi h1
  generalize hn : l.length = n at *
  clear hn
  go_enter Try.func6, Try.ntmps6
  go_wp2_with fail
  rw [← HW1.out]
  go_wp2_with (first
    | (go_at_call 13; refine (begun_any _).mono ?_; rintro e w2 ⟨rfl, hb⟩; have L := Lib.hid (L.out.below hb); have IA := Lib.hid (IA.out.below hb); have IB := Lib.hid (IB.out.below hb); have SA := Lib.hid (SA.out.below hb); have SB := Lib.hid (SB.out.below hb); have B := Lib.hid (B.out.trans (hb.mono B.out.size)); have sa0 := SA.out.cell 0; have sa1 := SA.out.cell 1; have sa2 := SA.out.cell 2; have sa3 := SA.out.cell 3; have sa4 := SA.out.cell 4; clear hb)
    | (go_at_call 41; have tk := tok1; clear tok1 tk; have tok2 : True := trivial; refine (step_is _ l a _ _ L.out IA.out (by have := HF.out.l; omega) HF.out.eq).mono ?_; rintro e w3 ⟨A3, n3, c3, rfl, hr, hb⟩; have XD := Lib.hid hr; have L := Lib.hid (L.out.below hb); have IA := Lib.hid (IA.out.below hb); have IB := Lib.hid (IB.out.below hb); have SA := Lib.hid (SA.out.below hb); have SB := Lib.hid (SB.out.below hb); have B := Lib.hid (B.out.trans (hb.mono B.out.size)); have ba := bel_alloc (Below.refl w3.heap.size w3) (.cells #[.int .i64 x.p, .slice A3 n3 c3, .slice Aa na ca] 24); have L := Lib.hid (L.out.below ba); have IA := Lib.hid (IA.out.below ba); have IB := Lib.hid (IB.out.below ba); have SA := Lib.hid (SA.out.below ba); have SB := Lib.hid (SB.out.below ba); have XD := Lib.hid (XD.out.below ba); have B := Lib.hid (B.out.trans (ba.mono B.out.size)); have X : Hid (EBox (w3.alloc (.cells #[.int .i64 x.p, .slice A3 n3 c3, .slice Aa na ca] 24)) w3.heap.size #[.int .i64 x.p, .slice A3 n3 c3, .slice Aa na ca]) := Lib.hid (alloc_new _ _); have x0 := X.out.cell 0; have x1 := X.out.cell 1; have x2 := X.out.cell 2; clear hr hb ba)
    | (go_at_call 9; have tk := tok2; clear tok2 tk; have tok3 : True := trivial; refine (apply_is _ l x _ _ _ L.out XD.out (HXI.out ▸ IA.out) (by have := HF.out.l; omega) (by have := HF.out.d; omega) (by have := HF.out.i; omega) HE1.out.1 HE1.out.2).mono ?_; rintro e w4 ⟨A4, n4, c4, rfl, hr, hb⟩; have ONE := Lib.hid hr; have L := Lib.hid (L.out.below hb); have IA := Lib.hid (IA.out.below hb); have IB := Lib.hid (IB.out.below hb); have SA := Lib.hid (SA.out.below hb); have SB := Lib.hid (SB.out.below hb); have XD := Lib.hid (XD.out.below hb); have X := Lib.hid (X.out.below hb); have B := Lib.hid (B.out.trans (hb.mono B.out.size)); have x0 := X.out.cell 0; have x1 := X.out.cell 1; have x2 := X.out.cell 2; clear hr hb))
  go_ret
  exact ⟨rfl, B.out⟩
set_option maxRecDepth 1000000 in
set_option maxHeartbeats 8000000 in
theorem inv_s3 (w : World) (l : List Int) (a b : StepP) (x y : Ed) (Al Aa Ab : Option Addr) (cl na ca nb cb : Nat) (hl : Holds1 w (.slice Al l.length cl) (runeVals l)) (hia : Holds1 w (.slice Aa na ca) (runeVals a.ins)) (hib : Holds1 w (.slice Ab nb cb) (runeVals b.ins)) (hF : InvF l a x) (hxi : x.i = a.ins) (h1 : apErr l x = 0) (hF2 : InvF (apLine l x) b y) (hyi : y.i = b.ins) (hsm : l.length ≤ 1024) (h2 : apErr (apLine l x) y = 3) :
    Calls Try.prog 6 #[.slice Al l.length cl, .agg #[.int .i64 a.at', .int .i64 a.many, .slice Aa na ca, .bool a.beg, .bool a.en], .agg #[.int .i64 b.at', .int .i64 b.many, .slice Ab nb cb, .bool b.beg, .bool b.en]] w fun e w' => e = .returned (.bool true) ∧ Below w.heap.size w w' := by
  obtain ⟨w1, hw1⟩ : ∃ w1, w1 = (w.alloc (.cells #[.int .i64 a.at', .int .i64 a.many, .slice Aa na ca, .bool a.beg, .bool a.en] 59)).alloc (.cells #[.int .i64 b.at', .int .i64 b.many, .slice Ab nb cb, .bool b.beg, .bool b.en] 59) := ⟨_, rfl⟩
  have b0 : Below w.heap.size w (w.alloc (.cells #[.int .i64 a.at', .int .i64 a.many, .slice Aa na ca, .bool a.beg, .bool a.en] 59)) := (Below.refl _ _).alloc (Nat.le_refl _) _
  have b1' : Below (w.alloc (.cells #[.int .i64 a.at', .int .i64 a.many, .slice Aa na ca, .bool a.beg, .bool a.en] 59)).heap.size (w.alloc (.cells #[.int .i64 a.at', .int .i64 a.many, .slice Aa na ca, .bool a.beg, .bool a.en] 59)) w1 := by rw [hw1]; exact (Below.refl _ _).alloc (Nat.le_refl _) _
  have b1 : Below w.heap.size w w1 := b0.trans (b1'.mono b0.size)
  have SA : Hid (SBox w1 w.heap.size #[.int .i64 a.at', .int .i64 a.many, .slice Aa na ca, .bool a.beg, .bool a.en]) := Lib.hid (SBox.below (alloc_new _ _) b1')
  have SB : Hid (SBox w1 (w.heap.size + 1) #[.int .i64 b.at', .int .i64 b.many, .slice Ab nb cb, .bool b.beg, .bool b.en]) := Lib.hid (by
    have := alloc_new (w.alloc (.cells #[.int .i64 a.at', .int .i64 a.many, .slice Aa na ca, .bool a.beg, .bool a.en] 59)) (.cells #[.int .i64 b.at', .int .i64 b.many, .slice Ab nb cb, .bool b.beg, .bool b.en] 59)
    rw [← hw1] at this
    rw [show (w.alloc (.cells #[.int .i64 a.at', .int .i64 a.many, .slice Aa na ca, .bool a.beg, .bool a.en] 59)).heap.size = w.heap.size + 1 by simp] at this
    exact this)
  have HW1 := Lib.hid hw1
  have B := Lib.hid b1
  have L := Lib.hid (hl.below b1)
  have IA := Lib.hid (hia.below b1)
  have IB := Lib.hid (hib.below b1)
  have HF := Lib.hid hF
  have HXI := Lib.hid hxi.symm
  have tok1 : True := trivial
  obtain ⟨z, hz⟩ : ∃ z, z = joinE x y := ⟨_, rfl⟩
  obtain ⟨hz1, hz2, hz3, hz4⟩ := apErr_zero h1
  have HG := Lib.hid hF2
  have HYI := Lib.hid hyi.symm
  have HE1 : Hid (apErr l x = 0 ∧ apRes l x = apLine l x) := Lib.hid ⟨h1, hz4⟩
  have HBK := Lib.hid (inv_back h1 hsm)
  have i1 : ((l.length : Int) ≤ 1024) = True := eq_true (by omega)
  have i2 : (l.length ≤ 1024) = True := eq_true hsm
  have hxil : x.i.length ≤ 1024 := by
    obtain ⟨k, _, hk2, _⟩ := stands_nat hz1
    omega
  have hyd : y.d.length ≤ 1024 := by
    obtain ⟨k, _, hk2, _⟩ := stands_nat (l := apLine l x) (e := y) (by rw [hF2.eq]; exact stands_step _ _)
    omega
  have HJS : Hid (x.d.length + y.d.length ≤ 35184372088832 ∧ x.i.length + y.i.length ≤ 35184372088832) := Lib.hid ⟨by have := hF.d; omega, by have := hF2.i; omega⟩
  have HE2 : Hid (apErr (apLine l x) y = 3 ∧ apRes (apLine l x) y = []) := Lib.hid ⟨h2, by unfold apRes; rw [if_neg (by rw [h2]; decide)]⟩
  obtain ⟨jb, hjb⟩ : ∃ jb, jb = joinB x y := ⟨_, rfl⟩
  have HJ : Hid (joinE x y = z ∧ joinB x y = jb) := Lib.hid ⟨hz.symm, hjb.symm⟩
  clear hjb
  have HONE : Hid ((apLine l x).length ≤ 1024 ∧ True) := Lib.hid ⟨hz3, trivial⟩
  clear b0 b1' b1 hw1 hl hia hib hF hxi h1 hF2 hyi hsm h2 hz1 hz2 hz3 hz4 hz hxil hyd
  generalize apLine l x = one at *
  generalize hn : l.length = n at *
  clear hn
  go_enter Try.func6, Try.ntmps6
  go_wp2_with fail
  rw [← HW1.out]
  go_wp2_with (first
    | (go_at_call 13; refine (begun_any _).mono ?_; rintro e w2 ⟨rfl, hb⟩; have L := Lib.hid (L.out.below hb); have IA := Lib.hid (IA.out.below hb); have IB := Lib.hid (IB.out.below hb); have SA := Lib.hid (SA.out.below hb); have SB := Lib.hid (SB.out.below hb); have B := Lib.hid (B.out.trans (hb.mono B.out.size)); have sa0 := SA.out.cell 0; have sa1 := SA.out.cell 1; have sa2 := SA.out.cell 2; have sa3 := SA.out.cell 3; have sa4 := SA.out.cell 4; clear hb)
    | (go_at_call 41; have tk := tok1; clear tok1 tk; have tok2 : True := trivial; refine (step_is _ l a _ _ L.out IA.out (by have := HF.out.l; omega) HF.out.eq).mono ?_; rintro e w3 ⟨A3, n3, c3, rfl, hr, hb⟩; have XD := Lib.hid hr; have L := Lib.hid (L.out.below hb); have IA := Lib.hid (IA.out.below hb); have IB := Lib.hid (IB.out.below hb); have SA := Lib.hid (SA.out.below hb); have SB := Lib.hid (SB.out.below hb); have B := Lib.hid (B.out.trans (hb.mono B.out.size)); have ba := bel_alloc (Below.refl w3.heap.size w3) (.cells #[.int .i64 x.p, .slice A3 n3 c3, .slice Aa na ca] 24); have L := Lib.hid (L.out.below ba); have IA := Lib.hid (IA.out.below ba); have IB := Lib.hid (IB.out.below ba); have SA := Lib.hid (SA.out.below ba); have SB := Lib.hid (SB.out.below ba); have XD := Lib.hid (XD.out.below ba); have B := Lib.hid (B.out.trans (ba.mono B.out.size)); have X : Hid (EBox (w3.alloc (.cells #[.int .i64 x.p, .slice A3 n3 c3, .slice Aa na ca] 24)) w3.heap.size #[.int .i64 x.p, .slice A3 n3 c3, .slice Aa na ca]) := Lib.hid (alloc_new _ _); have x0 := X.out.cell 0; have x1 := X.out.cell 1; have x2 := X.out.cell 2; clear hr hb ba)
    | (go_at_call 9; have tk := tok2; clear tok2 tk; have tok3 : True := trivial; refine (apply_is _ l x _ _ _ L.out XD.out (HXI.out ▸ IA.out) (by have := HF.out.l; omega) (by have := HF.out.d; omega) (by have := HF.out.i; omega) HE1.out.1 HE1.out.2).mono ?_; rintro e w4 ⟨A4, n4, c4, rfl, hr, hb⟩; have ONE := Lib.hid hr; have L := Lib.hid (L.out.below hb); have IA := Lib.hid (IA.out.below hb); have IB := Lib.hid (IB.out.below hb); have SA := Lib.hid (SA.out.below hb); have SB := Lib.hid (SB.out.below hb); have XD := Lib.hid (XD.out.below hb); have X := Lib.hid (X.out.below hb); have B := Lib.hid (B.out.trans (hb.mono B.out.size)); have x0 := X.out.cell 0; have x1 := X.out.cell 1; have x2 := X.out.cell 2; clear hr hb)
    | (go_at_call 16; have tk := tok3; clear tok3 tk; have tok4 : True := trivial; refine (inv_is _ x _ _ XD.out (HXI.out ▸ IA.out) (by have := HF.out.d; omega) (by have := HF.out.i; omega)).mono ?_; rintro e w5 ⟨A5, n5, c5, A6, n6, c6, rfl, hr, hr2, hb⟩; have V1 := Lib.hid hr; have V2 := Lib.hid hr2; have L := Lib.hid (L.out.below hb); have IA := Lib.hid (IA.out.below hb); have IB := Lib.hid (IB.out.below hb); have SA := Lib.hid (SA.out.below hb); have SB := Lib.hid (SB.out.below hb); have XD := Lib.hid (XD.out.below hb); have X := Lib.hid (X.out.below hb); have ONE := Lib.hid (ONE.out.below hb); have B := Lib.hid (B.out.trans (hb.mono B.out.size)); have x0 := X.out.cell 0; have x1 := X.out.cell 1; have x2 := X.out.cell 2; clear hr hr2 hb)
    | (go_at_call 9; have tk := tok4; clear tok4 tk; have tok5 : True := trivial; refine (apply_is _ one x.inv _ _ _ ONE.out V1.out V2.out (by have := HONE.out.1; omega) (by have := HF.out.i; show x.i.length ≤ _; omega) (by have := HF.out.d; show x.d.length ≤ _; omega) HBK.out.1 HBK.out.2).mono ?_; rintro e w6 ⟨A7, n7, c7, rfl, hr, hb⟩; have BK := Lib.hid hr; have L := Lib.hid (L.out.below hb); have IA := Lib.hid (IA.out.below hb); have IB := Lib.hid (IB.out.below hb); have SA := Lib.hid (SA.out.below hb); have SB := Lib.hid (SB.out.below hb); have XD := Lib.hid (XD.out.below hb); have X := Lib.hid (X.out.below hb); have ONE := Lib.hid (ONE.out.below hb); have B := Lib.hid (B.out.trans (hb.mono B.out.size)); have x0 := X.out.cell 0; have x1 := X.out.cell 1; have x2 := X.out.cell 2; clear hr hb)
    | (go_at_call 14; have tk := tok5; clear tok5 tk; have tok6 : True := trivial; refine (samer_is _ l _ _ BK.out L.out (by have := HF.out.l; omega)).mono ?_; rintro e w7 ⟨rfl, hb⟩; have L := Lib.hid (L.out.below hb); have IA := Lib.hid (IA.out.below hb); have IB := Lib.hid (IB.out.below hb); have SA := Lib.hid (SA.out.below hb); have SB := Lib.hid (SB.out.below hb); have XD := Lib.hid (XD.out.below hb); have X := Lib.hid (X.out.below hb); have ONE := Lib.hid (ONE.out.below hb); have B := Lib.hid (B.out.trans (hb.mono B.out.size)); have x0 := X.out.cell 0; have x1 := X.out.cell 1; have x2 := X.out.cell 2; clear hb))
  have bd : Below w7.heap.size w7 w7.drew := (Below.refl _ _).drew
  have L := Lib.hid (L.out.below bd)
  have IA := Lib.hid (IA.out.below bd)
  have IB := Lib.hid (IB.out.below bd)
  have SA := Lib.hid (SA.out.below bd)
  have SB := Lib.hid (SB.out.below bd)
  have XD := Lib.hid (XD.out.below bd)
  have X := Lib.hid (X.out.below bd)
  have ONE := Lib.hid (ONE.out.below bd)
  have B := Lib.hid (B.out.trans (bd.mono B.out.size))
  have hT0 : w7.drew.cell? ⟨w3.heap.size, 0, none⟩ = some (.int .i64 x.p) ∧ w7.drew.cell? ⟨w3.heap.size, 1, none⟩ = some (.slice A3 n3 c3) ∧ w7.drew.cell? ⟨w3.heap.size, 2, none⟩ = some (.slice Aa na ca) := ⟨X.out.cell 0, X.out.cell 1, X.out.cell 2⟩
  go_region_held3 (fun W => W.cell? ⟨w3.heap.size, 0, none⟩ = some (.int .i64 x.p) ∧ W.cell? ⟨w3.heap.size, 1, none⟩ = some (.slice A3 n3 c3) ∧ W.cell? ⟨w3.heap.size, 2, none⟩ = some (.slice Aa na ca)) (first | with_reducible exact hT3 | with_reducible exact hT2 | with_reducible exact hT1 | with_reducible exact hT0 | fail) (first
    | (go_at_call 16; have tk := tok6; clear tok6 tk; have tok7 : True := trivial; refine (inv_is _ x _ _ XD.out (HXI.out ▸ IA.out) (by have := HF.out.d; omega) (by have := HF.out.i; omega)).mono ?_; rintro e w8 ⟨A8, n8, c8, A9, n9, c9, rfl, hr, hr2, hb⟩; have U1 := Lib.hid hr; have U2 := Lib.hid hr2; have L := Lib.hid (L.out.below hb); have IA := Lib.hid (IA.out.below hb); have IB := Lib.hid (IB.out.below hb); have SA := Lib.hid (SA.out.below hb); have SB := Lib.hid (SB.out.below hb); have XD := Lib.hid (XD.out.below hb); have X := Lib.hid (X.out.below hb); have ONE := Lib.hid (ONE.out.below hb); have B := Lib.hid (B.out.trans (hb.mono B.out.size)); have hT1 : w8.cell? ⟨w3.heap.size, 0, none⟩ = some (.int .i64 x.p) ∧ w8.cell? ⟨w3.heap.size, 1, none⟩ = some (.slice A3 n3 c3) ∧ w8.cell? ⟨w3.heap.size, 2, none⟩ = some (.slice Aa na ca) := ⟨X.out.cell 0, X.out.cell 1, X.out.cell 2⟩; clear hr hr2 hb)
    | (go_at_call 16; have tk := tok7; clear tok7 tk; have tok8 : True := trivial; refine (inv_is _ x.inv _ _ U1.out U2.out (by have := HF.out.i; show x.i.length ≤ _; omega) (by have := HF.out.d; show x.d.length ≤ _; omega)).mono ?_; rintro e w9 ⟨A16, n16, c16, A17, n17, c17, rfl, hr, hr2, hb⟩; have T1 := Lib.hid hr; have T2 := Lib.hid hr2; have L := Lib.hid (L.out.below hb); have IA := Lib.hid (IA.out.below hb); have IB := Lib.hid (IB.out.below hb); have SA := Lib.hid (SA.out.below hb); have SB := Lib.hid (SB.out.below hb); have XD := Lib.hid (XD.out.below hb); have X := Lib.hid (X.out.below hb); have ONE := Lib.hid (ONE.out.below hb); have B := Lib.hid (B.out.trans (hb.mono B.out.size)); have hT2 : w9.cell? ⟨w3.heap.size, 0, none⟩ = some (.int .i64 x.p) ∧ w9.cell? ⟨w3.heap.size, 1, none⟩ = some (.slice A3 n3 c3) ∧ w9.cell? ⟨w3.heap.size, 2, none⟩ = some (.slice Aa na ca) := ⟨X.out.cell 0, X.out.cell 1, X.out.cell 2⟩; clear hr hr2 hb)
    | (go_at_call 15; have tk := tok8; clear tok8 tk; have tok9 : True := trivial; refine (same_is _ x _ _ _ _ T1.out T2.out XD.out (HXI.out ▸ IA.out) (by have := HF.out.d; omega) (by have := HF.out.i; omega)).mono ?_; rintro e w10 ⟨rfl, hb⟩; have L := Lib.hid (L.out.below hb); have IA := Lib.hid (IA.out.below hb); have IB := Lib.hid (IB.out.below hb); have SA := Lib.hid (SA.out.below hb); have SB := Lib.hid (SB.out.below hb); have XD := Lib.hid (XD.out.below hb); have X := Lib.hid (X.out.below hb); have ONE := Lib.hid (ONE.out.below hb); have B := Lib.hid (B.out.trans (hb.mono B.out.size)); have hT3 : w10.cell? ⟨w3.heap.size, 0, none⟩ = some (.int .i64 x.p) ∧ w10.cell? ⟨w3.heap.size, 1, none⟩ = some (.slice A3 n3 c3) ∧ w10.cell? ⟨w3.heap.size, 2, none⟩ = some (.slice Aa na ca) := ⟨X.out.cell 0, X.out.cell 1, X.out.cell 2⟩; have sb0 := SB.out.cell 0; have sb1 := SB.out.cell 1; have sb2 := SB.out.cell 2; have sb3 := SB.out.cell 3; have sb4 := SB.out.cell 4; clear hb))
  all_goals
    go_wp2_with (first
      | (go_at_call 41; have tk := tok9; clear tok9 tk; have tok10 : True := trivial; refine (step_is _ one b _ _ ONE.out IB.out (by have := HONE.out.1; omega) HG.out.eq).mono ?_; rintro e w11 ⟨A11, n11, c11, rfl, hr, hb⟩; have YD := Lib.hid hr; have L := Lib.hid (L.out.below hb); have IA := Lib.hid (IA.out.below hb); have IB := Lib.hid (IB.out.below hb); have SA := Lib.hid (SA.out.below hb); have SB := Lib.hid (SB.out.below hb); have XD := Lib.hid (XD.out.below hb); have X := Lib.hid (X.out.below hb); have ONE := Lib.hid (ONE.out.below hb); have B := Lib.hid (B.out.trans (hb.mono B.out.size)); have ba := bel_alloc (Below.refl w11.heap.size w11) (.cells #[.int .i64 y.p, .slice A11 n11 c11, .slice Ab nb cb] 24); have L := Lib.hid (L.out.below ba); have IA := Lib.hid (IA.out.below ba); have IB := Lib.hid (IB.out.below ba); have SA := Lib.hid (SA.out.below ba); have SB := Lib.hid (SB.out.below ba); have XD := Lib.hid (XD.out.below ba); have X := Lib.hid (X.out.below ba); have ONE := Lib.hid (ONE.out.below ba); have YD := Lib.hid (YD.out.below ba); have B := Lib.hid (B.out.trans (ba.mono B.out.size)); have Y : Hid (EBox (w11.alloc (.cells #[.int .i64 y.p, .slice A11 n11 c11, .slice Ab nb cb] 24)) w11.heap.size #[.int .i64 y.p, .slice A11 n11 c11, .slice Ab nb cb]) := Lib.hid (alloc_new _ _); have y0 := Y.out.cell 0; have y1 := Y.out.cell 1; have y2 := Y.out.cell 2; have x0 := X.out.cell 0; have x1 := X.out.cell 1; have x2 := X.out.cell 2; clear hr hb ba)
      | (go_at_call 9; have tk := tok10; clear tok10 tk; have tok11 : True := trivial; refine (apply_is _ one y _ _ _ ONE.out YD.out (HYI.out ▸ IB.out) (by have := HONE.out.1; omega) (by have := HG.out.d; omega) (by have := HG.out.i; omega) HE2.out.1 HE2.out.2).mono ?_; rintro e w12 ⟨A12, n12, c12, rfl, hr, hb⟩; have TWO := Lib.hid hr; have L := Lib.hid (L.out.below hb); have IA := Lib.hid (IA.out.below hb); have IB := Lib.hid (IB.out.below hb); have SA := Lib.hid (SA.out.below hb); have SB := Lib.hid (SB.out.below hb); have XD := Lib.hid (XD.out.below hb); have X := Lib.hid (X.out.below hb); have ONE := Lib.hid (ONE.out.below hb); have YD := Lib.hid (YD.out.below hb); have Y := Lib.hid (Y.out.below hb); have B := Lib.hid (B.out.trans (hb.mono B.out.size)); have x0 := X.out.cell 0; have x1 := X.out.cell 1; have x2 := X.out.cell 2; have y0 := Y.out.cell 0; have y1 := Y.out.cell 1; have y2 := Y.out.cell 2; clear hr hb)
      | (go_at_call 11; have tk := tok11; clear tok11 tk; have tok12 : True := trivial; refine (join_is _ x y _ _ _ _ XD.out (HXI.out ▸ IA.out) YD.out (HYI.out ▸ IB.out) HJS.out.1 HJS.out.2 HF.out.p HG.out.p HJ.out.1 HJ.out.2).mono ?_; rintro e w13 ⟨A13, n13, c13, A14, n14, c14, rfl, hr, hr2, hb⟩; have ZD := Lib.hid hr; have ZI := Lib.hid hr2; have L := Lib.hid (L.out.below hb); have IA := Lib.hid (IA.out.below hb); have IB := Lib.hid (IB.out.below hb); have SA := Lib.hid (SA.out.below hb); have SB := Lib.hid (SB.out.below hb); have XD := Lib.hid (XD.out.below hb); have X := Lib.hid (X.out.below hb); have ONE := Lib.hid (ONE.out.below hb); have YD := Lib.hid (YD.out.below hb); have Y := Lib.hid (Y.out.below hb); have TWO := Lib.hid (TWO.out.below hb); have B := Lib.hid (B.out.trans (hb.mono B.out.size)); have bz := bel_alloc (Below.refl w13.heap.size w13) (.cells #[.int .i64 z.p, .slice A13 n13 c13, .slice A14 n14 c14] 24); have L := Lib.hid (L.out.below bz); have IA := Lib.hid (IA.out.below bz); have IB := Lib.hid (IB.out.below bz); have SA := Lib.hid (SA.out.below bz); have SB := Lib.hid (SB.out.below bz); have XD := Lib.hid (XD.out.below bz); have X := Lib.hid (X.out.below bz); have ONE := Lib.hid (ONE.out.below bz); have YD := Lib.hid (YD.out.below bz); have Y := Lib.hid (Y.out.below bz); have TWO := Lib.hid (TWO.out.below bz); have ZD := Lib.hid (ZD.out.below bz); have ZI := Lib.hid (ZI.out.below bz); have B := Lib.hid (B.out.trans (bz.mono B.out.size)); have Z : Hid (EBox (w13.alloc (.cells #[.int .i64 z.p, .slice A13 n13 c13, .slice A14 n14 c14] 24)) w13.heap.size #[.int .i64 z.p, .slice A13 n13 c13, .slice A14 n14 c14]) := Lib.hid (alloc_new _ _); have z0 := Z.out.cell 0; have z1 := Z.out.cell 1; have z2 := Z.out.cell 2; clear hr hr2 hb bz))
    go_ret
    exact ⟨rfl, B.out⟩
set_option maxRecDepth 1000000 in
set_option maxHeartbeats 8000000 in
theorem inv_sn (w : World) (l : List Int) (a b : StepP) (x y : Ed) (Al Aa Ab : Option Addr) (cl na ca nb cb : Nat) (hl : Holds1 w (.slice Al l.length cl) (runeVals l)) (hia : Holds1 w (.slice Aa na ca) (runeVals a.ins)) (hib : Holds1 w (.slice Ab nb cb) (runeVals b.ins)) (hF : InvF l a x) (hxi : x.i = a.ins) (h1 : apErr l x = 0) (hF2 : InvF (apLine l x) b y) (hyi : y.i = b.ins) (hsm : l.length ≤ 1024) (h2 : apErr (apLine l x) y = 0) (h3 : joinB x y = false) :
    Calls Try.prog 6 #[.slice Al l.length cl, .agg #[.int .i64 a.at', .int .i64 a.many, .slice Aa na ca, .bool a.beg, .bool a.en], .agg #[.int .i64 b.at', .int .i64 b.many, .slice Ab nb cb, .bool b.beg, .bool b.en]] w fun e w' => e = .returned (.bool true) ∧ Below w.heap.size w w' := by
  obtain ⟨w1, hw1⟩ : ∃ w1, w1 = (w.alloc (.cells #[.int .i64 a.at', .int .i64 a.many, .slice Aa na ca, .bool a.beg, .bool a.en] 59)).alloc (.cells #[.int .i64 b.at', .int .i64 b.many, .slice Ab nb cb, .bool b.beg, .bool b.en] 59) := ⟨_, rfl⟩
  have b0 : Below w.heap.size w (w.alloc (.cells #[.int .i64 a.at', .int .i64 a.many, .slice Aa na ca, .bool a.beg, .bool a.en] 59)) := (Below.refl _ _).alloc (Nat.le_refl _) _
  have b1' : Below (w.alloc (.cells #[.int .i64 a.at', .int .i64 a.many, .slice Aa na ca, .bool a.beg, .bool a.en] 59)).heap.size (w.alloc (.cells #[.int .i64 a.at', .int .i64 a.many, .slice Aa na ca, .bool a.beg, .bool a.en] 59)) w1 := by rw [hw1]; exact (Below.refl _ _).alloc (Nat.le_refl _) _
  have b1 : Below w.heap.size w w1 := b0.trans (b1'.mono b0.size)
  have SA : Hid (SBox w1 w.heap.size #[.int .i64 a.at', .int .i64 a.many, .slice Aa na ca, .bool a.beg, .bool a.en]) := Lib.hid (SBox.below (alloc_new _ _) b1')
  have SB : Hid (SBox w1 (w.heap.size + 1) #[.int .i64 b.at', .int .i64 b.many, .slice Ab nb cb, .bool b.beg, .bool b.en]) := Lib.hid (by
    have := alloc_new (w.alloc (.cells #[.int .i64 a.at', .int .i64 a.many, .slice Aa na ca, .bool a.beg, .bool a.en] 59)) (.cells #[.int .i64 b.at', .int .i64 b.many, .slice Ab nb cb, .bool b.beg, .bool b.en] 59)
    rw [← hw1] at this
    rw [show (w.alloc (.cells #[.int .i64 a.at', .int .i64 a.many, .slice Aa na ca, .bool a.beg, .bool a.en] 59)).heap.size = w.heap.size + 1 by simp] at this
    exact this)
  have HW1 := Lib.hid hw1
  have B := Lib.hid b1
  have L := Lib.hid (hl.below b1)
  have IA := Lib.hid (hia.below b1)
  have IB := Lib.hid (hib.below b1)
  have HF := Lib.hid hF
  have HXI := Lib.hid hxi.symm
  have tok1 : True := trivial
  obtain ⟨z, hz⟩ : ∃ z, z = joinE x y := ⟨_, rfl⟩
  obtain ⟨hz1, hz2, hz3, hz4⟩ := apErr_zero h1
  have HG := Lib.hid hF2
  have HYI := Lib.hid hyi.symm
  have HE1 : Hid (apErr l x = 0 ∧ apRes l x = apLine l x) := Lib.hid ⟨h1, hz4⟩
  have HBK := Lib.hid (inv_back h1 hsm)
  have i1 : ((l.length : Int) ≤ 1024) = True := eq_true (by omega)
  have i2 : (l.length ≤ 1024) = True := eq_true hsm
  have hxil : x.i.length ≤ 1024 := by
    obtain ⟨k, _, hk2, _⟩ := stands_nat hz1
    omega
  have hyd : y.d.length ≤ 1024 := by
    obtain ⟨k, _, hk2, _⟩ := stands_nat (l := apLine l x) (e := y) (by rw [hF2.eq]; exact stands_step _ _)
    omega
  have HJS : Hid (x.d.length + y.d.length ≤ 35184372088832 ∧ x.i.length + y.i.length ≤ 35184372088832) := Lib.hid ⟨by have := hF.d; omega, by have := hF2.i; omega⟩
  have HE2 : Hid (apErr (apLine l x) y = 0 ∧ apRes (apLine l x) y = apLine (apLine l x) y) := Lib.hid ⟨h2, (apErr_zero h2).2.2.2⟩
  have HJ : Hid (joinE x y = z ∧ joinB x y = false) := Lib.hid ⟨hz.symm, h3⟩
  have HONE : Hid ((apLine l x).length ≤ 1024 ∧ True) := Lib.hid ⟨hz3, trivial⟩
  clear b0 b1' b1 hw1 hl hia hib hF hxi h1 hF2 hyi hsm h2 hz1 hz2 hz3 hz4 hz hxil hyd h3
  generalize apLine (apLine l x) y = two at *
  generalize apLine l x = one at *
  generalize hn : l.length = n at *
  clear hn
  go_enter Try.func6, Try.ntmps6
  go_wp2_with fail
  rw [← HW1.out]
  go_wp2_with (first
    | (go_at_call 13; refine (begun_any _).mono ?_; rintro e w2 ⟨rfl, hb⟩; have L := Lib.hid (L.out.below hb); have IA := Lib.hid (IA.out.below hb); have IB := Lib.hid (IB.out.below hb); have SA := Lib.hid (SA.out.below hb); have SB := Lib.hid (SB.out.below hb); have B := Lib.hid (B.out.trans (hb.mono B.out.size)); have sa0 := SA.out.cell 0; have sa1 := SA.out.cell 1; have sa2 := SA.out.cell 2; have sa3 := SA.out.cell 3; have sa4 := SA.out.cell 4; clear hb)
    | (go_at_call 41; have tk := tok1; clear tok1 tk; have tok2 : True := trivial; refine (step_is _ l a _ _ L.out IA.out (by have := HF.out.l; omega) HF.out.eq).mono ?_; rintro e w3 ⟨A3, n3, c3, rfl, hr, hb⟩; have XD := Lib.hid hr; have L := Lib.hid (L.out.below hb); have IA := Lib.hid (IA.out.below hb); have IB := Lib.hid (IB.out.below hb); have SA := Lib.hid (SA.out.below hb); have SB := Lib.hid (SB.out.below hb); have B := Lib.hid (B.out.trans (hb.mono B.out.size)); have ba := bel_alloc (Below.refl w3.heap.size w3) (.cells #[.int .i64 x.p, .slice A3 n3 c3, .slice Aa na ca] 24); have L := Lib.hid (L.out.below ba); have IA := Lib.hid (IA.out.below ba); have IB := Lib.hid (IB.out.below ba); have SA := Lib.hid (SA.out.below ba); have SB := Lib.hid (SB.out.below ba); have XD := Lib.hid (XD.out.below ba); have B := Lib.hid (B.out.trans (ba.mono B.out.size)); have X : Hid (EBox (w3.alloc (.cells #[.int .i64 x.p, .slice A3 n3 c3, .slice Aa na ca] 24)) w3.heap.size #[.int .i64 x.p, .slice A3 n3 c3, .slice Aa na ca]) := Lib.hid (alloc_new _ _); have x0 := X.out.cell 0; have x1 := X.out.cell 1; have x2 := X.out.cell 2; clear hr hb ba)
    | (go_at_call 9; have tk := tok2; clear tok2 tk; have tok3 : True := trivial; refine (apply_is _ l x _ _ _ L.out XD.out (HXI.out ▸ IA.out) (by have := HF.out.l; omega) (by have := HF.out.d; omega) (by have := HF.out.i; omega) HE1.out.1 HE1.out.2).mono ?_; rintro e w4 ⟨A4, n4, c4, rfl, hr, hb⟩; have ONE := Lib.hid hr; have L := Lib.hid (L.out.below hb); have IA := Lib.hid (IA.out.below hb); have IB := Lib.hid (IB.out.below hb); have SA := Lib.hid (SA.out.below hb); have SB := Lib.hid (SB.out.below hb); have XD := Lib.hid (XD.out.below hb); have X := Lib.hid (X.out.below hb); have B := Lib.hid (B.out.trans (hb.mono B.out.size)); have x0 := X.out.cell 0; have x1 := X.out.cell 1; have x2 := X.out.cell 2; clear hr hb)
    | (go_at_call 16; have tk := tok3; clear tok3 tk; have tok4 : True := trivial; refine (inv_is _ x _ _ XD.out (HXI.out ▸ IA.out) (by have := HF.out.d; omega) (by have := HF.out.i; omega)).mono ?_; rintro e w5 ⟨A5, n5, c5, A6, n6, c6, rfl, hr, hr2, hb⟩; have V1 := Lib.hid hr; have V2 := Lib.hid hr2; have L := Lib.hid (L.out.below hb); have IA := Lib.hid (IA.out.below hb); have IB := Lib.hid (IB.out.below hb); have SA := Lib.hid (SA.out.below hb); have SB := Lib.hid (SB.out.below hb); have XD := Lib.hid (XD.out.below hb); have X := Lib.hid (X.out.below hb); have ONE := Lib.hid (ONE.out.below hb); have B := Lib.hid (B.out.trans (hb.mono B.out.size)); have x0 := X.out.cell 0; have x1 := X.out.cell 1; have x2 := X.out.cell 2; clear hr hr2 hb)
    | (go_at_call 9; have tk := tok4; clear tok4 tk; have tok5 : True := trivial; refine (apply_is _ one x.inv _ _ _ ONE.out V1.out V2.out (by have := HONE.out.1; omega) (by have := HF.out.i; show x.i.length ≤ _; omega) (by have := HF.out.d; show x.d.length ≤ _; omega) HBK.out.1 HBK.out.2).mono ?_; rintro e w6 ⟨A7, n7, c7, rfl, hr, hb⟩; have BK := Lib.hid hr; have L := Lib.hid (L.out.below hb); have IA := Lib.hid (IA.out.below hb); have IB := Lib.hid (IB.out.below hb); have SA := Lib.hid (SA.out.below hb); have SB := Lib.hid (SB.out.below hb); have XD := Lib.hid (XD.out.below hb); have X := Lib.hid (X.out.below hb); have ONE := Lib.hid (ONE.out.below hb); have B := Lib.hid (B.out.trans (hb.mono B.out.size)); have x0 := X.out.cell 0; have x1 := X.out.cell 1; have x2 := X.out.cell 2; clear hr hb)
    | (go_at_call 14; have tk := tok5; clear tok5 tk; have tok6 : True := trivial; refine (samer_is _ l _ _ BK.out L.out (by have := HF.out.l; omega)).mono ?_; rintro e w7 ⟨rfl, hb⟩; have L := Lib.hid (L.out.below hb); have IA := Lib.hid (IA.out.below hb); have IB := Lib.hid (IB.out.below hb); have SA := Lib.hid (SA.out.below hb); have SB := Lib.hid (SB.out.below hb); have XD := Lib.hid (XD.out.below hb); have X := Lib.hid (X.out.below hb); have ONE := Lib.hid (ONE.out.below hb); have B := Lib.hid (B.out.trans (hb.mono B.out.size)); have x0 := X.out.cell 0; have x1 := X.out.cell 1; have x2 := X.out.cell 2; clear hb))
  have bd : Below w7.heap.size w7 w7.drew := (Below.refl _ _).drew
  have L := Lib.hid (L.out.below bd)
  have IA := Lib.hid (IA.out.below bd)
  have IB := Lib.hid (IB.out.below bd)
  have SA := Lib.hid (SA.out.below bd)
  have SB := Lib.hid (SB.out.below bd)
  have XD := Lib.hid (XD.out.below bd)
  have X := Lib.hid (X.out.below bd)
  have ONE := Lib.hid (ONE.out.below bd)
  have B := Lib.hid (B.out.trans (bd.mono B.out.size))
  have hT0 : w7.drew.cell? ⟨w3.heap.size, 0, none⟩ = some (.int .i64 x.p) ∧ w7.drew.cell? ⟨w3.heap.size, 1, none⟩ = some (.slice A3 n3 c3) ∧ w7.drew.cell? ⟨w3.heap.size, 2, none⟩ = some (.slice Aa na ca) := ⟨X.out.cell 0, X.out.cell 1, X.out.cell 2⟩
  go_region_held3 (fun W => W.cell? ⟨w3.heap.size, 0, none⟩ = some (.int .i64 x.p) ∧ W.cell? ⟨w3.heap.size, 1, none⟩ = some (.slice A3 n3 c3) ∧ W.cell? ⟨w3.heap.size, 2, none⟩ = some (.slice Aa na ca)) (first | with_reducible exact hT3 | with_reducible exact hT2 | with_reducible exact hT1 | with_reducible exact hT0 | fail) (first
    | (go_at_call 16; have tk := tok6; clear tok6 tk; have tok7 : True := trivial; refine (inv_is _ x _ _ XD.out (HXI.out ▸ IA.out) (by have := HF.out.d; omega) (by have := HF.out.i; omega)).mono ?_; rintro e w8 ⟨A8, n8, c8, A9, n9, c9, rfl, hr, hr2, hb⟩; have U1 := Lib.hid hr; have U2 := Lib.hid hr2; have L := Lib.hid (L.out.below hb); have IA := Lib.hid (IA.out.below hb); have IB := Lib.hid (IB.out.below hb); have SA := Lib.hid (SA.out.below hb); have SB := Lib.hid (SB.out.below hb); have XD := Lib.hid (XD.out.below hb); have X := Lib.hid (X.out.below hb); have ONE := Lib.hid (ONE.out.below hb); have B := Lib.hid (B.out.trans (hb.mono B.out.size)); have hT1 : w8.cell? ⟨w3.heap.size, 0, none⟩ = some (.int .i64 x.p) ∧ w8.cell? ⟨w3.heap.size, 1, none⟩ = some (.slice A3 n3 c3) ∧ w8.cell? ⟨w3.heap.size, 2, none⟩ = some (.slice Aa na ca) := ⟨X.out.cell 0, X.out.cell 1, X.out.cell 2⟩; clear hr hr2 hb)
    | (go_at_call 16; have tk := tok7; clear tok7 tk; have tok8 : True := trivial; refine (inv_is _ x.inv _ _ U1.out U2.out (by have := HF.out.i; show x.i.length ≤ _; omega) (by have := HF.out.d; show x.d.length ≤ _; omega)).mono ?_; rintro e w9 ⟨A16, n16, c16, A17, n17, c17, rfl, hr, hr2, hb⟩; have T1 := Lib.hid hr; have T2 := Lib.hid hr2; have L := Lib.hid (L.out.below hb); have IA := Lib.hid (IA.out.below hb); have IB := Lib.hid (IB.out.below hb); have SA := Lib.hid (SA.out.below hb); have SB := Lib.hid (SB.out.below hb); have XD := Lib.hid (XD.out.below hb); have X := Lib.hid (X.out.below hb); have ONE := Lib.hid (ONE.out.below hb); have B := Lib.hid (B.out.trans (hb.mono B.out.size)); have hT2 : w9.cell? ⟨w3.heap.size, 0, none⟩ = some (.int .i64 x.p) ∧ w9.cell? ⟨w3.heap.size, 1, none⟩ = some (.slice A3 n3 c3) ∧ w9.cell? ⟨w3.heap.size, 2, none⟩ = some (.slice Aa na ca) := ⟨X.out.cell 0, X.out.cell 1, X.out.cell 2⟩; clear hr hr2 hb)
    | (go_at_call 15; have tk := tok8; clear tok8 tk; have tok9 : True := trivial; refine (same_is _ x _ _ _ _ T1.out T2.out XD.out (HXI.out ▸ IA.out) (by have := HF.out.d; omega) (by have := HF.out.i; omega)).mono ?_; rintro e w10 ⟨rfl, hb⟩; have L := Lib.hid (L.out.below hb); have IA := Lib.hid (IA.out.below hb); have IB := Lib.hid (IB.out.below hb); have SA := Lib.hid (SA.out.below hb); have SB := Lib.hid (SB.out.below hb); have XD := Lib.hid (XD.out.below hb); have X := Lib.hid (X.out.below hb); have ONE := Lib.hid (ONE.out.below hb); have B := Lib.hid (B.out.trans (hb.mono B.out.size)); have hT3 : w10.cell? ⟨w3.heap.size, 0, none⟩ = some (.int .i64 x.p) ∧ w10.cell? ⟨w3.heap.size, 1, none⟩ = some (.slice A3 n3 c3) ∧ w10.cell? ⟨w3.heap.size, 2, none⟩ = some (.slice Aa na ca) := ⟨X.out.cell 0, X.out.cell 1, X.out.cell 2⟩; have sb0 := SB.out.cell 0; have sb1 := SB.out.cell 1; have sb2 := SB.out.cell 2; have sb3 := SB.out.cell 3; have sb4 := SB.out.cell 4; clear hb))
  all_goals
    go_wp2_with (first
      | (go_at_call 41; have tk := tok9; clear tok9 tk; have tok10 : True := trivial; refine (step_is _ one b _ _ ONE.out IB.out (by have := HONE.out.1; omega) HG.out.eq).mono ?_; rintro e w11 ⟨A11, n11, c11, rfl, hr, hb⟩; have YD := Lib.hid hr; have L := Lib.hid (L.out.below hb); have IA := Lib.hid (IA.out.below hb); have IB := Lib.hid (IB.out.below hb); have SA := Lib.hid (SA.out.below hb); have SB := Lib.hid (SB.out.below hb); have XD := Lib.hid (XD.out.below hb); have X := Lib.hid (X.out.below hb); have ONE := Lib.hid (ONE.out.below hb); have B := Lib.hid (B.out.trans (hb.mono B.out.size)); have ba := bel_alloc (Below.refl w11.heap.size w11) (.cells #[.int .i64 y.p, .slice A11 n11 c11, .slice Ab nb cb] 24); have L := Lib.hid (L.out.below ba); have IA := Lib.hid (IA.out.below ba); have IB := Lib.hid (IB.out.below ba); have SA := Lib.hid (SA.out.below ba); have SB := Lib.hid (SB.out.below ba); have XD := Lib.hid (XD.out.below ba); have X := Lib.hid (X.out.below ba); have ONE := Lib.hid (ONE.out.below ba); have YD := Lib.hid (YD.out.below ba); have B := Lib.hid (B.out.trans (ba.mono B.out.size)); have Y : Hid (EBox (w11.alloc (.cells #[.int .i64 y.p, .slice A11 n11 c11, .slice Ab nb cb] 24)) w11.heap.size #[.int .i64 y.p, .slice A11 n11 c11, .slice Ab nb cb]) := Lib.hid (alloc_new _ _); have y0 := Y.out.cell 0; have y1 := Y.out.cell 1; have y2 := Y.out.cell 2; have x0 := X.out.cell 0; have x1 := X.out.cell 1; have x2 := X.out.cell 2; clear hr hb ba)
      | (go_at_call 9; have tk := tok10; clear tok10 tk; have tok11 : True := trivial; refine (apply_is _ one y _ _ _ ONE.out YD.out (HYI.out ▸ IB.out) (by have := HONE.out.1; omega) (by have := HG.out.d; omega) (by have := HG.out.i; omega) HE2.out.1 HE2.out.2).mono ?_; rintro e w12 ⟨A12, n12, c12, rfl, hr, hb⟩; have TWO := Lib.hid hr; have L := Lib.hid (L.out.below hb); have IA := Lib.hid (IA.out.below hb); have IB := Lib.hid (IB.out.below hb); have SA := Lib.hid (SA.out.below hb); have SB := Lib.hid (SB.out.below hb); have XD := Lib.hid (XD.out.below hb); have X := Lib.hid (X.out.below hb); have ONE := Lib.hid (ONE.out.below hb); have YD := Lib.hid (YD.out.below hb); have Y := Lib.hid (Y.out.below hb); have B := Lib.hid (B.out.trans (hb.mono B.out.size)); have x0 := X.out.cell 0; have x1 := X.out.cell 1; have x2 := X.out.cell 2; have y0 := Y.out.cell 0; have y1 := Y.out.cell 1; have y2 := Y.out.cell 2; clear hr hb)
      | (go_at_call 11; have tk := tok11; clear tok11 tk; have tok12 : True := trivial; refine (join_is _ x y _ _ _ _ XD.out (HXI.out ▸ IA.out) YD.out (HYI.out ▸ IB.out) HJS.out.1 HJS.out.2 HF.out.p HG.out.p HJ.out.1 HJ.out.2).mono ?_; rintro e w13 ⟨A13, n13, c13, A14, n14, c14, rfl, hr, hr2, hb⟩; have ZD := Lib.hid hr; have ZI := Lib.hid hr2; have L := Lib.hid (L.out.below hb); have IA := Lib.hid (IA.out.below hb); have IB := Lib.hid (IB.out.below hb); have SA := Lib.hid (SA.out.below hb); have SB := Lib.hid (SB.out.below hb); have XD := Lib.hid (XD.out.below hb); have X := Lib.hid (X.out.below hb); have ONE := Lib.hid (ONE.out.below hb); have YD := Lib.hid (YD.out.below hb); have Y := Lib.hid (Y.out.below hb); have TWO := Lib.hid (TWO.out.below hb); have B := Lib.hid (B.out.trans (hb.mono B.out.size)); have bz := bel_alloc (Below.refl w13.heap.size w13) (.cells #[.int .i64 z.p, .slice A13 n13 c13, .slice A14 n14 c14] 24); have L := Lib.hid (L.out.below bz); have IA := Lib.hid (IA.out.below bz); have IB := Lib.hid (IB.out.below bz); have SA := Lib.hid (SA.out.below bz); have SB := Lib.hid (SB.out.below bz); have XD := Lib.hid (XD.out.below bz); have X := Lib.hid (X.out.below bz); have ONE := Lib.hid (ONE.out.below bz); have YD := Lib.hid (YD.out.below bz); have Y := Lib.hid (Y.out.below bz); have TWO := Lib.hid (TWO.out.below bz); have ZD := Lib.hid (ZD.out.below bz); have ZI := Lib.hid (ZI.out.below bz); have B := Lib.hid (B.out.trans (bz.mono B.out.size)); have Z : Hid (EBox (w13.alloc (.cells #[.int .i64 z.p, .slice A13 n13 c13, .slice A14 n14 c14] 24)) w13.heap.size #[.int .i64 z.p, .slice A13 n13 c13, .slice A14 n14 c14]) := Lib.hid (alloc_new _ _); have z0 := Z.out.cell 0; have z1 := Z.out.cell 1; have z2 := Z.out.cell 2; clear hr hr2 hb bz))
    go_ret
    exact ⟨rfl, B.out⟩
set_option maxRecDepth 1000000 in
set_option maxHeartbeats 8000000 in
theorem inv_sj (w : World) (l : List Int) (a b : StepP) (x y : Ed) (Al Aa Ab : Option Addr) (cl na ca nb cb : Nat) (hl : Holds1 w (.slice Al l.length cl) (runeVals l)) (hia : Holds1 w (.slice Aa na ca) (runeVals a.ins)) (hib : Holds1 w (.slice Ab nb cb) (runeVals b.ins)) (hF : InvF l a x) (hxi : x.i = a.ins) (h1 : apErr l x = 0) (hF2 : InvF (apLine l x) b y) (hyi : y.i = b.ins) (hsm : l.length ≤ 1024) (h2 : apErr (apLine l x) y = 0) (h3 : joinB x y = true) :
    Calls Try.prog 6 #[.slice Al l.length cl, .agg #[.int .i64 a.at', .int .i64 a.many, .slice Aa na ca, .bool a.beg, .bool a.en], .agg #[.int .i64 b.at', .int .i64 b.many, .slice Ab nb cb, .bool b.beg, .bool b.en]] w fun e w' => e = .returned (.bool true) ∧ Below w.heap.size w w' := by
  obtain ⟨w1, hw1⟩ : ∃ w1, w1 = (w.alloc (.cells #[.int .i64 a.at', .int .i64 a.many, .slice Aa na ca, .bool a.beg, .bool a.en] 59)).alloc (.cells #[.int .i64 b.at', .int .i64 b.many, .slice Ab nb cb, .bool b.beg, .bool b.en] 59) := ⟨_, rfl⟩
  have b0 : Below w.heap.size w (w.alloc (.cells #[.int .i64 a.at', .int .i64 a.many, .slice Aa na ca, .bool a.beg, .bool a.en] 59)) := (Below.refl _ _).alloc (Nat.le_refl _) _
  have b1' : Below (w.alloc (.cells #[.int .i64 a.at', .int .i64 a.many, .slice Aa na ca, .bool a.beg, .bool a.en] 59)).heap.size (w.alloc (.cells #[.int .i64 a.at', .int .i64 a.many, .slice Aa na ca, .bool a.beg, .bool a.en] 59)) w1 := by rw [hw1]; exact (Below.refl _ _).alloc (Nat.le_refl _) _
  have b1 : Below w.heap.size w w1 := b0.trans (b1'.mono b0.size)
  have SA : Hid (SBox w1 w.heap.size #[.int .i64 a.at', .int .i64 a.many, .slice Aa na ca, .bool a.beg, .bool a.en]) := Lib.hid (SBox.below (alloc_new _ _) b1')
  have SB : Hid (SBox w1 (w.heap.size + 1) #[.int .i64 b.at', .int .i64 b.many, .slice Ab nb cb, .bool b.beg, .bool b.en]) := Lib.hid (by
    have := alloc_new (w.alloc (.cells #[.int .i64 a.at', .int .i64 a.many, .slice Aa na ca, .bool a.beg, .bool a.en] 59)) (.cells #[.int .i64 b.at', .int .i64 b.many, .slice Ab nb cb, .bool b.beg, .bool b.en] 59)
    rw [← hw1] at this
    rw [show (w.alloc (.cells #[.int .i64 a.at', .int .i64 a.many, .slice Aa na ca, .bool a.beg, .bool a.en] 59)).heap.size = w.heap.size + 1 by simp] at this
    exact this)
  have HW1 := Lib.hid hw1
  have B := Lib.hid b1
  have L := Lib.hid (hl.below b1)
  have IA := Lib.hid (hia.below b1)
  have IB := Lib.hid (hib.below b1)
  have HF := Lib.hid hF
  have HXI := Lib.hid hxi.symm
  have tok1 : True := trivial
  obtain ⟨z, hz⟩ : ∃ z, z = joinE x y := ⟨_, rfl⟩
  obtain ⟨hz1, hz2, hz3, hz4⟩ := apErr_zero h1
  have HG := Lib.hid hF2
  have HYI := Lib.hid hyi.symm
  have HE1 : Hid (apErr l x = 0 ∧ apRes l x = apLine l x) := Lib.hid ⟨h1, hz4⟩
  have HBK := Lib.hid (inv_back h1 hsm)
  have i1 : ((l.length : Int) ≤ 1024) = True := eq_true (by omega)
  have i2 : (l.length ≤ 1024) = True := eq_true hsm
  have hxil : x.i.length ≤ 1024 := by
    obtain ⟨k, _, hk2, _⟩ := stands_nat hz1
    omega
  have hyd : y.d.length ≤ 1024 := by
    obtain ⟨k, _, hk2, _⟩ := stands_nat (l := apLine l x) (e := y) (by rw [hF2.eq]; exact stands_step _ _)
    omega
  have HJS : Hid (x.d.length + y.d.length ≤ 35184372088832 ∧ x.i.length + y.i.length ≤ 35184372088832) := Lib.hid ⟨by have := hF.d; omega, by have := hF2.i; omega⟩
  have HE2 : Hid (apErr (apLine l x) y = 0 ∧ apRes (apLine l x) y = apLine (apLine l x) y) := Lib.hid ⟨h2, (apErr_zero h2).2.2.2⟩
  have hjb := join_both h1 h2 h3
  rw [← hz] at hjb
  have HE3 := Lib.hid hjb
  clear hjb
  have HTW := Lib.hid (apErr_zero h2).2.2.1
  have HZ : Hid (z.d.length ≤ 35184372088832 ∧ z.i.length ≤ 35184372088832) := Lib.hid (by
    have := HJS.out
    rw [hz]
    unfold joinE
    split
    · exact ⟨by show x.d.length ≤ _; omega, by show (x.i ++ y.i).length ≤ _; rw [List.length_append]; omega⟩
    · split
      · exact ⟨by show (y.d ++ x.d).length ≤ _; rw [List.length_append]; omega, by show ([] : List Int).length ≤ _; simp⟩
      · exact ⟨by show ([] : List Int).length ≤ _; simp, by show ([] : List Int).length ≤ _; simp⟩)
  have HJ : Hid (joinE x y = z ∧ joinB x y = true) := Lib.hid ⟨hz.symm, h3⟩
  have HONE : Hid ((apLine l x).length ≤ 1024 ∧ True) := Lib.hid ⟨hz3, trivial⟩
  clear b0 b1' b1 hw1 hl hia hib hF hxi h1 hF2 hyi hsm h2 hz1 hz2 hz3 hz4 hz hxil hyd h3
  generalize apLine (apLine l x) y = two at *
  generalize apLine l x = one at *
  generalize hn : l.length = n at *
  clear hn
  go_enter Try.func6, Try.ntmps6
  go_wp2_with fail
  rw [← HW1.out]
  go_wp2_with (first
    | (go_at_call 13; refine (begun_any _).mono ?_; rintro e w2 ⟨rfl, hb⟩; have L := Lib.hid (L.out.below hb); have IA := Lib.hid (IA.out.below hb); have IB := Lib.hid (IB.out.below hb); have SA := Lib.hid (SA.out.below hb); have SB := Lib.hid (SB.out.below hb); have B := Lib.hid (B.out.trans (hb.mono B.out.size)); have sa0 := SA.out.cell 0; have sa1 := SA.out.cell 1; have sa2 := SA.out.cell 2; have sa3 := SA.out.cell 3; have sa4 := SA.out.cell 4; clear hb)
    | (go_at_call 41; have tk := tok1; clear tok1 tk; have tok2 : True := trivial; refine (step_is _ l a _ _ L.out IA.out (by have := HF.out.l; omega) HF.out.eq).mono ?_; rintro e w3 ⟨A3, n3, c3, rfl, hr, hb⟩; have XD := Lib.hid hr; have L := Lib.hid (L.out.below hb); have IA := Lib.hid (IA.out.below hb); have IB := Lib.hid (IB.out.below hb); have SA := Lib.hid (SA.out.below hb); have SB := Lib.hid (SB.out.below hb); have B := Lib.hid (B.out.trans (hb.mono B.out.size)); have ba := bel_alloc (Below.refl w3.heap.size w3) (.cells #[.int .i64 x.p, .slice A3 n3 c3, .slice Aa na ca] 24); have L := Lib.hid (L.out.below ba); have IA := Lib.hid (IA.out.below ba); have IB := Lib.hid (IB.out.below ba); have SA := Lib.hid (SA.out.below ba); have SB := Lib.hid (SB.out.below ba); have XD := Lib.hid (XD.out.below ba); have B := Lib.hid (B.out.trans (ba.mono B.out.size)); have X : Hid (EBox (w3.alloc (.cells #[.int .i64 x.p, .slice A3 n3 c3, .slice Aa na ca] 24)) w3.heap.size #[.int .i64 x.p, .slice A3 n3 c3, .slice Aa na ca]) := Lib.hid (alloc_new _ _); have x0 := X.out.cell 0; have x1 := X.out.cell 1; have x2 := X.out.cell 2; clear hr hb ba)
    | (go_at_call 9; have tk := tok2; clear tok2 tk; have tok3 : True := trivial; refine (apply_is _ l x _ _ _ L.out XD.out (HXI.out ▸ IA.out) (by have := HF.out.l; omega) (by have := HF.out.d; omega) (by have := HF.out.i; omega) HE1.out.1 HE1.out.2).mono ?_; rintro e w4 ⟨A4, n4, c4, rfl, hr, hb⟩; have ONE := Lib.hid hr; have L := Lib.hid (L.out.below hb); have IA := Lib.hid (IA.out.below hb); have IB := Lib.hid (IB.out.below hb); have SA := Lib.hid (SA.out.below hb); have SB := Lib.hid (SB.out.below hb); have XD := Lib.hid (XD.out.below hb); have X := Lib.hid (X.out.below hb); have B := Lib.hid (B.out.trans (hb.mono B.out.size)); have x0 := X.out.cell 0; have x1 := X.out.cell 1; have x2 := X.out.cell 2; clear hr hb)
    | (go_at_call 16; have tk := tok3; clear tok3 tk; have tok4 : True := trivial; refine (inv_is _ x _ _ XD.out (HXI.out ▸ IA.out) (by have := HF.out.d; omega) (by have := HF.out.i; omega)).mono ?_; rintro e w5 ⟨A5, n5, c5, A6, n6, c6, rfl, hr, hr2, hb⟩; have V1 := Lib.hid hr; have V2 := Lib.hid hr2; have L := Lib.hid (L.out.below hb); have IA := Lib.hid (IA.out.below hb); have IB := Lib.hid (IB.out.below hb); have SA := Lib.hid (SA.out.below hb); have SB := Lib.hid (SB.out.below hb); have XD := Lib.hid (XD.out.below hb); have X := Lib.hid (X.out.below hb); have ONE := Lib.hid (ONE.out.below hb); have B := Lib.hid (B.out.trans (hb.mono B.out.size)); have x0 := X.out.cell 0; have x1 := X.out.cell 1; have x2 := X.out.cell 2; clear hr hr2 hb)
    | (go_at_call 9; have tk := tok4; clear tok4 tk; have tok5 : True := trivial; refine (apply_is _ one x.inv _ _ _ ONE.out V1.out V2.out (by have := HONE.out.1; omega) (by have := HF.out.i; show x.i.length ≤ _; omega) (by have := HF.out.d; show x.d.length ≤ _; omega) HBK.out.1 HBK.out.2).mono ?_; rintro e w6 ⟨A7, n7, c7, rfl, hr, hb⟩; have BK := Lib.hid hr; have L := Lib.hid (L.out.below hb); have IA := Lib.hid (IA.out.below hb); have IB := Lib.hid (IB.out.below hb); have SA := Lib.hid (SA.out.below hb); have SB := Lib.hid (SB.out.below hb); have XD := Lib.hid (XD.out.below hb); have X := Lib.hid (X.out.below hb); have ONE := Lib.hid (ONE.out.below hb); have B := Lib.hid (B.out.trans (hb.mono B.out.size)); have x0 := X.out.cell 0; have x1 := X.out.cell 1; have x2 := X.out.cell 2; clear hr hb)
    | (go_at_call 14; have tk := tok5; clear tok5 tk; have tok6 : True := trivial; refine (samer_is _ l _ _ BK.out L.out (by have := HF.out.l; omega)).mono ?_; rintro e w7 ⟨rfl, hb⟩; have L := Lib.hid (L.out.below hb); have IA := Lib.hid (IA.out.below hb); have IB := Lib.hid (IB.out.below hb); have SA := Lib.hid (SA.out.below hb); have SB := Lib.hid (SB.out.below hb); have XD := Lib.hid (XD.out.below hb); have X := Lib.hid (X.out.below hb); have ONE := Lib.hid (ONE.out.below hb); have B := Lib.hid (B.out.trans (hb.mono B.out.size)); have x0 := X.out.cell 0; have x1 := X.out.cell 1; have x2 := X.out.cell 2; clear hb))
  have bd : Below w7.heap.size w7 w7.drew := (Below.refl _ _).drew
  have L := Lib.hid (L.out.below bd)
  have IA := Lib.hid (IA.out.below bd)
  have IB := Lib.hid (IB.out.below bd)
  have SA := Lib.hid (SA.out.below bd)
  have SB := Lib.hid (SB.out.below bd)
  have XD := Lib.hid (XD.out.below bd)
  have X := Lib.hid (X.out.below bd)
  have ONE := Lib.hid (ONE.out.below bd)
  have B := Lib.hid (B.out.trans (bd.mono B.out.size))
  have hT0 : w7.drew.cell? ⟨w3.heap.size, 0, none⟩ = some (.int .i64 x.p) ∧ w7.drew.cell? ⟨w3.heap.size, 1, none⟩ = some (.slice A3 n3 c3) ∧ w7.drew.cell? ⟨w3.heap.size, 2, none⟩ = some (.slice Aa na ca) := ⟨X.out.cell 0, X.out.cell 1, X.out.cell 2⟩
  go_region_held3 (fun W => W.cell? ⟨w3.heap.size, 0, none⟩ = some (.int .i64 x.p) ∧ W.cell? ⟨w3.heap.size, 1, none⟩ = some (.slice A3 n3 c3) ∧ W.cell? ⟨w3.heap.size, 2, none⟩ = some (.slice Aa na ca)) (first | with_reducible exact hT3 | with_reducible exact hT2 | with_reducible exact hT1 | with_reducible exact hT0 | fail) (first
    | (go_at_call 16; have tk := tok6; clear tok6 tk; have tok7 : True := trivial; refine (inv_is _ x _ _ XD.out (HXI.out ▸ IA.out) (by have := HF.out.d; omega) (by have := HF.out.i; omega)).mono ?_; rintro e w8 ⟨A8, n8, c8, A9, n9, c9, rfl, hr, hr2, hb⟩; have U1 := Lib.hid hr; have U2 := Lib.hid hr2; have L := Lib.hid (L.out.below hb); have IA := Lib.hid (IA.out.below hb); have IB := Lib.hid (IB.out.below hb); have SA := Lib.hid (SA.out.below hb); have SB := Lib.hid (SB.out.below hb); have XD := Lib.hid (XD.out.below hb); have X := Lib.hid (X.out.below hb); have ONE := Lib.hid (ONE.out.below hb); have B := Lib.hid (B.out.trans (hb.mono B.out.size)); have hT1 : w8.cell? ⟨w3.heap.size, 0, none⟩ = some (.int .i64 x.p) ∧ w8.cell? ⟨w3.heap.size, 1, none⟩ = some (.slice A3 n3 c3) ∧ w8.cell? ⟨w3.heap.size, 2, none⟩ = some (.slice Aa na ca) := ⟨X.out.cell 0, X.out.cell 1, X.out.cell 2⟩; clear hr hr2 hb)
    | (go_at_call 16; have tk := tok7; clear tok7 tk; have tok8 : True := trivial; refine (inv_is _ x.inv _ _ U1.out U2.out (by have := HF.out.i; show x.i.length ≤ _; omega) (by have := HF.out.d; show x.d.length ≤ _; omega)).mono ?_; rintro e w9 ⟨A16, n16, c16, A17, n17, c17, rfl, hr, hr2, hb⟩; have T1 := Lib.hid hr; have T2 := Lib.hid hr2; have L := Lib.hid (L.out.below hb); have IA := Lib.hid (IA.out.below hb); have IB := Lib.hid (IB.out.below hb); have SA := Lib.hid (SA.out.below hb); have SB := Lib.hid (SB.out.below hb); have XD := Lib.hid (XD.out.below hb); have X := Lib.hid (X.out.below hb); have ONE := Lib.hid (ONE.out.below hb); have B := Lib.hid (B.out.trans (hb.mono B.out.size)); have hT2 : w9.cell? ⟨w3.heap.size, 0, none⟩ = some (.int .i64 x.p) ∧ w9.cell? ⟨w3.heap.size, 1, none⟩ = some (.slice A3 n3 c3) ∧ w9.cell? ⟨w3.heap.size, 2, none⟩ = some (.slice Aa na ca) := ⟨X.out.cell 0, X.out.cell 1, X.out.cell 2⟩; clear hr hr2 hb)
    | (go_at_call 15; have tk := tok8; clear tok8 tk; have tok9 : True := trivial; refine (same_is _ x _ _ _ _ T1.out T2.out XD.out (HXI.out ▸ IA.out) (by have := HF.out.d; omega) (by have := HF.out.i; omega)).mono ?_; rintro e w10 ⟨rfl, hb⟩; have L := Lib.hid (L.out.below hb); have IA := Lib.hid (IA.out.below hb); have IB := Lib.hid (IB.out.below hb); have SA := Lib.hid (SA.out.below hb); have SB := Lib.hid (SB.out.below hb); have XD := Lib.hid (XD.out.below hb); have X := Lib.hid (X.out.below hb); have ONE := Lib.hid (ONE.out.below hb); have B := Lib.hid (B.out.trans (hb.mono B.out.size)); have hT3 : w10.cell? ⟨w3.heap.size, 0, none⟩ = some (.int .i64 x.p) ∧ w10.cell? ⟨w3.heap.size, 1, none⟩ = some (.slice A3 n3 c3) ∧ w10.cell? ⟨w3.heap.size, 2, none⟩ = some (.slice Aa na ca) := ⟨X.out.cell 0, X.out.cell 1, X.out.cell 2⟩; have sb0 := SB.out.cell 0; have sb1 := SB.out.cell 1; have sb2 := SB.out.cell 2; have sb3 := SB.out.cell 3; have sb4 := SB.out.cell 4; clear hb))
  all_goals
    go_wp2_with (first
      | (go_at_call 41; have tk := tok9; clear tok9 tk; have tok10 : True := trivial; refine (step_is _ one b _ _ ONE.out IB.out (by have := HONE.out.1; omega) HG.out.eq).mono ?_; rintro e w11 ⟨A11, n11, c11, rfl, hr, hb⟩; have YD := Lib.hid hr; have L := Lib.hid (L.out.below hb); have IA := Lib.hid (IA.out.below hb); have IB := Lib.hid (IB.out.below hb); have SA := Lib.hid (SA.out.below hb); have SB := Lib.hid (SB.out.below hb); have XD := Lib.hid (XD.out.below hb); have X := Lib.hid (X.out.below hb); have ONE := Lib.hid (ONE.out.below hb); have B := Lib.hid (B.out.trans (hb.mono B.out.size)); have ba := bel_alloc (Below.refl w11.heap.size w11) (.cells #[.int .i64 y.p, .slice A11 n11 c11, .slice Ab nb cb] 24); have L := Lib.hid (L.out.below ba); have IA := Lib.hid (IA.out.below ba); have IB := Lib.hid (IB.out.below ba); have SA := Lib.hid (SA.out.below ba); have SB := Lib.hid (SB.out.below ba); have XD := Lib.hid (XD.out.below ba); have X := Lib.hid (X.out.below ba); have ONE := Lib.hid (ONE.out.below ba); have YD := Lib.hid (YD.out.below ba); have B := Lib.hid (B.out.trans (ba.mono B.out.size)); have Y : Hid (EBox (w11.alloc (.cells #[.int .i64 y.p, .slice A11 n11 c11, .slice Ab nb cb] 24)) w11.heap.size #[.int .i64 y.p, .slice A11 n11 c11, .slice Ab nb cb]) := Lib.hid (alloc_new _ _); have y0 := Y.out.cell 0; have y1 := Y.out.cell 1; have y2 := Y.out.cell 2; have x0 := X.out.cell 0; have x1 := X.out.cell 1; have x2 := X.out.cell 2; clear hr hb ba)
      | (go_at_call 9; have tk := tok10; clear tok10 tk; have tok11 : True := trivial; refine (apply_is _ one y _ _ _ ONE.out YD.out (HYI.out ▸ IB.out) (by have := HONE.out.1; omega) (by have := HG.out.d; omega) (by have := HG.out.i; omega) HE2.out.1 HE2.out.2).mono ?_; rintro e w12 ⟨A12, n12, c12, rfl, hr, hb⟩; have TWO := Lib.hid hr; have L := Lib.hid (L.out.below hb); have IA := Lib.hid (IA.out.below hb); have IB := Lib.hid (IB.out.below hb); have SA := Lib.hid (SA.out.below hb); have SB := Lib.hid (SB.out.below hb); have XD := Lib.hid (XD.out.below hb); have X := Lib.hid (X.out.below hb); have ONE := Lib.hid (ONE.out.below hb); have YD := Lib.hid (YD.out.below hb); have Y := Lib.hid (Y.out.below hb); have B := Lib.hid (B.out.trans (hb.mono B.out.size)); have x0 := X.out.cell 0; have x1 := X.out.cell 1; have x2 := X.out.cell 2; have y0 := Y.out.cell 0; have y1 := Y.out.cell 1; have y2 := Y.out.cell 2; clear hr hb)
      | (go_at_call 11; have tk := tok11; clear tok11 tk; have tok12 : True := trivial; refine (join_is _ x y _ _ _ _ XD.out (HXI.out ▸ IA.out) YD.out (HYI.out ▸ IB.out) HJS.out.1 HJS.out.2 HF.out.p HG.out.p HJ.out.1 HJ.out.2).mono ?_; rintro e w13 ⟨A13, n13, c13, A14, n14, c14, rfl, hr, hr2, hb⟩; have ZD := Lib.hid hr; have ZI := Lib.hid hr2; have L := Lib.hid (L.out.below hb); have IA := Lib.hid (IA.out.below hb); have IB := Lib.hid (IB.out.below hb); have SA := Lib.hid (SA.out.below hb); have SB := Lib.hid (SB.out.below hb); have XD := Lib.hid (XD.out.below hb); have X := Lib.hid (X.out.below hb); have ONE := Lib.hid (ONE.out.below hb); have YD := Lib.hid (YD.out.below hb); have Y := Lib.hid (Y.out.below hb); have TWO := Lib.hid (TWO.out.below hb); have B := Lib.hid (B.out.trans (hb.mono B.out.size)); have bz := bel_alloc (Below.refl w13.heap.size w13) (.cells #[.int .i64 z.p, .slice A13 n13 c13, .slice A14 n14 c14] 24); have L := Lib.hid (L.out.below bz); have IA := Lib.hid (IA.out.below bz); have IB := Lib.hid (IB.out.below bz); have SA := Lib.hid (SA.out.below bz); have SB := Lib.hid (SB.out.below bz); have XD := Lib.hid (XD.out.below bz); have X := Lib.hid (X.out.below bz); have ONE := Lib.hid (ONE.out.below bz); have YD := Lib.hid (YD.out.below bz); have Y := Lib.hid (Y.out.below bz); have TWO := Lib.hid (TWO.out.below bz); have ZD := Lib.hid (ZD.out.below bz); have ZI := Lib.hid (ZI.out.below bz); have B := Lib.hid (B.out.trans (bz.mono B.out.size)); have Z : Hid (EBox (w13.alloc (.cells #[.int .i64 z.p, .slice A13 n13 c13, .slice A14 n14 c14] 24)) w13.heap.size #[.int .i64 z.p, .slice A13 n13 c13, .slice A14 n14 c14]) := Lib.hid (alloc_new _ _); have z0 := Z.out.cell 0; have z1 := Z.out.cell 1; have z2 := Z.out.cell 2; clear hr hr2 hb bz)
      | (go_at_call 9; have tk := tok12; clear tok12 tk; have tok13 : True := trivial; refine (apply_is _ l z _ _ _ L.out ZD.out ZI.out (by have := HF.out.l; omega) HZ.out.1 HZ.out.2 HE3.out.1 HE3.out.2).mono ?_; rintro e w14 ⟨A15, n15, c15, rfl, hr, hb⟩; have BOTH := Lib.hid hr; have L := Lib.hid (L.out.below hb); have IA := Lib.hid (IA.out.below hb); have IB := Lib.hid (IB.out.below hb); have SA := Lib.hid (SA.out.below hb); have SB := Lib.hid (SB.out.below hb); have XD := Lib.hid (XD.out.below hb); have X := Lib.hid (X.out.below hb); have ONE := Lib.hid (ONE.out.below hb); have YD := Lib.hid (YD.out.below hb); have Y := Lib.hid (Y.out.below hb); have TWO := Lib.hid (TWO.out.below hb); have ZD := Lib.hid (ZD.out.below hb); have ZI := Lib.hid (ZI.out.below hb); have Z := Lib.hid (Z.out.below hb); have B := Lib.hid (B.out.trans (hb.mono B.out.size)); clear hr hb)
      | (go_at_call 14; have tk := tok13; clear tok13 tk; have tok14 : True := trivial; refine (samer_is _ two _ _ BOTH.out TWO.out (by have := HTW.out; omega)).mono ?_; rintro e w15 ⟨rfl, hb⟩; have B := Lib.hid (B.out.trans (hb.mono B.out.size)); clear hb))
    go_ret
    exact ⟨rfl, B.out⟩
set_option maxRecDepth 1000000 in
set_option maxHeartbeats 8000000 in
theorem inv_b3 (w : World) (l : List Int) (a b : StepP) (x y : Ed) (Al Aa Ab : Option Addr) (cl na ca nb cb : Nat) (hl : Holds1 w (.slice Al l.length cl) (runeVals l)) (hia : Holds1 w (.slice Aa na ca) (runeVals a.ins)) (hib : Holds1 w (.slice Ab nb cb) (runeVals b.ins)) (hF : InvF l a x) (hxi : x.i = a.ins) (h1 : apErr l x = 0) (hF2 : InvF (apLine l x) b y) (hyi : y.i = b.ins) (hsm : ¬ l.length ≤ 1024) (h2 : apErr (apLine l x) y = 3) :
    Calls Try.prog 6 #[.slice Al l.length cl, .agg #[.int .i64 a.at', .int .i64 a.many, .slice Aa na ca, .bool a.beg, .bool a.en], .agg #[.int .i64 b.at', .int .i64 b.many, .slice Ab nb cb, .bool b.beg, .bool b.en]] w fun e w' => e = .returned (.bool true) ∧ Below w.heap.size w w' := by
  obtain ⟨w1, hw1⟩ : ∃ w1, w1 = (w.alloc (.cells #[.int .i64 a.at', .int .i64 a.many, .slice Aa na ca, .bool a.beg, .bool a.en] 59)).alloc (.cells #[.int .i64 b.at', .int .i64 b.many, .slice Ab nb cb, .bool b.beg, .bool b.en] 59) := ⟨_, rfl⟩
  have b0 : Below w.heap.size w (w.alloc (.cells #[.int .i64 a.at', .int .i64 a.many, .slice Aa na ca, .bool a.beg, .bool a.en] 59)) := (Below.refl _ _).alloc (Nat.le_refl _) _
  have b1' : Below (w.alloc (.cells #[.int .i64 a.at', .int .i64 a.many, .slice Aa na ca, .bool a.beg, .bool a.en] 59)).heap.size (w.alloc (.cells #[.int .i64 a.at', .int .i64 a.many, .slice Aa na ca, .bool a.beg, .bool a.en] 59)) w1 := by rw [hw1]; exact (Below.refl _ _).alloc (Nat.le_refl _) _
  have b1 : Below w.heap.size w w1 := b0.trans (b1'.mono b0.size)
  have SA : Hid (SBox w1 w.heap.size #[.int .i64 a.at', .int .i64 a.many, .slice Aa na ca, .bool a.beg, .bool a.en]) := Lib.hid (SBox.below (alloc_new _ _) b1')
  have SB : Hid (SBox w1 (w.heap.size + 1) #[.int .i64 b.at', .int .i64 b.many, .slice Ab nb cb, .bool b.beg, .bool b.en]) := Lib.hid (by
    have := alloc_new (w.alloc (.cells #[.int .i64 a.at', .int .i64 a.many, .slice Aa na ca, .bool a.beg, .bool a.en] 59)) (.cells #[.int .i64 b.at', .int .i64 b.many, .slice Ab nb cb, .bool b.beg, .bool b.en] 59)
    rw [← hw1] at this
    rw [show (w.alloc (.cells #[.int .i64 a.at', .int .i64 a.many, .slice Aa na ca, .bool a.beg, .bool a.en] 59)).heap.size = w.heap.size + 1 by simp] at this
    exact this)
  have HW1 := Lib.hid hw1
  have B := Lib.hid b1
  have L := Lib.hid (hl.below b1)
  have IA := Lib.hid (hia.below b1)
  have IB := Lib.hid (hib.below b1)
  have HF := Lib.hid hF
  have HXI := Lib.hid hxi.symm
  have tok1 : True := trivial
  obtain ⟨z, hz⟩ : ∃ z, z = joinE x y := ⟨_, rfl⟩
  obtain ⟨hz1, hz2, hz3, hz4⟩ := apErr_zero h1
  have HG := Lib.hid hF2
  have HYI := Lib.hid hyi.symm
  have HE1 : Hid (apErr l x = 0 ∧ apRes l x = apLine l x) := Lib.hid ⟨h1, hz4⟩
  have i1 : ((l.length : Int) ≤ 1024) = False := eq_false (by omega)
  have i2 : (l.length ≤ 1024) = False := eq_false hsm
  have hxil : x.i.length ≤ 1024 := by
    obtain ⟨k, _, hk2, _⟩ := stands_nat hz1
    omega
  have hyd : y.d.length ≤ 1024 := by
    obtain ⟨k, _, hk2, _⟩ := stands_nat (l := apLine l x) (e := y) (by rw [hF2.eq]; exact stands_step _ _)
    omega
  have HJS : Hid (x.d.length + y.d.length ≤ 35184372088832 ∧ x.i.length + y.i.length ≤ 35184372088832) := Lib.hid ⟨by have := hF.d; omega, by have := hF2.i; omega⟩
  have HE2 : Hid (apErr (apLine l x) y = 3 ∧ apRes (apLine l x) y = []) := Lib.hid ⟨h2, by unfold apRes; rw [if_neg (by rw [h2]; decide)]⟩
  obtain ⟨jb, hjb⟩ : ∃ jb, jb = joinB x y := ⟨_, rfl⟩
  have HJ : Hid (joinE x y = z ∧ joinB x y = jb) := Lib.hid ⟨hz.symm, hjb.symm⟩
  clear hjb
  have HONE : Hid ((apLine l x).length ≤ 1024 ∧ True) := Lib.hid ⟨hz3, trivial⟩
  clear b0 b1' b1 hw1 hl hia hib hF hxi h1 hF2 hyi hsm h2 hz1 hz2 hz3 hz4 hz hxil hyd
  generalize apLine l x = one at *
  generalize hn : l.length = n at *
  clear hn
  go_enter Try.func6, Try.ntmps6
  go_wp2_with fail
  rw [← HW1.out]
  go_wp2_with (first
    | (go_at_call 13; refine (begun_any _).mono ?_; rintro e w2 ⟨rfl, hb⟩; have L := Lib.hid (L.out.below hb); have IA := Lib.hid (IA.out.below hb); have IB := Lib.hid (IB.out.below hb); have SA := Lib.hid (SA.out.below hb); have SB := Lib.hid (SB.out.below hb); have B := Lib.hid (B.out.trans (hb.mono B.out.size)); have sa0 := SA.out.cell 0; have sa1 := SA.out.cell 1; have sa2 := SA.out.cell 2; have sa3 := SA.out.cell 3; have sa4 := SA.out.cell 4; clear hb)
    | (go_at_call 41; have tk := tok1; clear tok1 tk; have tok2 : True := trivial; refine (step_is _ l a _ _ L.out IA.out (by have := HF.out.l; omega) HF.out.eq).mono ?_; rintro e w3 ⟨A3, n3, c3, rfl, hr, hb⟩; have XD := Lib.hid hr; have L := Lib.hid (L.out.below hb); have IA := Lib.hid (IA.out.below hb); have IB := Lib.hid (IB.out.below hb); have SA := Lib.hid (SA.out.below hb); have SB := Lib.hid (SB.out.below hb); have B := Lib.hid (B.out.trans (hb.mono B.out.size)); have ba := bel_alloc (Below.refl w3.heap.size w3) (.cells #[.int .i64 x.p, .slice A3 n3 c3, .slice Aa na ca] 24); have L := Lib.hid (L.out.below ba); have IA := Lib.hid (IA.out.below ba); have IB := Lib.hid (IB.out.below ba); have SA := Lib.hid (SA.out.below ba); have SB := Lib.hid (SB.out.below ba); have XD := Lib.hid (XD.out.below ba); have B := Lib.hid (B.out.trans (ba.mono B.out.size)); have X : Hid (EBox (w3.alloc (.cells #[.int .i64 x.p, .slice A3 n3 c3, .slice Aa na ca] 24)) w3.heap.size #[.int .i64 x.p, .slice A3 n3 c3, .slice Aa na ca]) := Lib.hid (alloc_new _ _); have x0 := X.out.cell 0; have x1 := X.out.cell 1; have x2 := X.out.cell 2; clear hr hb ba)
    | (go_at_call 9; have tk := tok2; clear tok2 tk; have tok3 : True := trivial; refine (apply_is _ l x _ _ _ L.out XD.out (HXI.out ▸ IA.out) (by have := HF.out.l; omega) (by have := HF.out.d; omega) (by have := HF.out.i; omega) HE1.out.1 HE1.out.2).mono ?_; rintro e w4 ⟨A4, n4, c4, rfl, hr, hb⟩; have ONE := Lib.hid hr; have L := Lib.hid (L.out.below hb); have IA := Lib.hid (IA.out.below hb); have IB := Lib.hid (IB.out.below hb); have SA := Lib.hid (SA.out.below hb); have SB := Lib.hid (SB.out.below hb); have XD := Lib.hid (XD.out.below hb); have X := Lib.hid (X.out.below hb); have B := Lib.hid (B.out.trans (hb.mono B.out.size)); have x0 := X.out.cell 0; have x1 := X.out.cell 1; have x2 := X.out.cell 2; clear hr hb))
  have bd : Below w4.heap.size w4 w4.drew := (Below.refl _ _).drew
  have L := Lib.hid (L.out.below bd)
  have IA := Lib.hid (IA.out.below bd)
  have IB := Lib.hid (IB.out.below bd)
  have SA := Lib.hid (SA.out.below bd)
  have SB := Lib.hid (SB.out.below bd)
  have XD := Lib.hid (XD.out.below bd)
  have X := Lib.hid (X.out.below bd)
  have ONE := Lib.hid (ONE.out.below bd)
  have B := Lib.hid (B.out.trans (bd.mono B.out.size))
  have hT0 : w4.drew.cell? ⟨w3.heap.size, 0, none⟩ = some (.int .i64 x.p) ∧ w4.drew.cell? ⟨w3.heap.size, 1, none⟩ = some (.slice A3 n3 c3) ∧ w4.drew.cell? ⟨w3.heap.size, 2, none⟩ = some (.slice Aa na ca) := ⟨X.out.cell 0, X.out.cell 1, X.out.cell 2⟩
  go_region_held3 (fun W => W.cell? ⟨w3.heap.size, 0, none⟩ = some (.int .i64 x.p) ∧ W.cell? ⟨w3.heap.size, 1, none⟩ = some (.slice A3 n3 c3) ∧ W.cell? ⟨w3.heap.size, 2, none⟩ = some (.slice Aa na ca)) (first | with_reducible exact hT3 | with_reducible exact hT2 | with_reducible exact hT1 | with_reducible exact hT0 | fail) (first
    | (go_at_call 16; have tk := tok3; clear tok3 tk; have tok4 : True := trivial; refine (inv_is _ x _ _ XD.out (HXI.out ▸ IA.out) (by have := HF.out.d; omega) (by have := HF.out.i; omega)).mono ?_; rintro e w8 ⟨A8, n8, c8, A9, n9, c9, rfl, hr, hr2, hb⟩; have U1 := Lib.hid hr; have U2 := Lib.hid hr2; have L := Lib.hid (L.out.below hb); have IA := Lib.hid (IA.out.below hb); have IB := Lib.hid (IB.out.below hb); have SA := Lib.hid (SA.out.below hb); have SB := Lib.hid (SB.out.below hb); have XD := Lib.hid (XD.out.below hb); have X := Lib.hid (X.out.below hb); have ONE := Lib.hid (ONE.out.below hb); have B := Lib.hid (B.out.trans (hb.mono B.out.size)); have hT1 : w8.cell? ⟨w3.heap.size, 0, none⟩ = some (.int .i64 x.p) ∧ w8.cell? ⟨w3.heap.size, 1, none⟩ = some (.slice A3 n3 c3) ∧ w8.cell? ⟨w3.heap.size, 2, none⟩ = some (.slice Aa na ca) := ⟨X.out.cell 0, X.out.cell 1, X.out.cell 2⟩; clear hr hr2 hb)
    | (go_at_call 16; have tk := tok4; clear tok4 tk; have tok5 : True := trivial; refine (inv_is _ x.inv _ _ U1.out U2.out (by have := HF.out.i; show x.i.length ≤ _; omega) (by have := HF.out.d; show x.d.length ≤ _; omega)).mono ?_; rintro e w9 ⟨A16, n16, c16, A17, n17, c17, rfl, hr, hr2, hb⟩; have T1 := Lib.hid hr; have T2 := Lib.hid hr2; have L := Lib.hid (L.out.below hb); have IA := Lib.hid (IA.out.below hb); have IB := Lib.hid (IB.out.below hb); have SA := Lib.hid (SA.out.below hb); have SB := Lib.hid (SB.out.below hb); have XD := Lib.hid (XD.out.below hb); have X := Lib.hid (X.out.below hb); have ONE := Lib.hid (ONE.out.below hb); have B := Lib.hid (B.out.trans (hb.mono B.out.size)); have hT2 : w9.cell? ⟨w3.heap.size, 0, none⟩ = some (.int .i64 x.p) ∧ w9.cell? ⟨w3.heap.size, 1, none⟩ = some (.slice A3 n3 c3) ∧ w9.cell? ⟨w3.heap.size, 2, none⟩ = some (.slice Aa na ca) := ⟨X.out.cell 0, X.out.cell 1, X.out.cell 2⟩; clear hr hr2 hb)
    | (go_at_call 15; have tk := tok5; clear tok5 tk; have tok6 : True := trivial; refine (same_is _ x _ _ _ _ T1.out T2.out XD.out (HXI.out ▸ IA.out) (by have := HF.out.d; omega) (by have := HF.out.i; omega)).mono ?_; rintro e w10 ⟨rfl, hb⟩; have L := Lib.hid (L.out.below hb); have IA := Lib.hid (IA.out.below hb); have IB := Lib.hid (IB.out.below hb); have SA := Lib.hid (SA.out.below hb); have SB := Lib.hid (SB.out.below hb); have XD := Lib.hid (XD.out.below hb); have X := Lib.hid (X.out.below hb); have ONE := Lib.hid (ONE.out.below hb); have B := Lib.hid (B.out.trans (hb.mono B.out.size)); have hT3 : w10.cell? ⟨w3.heap.size, 0, none⟩ = some (.int .i64 x.p) ∧ w10.cell? ⟨w3.heap.size, 1, none⟩ = some (.slice A3 n3 c3) ∧ w10.cell? ⟨w3.heap.size, 2, none⟩ = some (.slice Aa na ca) := ⟨X.out.cell 0, X.out.cell 1, X.out.cell 2⟩; have sb0 := SB.out.cell 0; have sb1 := SB.out.cell 1; have sb2 := SB.out.cell 2; have sb3 := SB.out.cell 3; have sb4 := SB.out.cell 4; clear hb))
  all_goals
    go_wp2_with (first
      | (go_at_call 41; have tk := tok6; clear tok6 tk; have tok7 : True := trivial; refine (step_is _ one b _ _ ONE.out IB.out (by have := HONE.out.1; omega) HG.out.eq).mono ?_; rintro e w11 ⟨A11, n11, c11, rfl, hr, hb⟩; have YD := Lib.hid hr; have L := Lib.hid (L.out.below hb); have IA := Lib.hid (IA.out.below hb); have IB := Lib.hid (IB.out.below hb); have SA := Lib.hid (SA.out.below hb); have SB := Lib.hid (SB.out.below hb); have XD := Lib.hid (XD.out.below hb); have X := Lib.hid (X.out.below hb); have ONE := Lib.hid (ONE.out.below hb); have B := Lib.hid (B.out.trans (hb.mono B.out.size)); have ba := bel_alloc (Below.refl w11.heap.size w11) (.cells #[.int .i64 y.p, .slice A11 n11 c11, .slice Ab nb cb] 24); have L := Lib.hid (L.out.below ba); have IA := Lib.hid (IA.out.below ba); have IB := Lib.hid (IB.out.below ba); have SA := Lib.hid (SA.out.below ba); have SB := Lib.hid (SB.out.below ba); have XD := Lib.hid (XD.out.below ba); have X := Lib.hid (X.out.below ba); have ONE := Lib.hid (ONE.out.below ba); have YD := Lib.hid (YD.out.below ba); have B := Lib.hid (B.out.trans (ba.mono B.out.size)); have Y : Hid (EBox (w11.alloc (.cells #[.int .i64 y.p, .slice A11 n11 c11, .slice Ab nb cb] 24)) w11.heap.size #[.int .i64 y.p, .slice A11 n11 c11, .slice Ab nb cb]) := Lib.hid (alloc_new _ _); have y0 := Y.out.cell 0; have y1 := Y.out.cell 1; have y2 := Y.out.cell 2; have x0 := X.out.cell 0; have x1 := X.out.cell 1; have x2 := X.out.cell 2; clear hr hb ba)
      | (go_at_call 9; have tk := tok7; clear tok7 tk; have tok8 : True := trivial; refine (apply_is _ one y _ _ _ ONE.out YD.out (HYI.out ▸ IB.out) (by have := HONE.out.1; omega) (by have := HG.out.d; omega) (by have := HG.out.i; omega) HE2.out.1 HE2.out.2).mono ?_; rintro e w12 ⟨A12, n12, c12, rfl, hr, hb⟩; have TWO := Lib.hid hr; have L := Lib.hid (L.out.below hb); have IA := Lib.hid (IA.out.below hb); have IB := Lib.hid (IB.out.below hb); have SA := Lib.hid (SA.out.below hb); have SB := Lib.hid (SB.out.below hb); have XD := Lib.hid (XD.out.below hb); have X := Lib.hid (X.out.below hb); have ONE := Lib.hid (ONE.out.below hb); have YD := Lib.hid (YD.out.below hb); have Y := Lib.hid (Y.out.below hb); have B := Lib.hid (B.out.trans (hb.mono B.out.size)); have x0 := X.out.cell 0; have x1 := X.out.cell 1; have x2 := X.out.cell 2; have y0 := Y.out.cell 0; have y1 := Y.out.cell 1; have y2 := Y.out.cell 2; clear hr hb)
      | (go_at_call 11; have tk := tok8; clear tok8 tk; have tok9 : True := trivial; refine (join_is _ x y _ _ _ _ XD.out (HXI.out ▸ IA.out) YD.out (HYI.out ▸ IB.out) HJS.out.1 HJS.out.2 HF.out.p HG.out.p HJ.out.1 HJ.out.2).mono ?_; rintro e w13 ⟨A13, n13, c13, A14, n14, c14, rfl, hr, hr2, hb⟩; have ZD := Lib.hid hr; have ZI := Lib.hid hr2; have L := Lib.hid (L.out.below hb); have IA := Lib.hid (IA.out.below hb); have IB := Lib.hid (IB.out.below hb); have SA := Lib.hid (SA.out.below hb); have SB := Lib.hid (SB.out.below hb); have XD := Lib.hid (XD.out.below hb); have X := Lib.hid (X.out.below hb); have ONE := Lib.hid (ONE.out.below hb); have YD := Lib.hid (YD.out.below hb); have Y := Lib.hid (Y.out.below hb); have TWO := Lib.hid (TWO.out.below hb); have B := Lib.hid (B.out.trans (hb.mono B.out.size)); have bz := bel_alloc (Below.refl w13.heap.size w13) (.cells #[.int .i64 z.p, .slice A13 n13 c13, .slice A14 n14 c14] 24); have L := Lib.hid (L.out.below bz); have IA := Lib.hid (IA.out.below bz); have IB := Lib.hid (IB.out.below bz); have SA := Lib.hid (SA.out.below bz); have SB := Lib.hid (SB.out.below bz); have XD := Lib.hid (XD.out.below bz); have X := Lib.hid (X.out.below bz); have ONE := Lib.hid (ONE.out.below bz); have YD := Lib.hid (YD.out.below bz); have Y := Lib.hid (Y.out.below bz); have TWO := Lib.hid (TWO.out.below bz); have ZD := Lib.hid (ZD.out.below bz); have ZI := Lib.hid (ZI.out.below bz); have B := Lib.hid (B.out.trans (bz.mono B.out.size)); have Z : Hid (EBox (w13.alloc (.cells #[.int .i64 z.p, .slice A13 n13 c13, .slice A14 n14 c14] 24)) w13.heap.size #[.int .i64 z.p, .slice A13 n13 c13, .slice A14 n14 c14]) := Lib.hid (alloc_new _ _); have z0 := Z.out.cell 0; have z1 := Z.out.cell 1; have z2 := Z.out.cell 2; clear hr hr2 hb bz))
    go_ret
    exact ⟨rfl, B.out⟩
set_option maxRecDepth 1000000 in
set_option maxHeartbeats 8000000 in
theorem inv_bn (w : World) (l : List Int) (a b : StepP) (x y : Ed) (Al Aa Ab : Option Addr) (cl na ca nb cb : Nat) (hl : Holds1 w (.slice Al l.length cl) (runeVals l)) (hia : Holds1 w (.slice Aa na ca) (runeVals a.ins)) (hib : Holds1 w (.slice Ab nb cb) (runeVals b.ins)) (hF : InvF l a x) (hxi : x.i = a.ins) (h1 : apErr l x = 0) (hF2 : InvF (apLine l x) b y) (hyi : y.i = b.ins) (hsm : ¬ l.length ≤ 1024) (h2 : apErr (apLine l x) y = 0) (h3 : joinB x y = false) :
    Calls Try.prog 6 #[.slice Al l.length cl, .agg #[.int .i64 a.at', .int .i64 a.many, .slice Aa na ca, .bool a.beg, .bool a.en], .agg #[.int .i64 b.at', .int .i64 b.many, .slice Ab nb cb, .bool b.beg, .bool b.en]] w fun e w' => e = .returned (.bool true) ∧ Below w.heap.size w w' := by
  obtain ⟨w1, hw1⟩ : ∃ w1, w1 = (w.alloc (.cells #[.int .i64 a.at', .int .i64 a.many, .slice Aa na ca, .bool a.beg, .bool a.en] 59)).alloc (.cells #[.int .i64 b.at', .int .i64 b.many, .slice Ab nb cb, .bool b.beg, .bool b.en] 59) := ⟨_, rfl⟩
  have b0 : Below w.heap.size w (w.alloc (.cells #[.int .i64 a.at', .int .i64 a.many, .slice Aa na ca, .bool a.beg, .bool a.en] 59)) := (Below.refl _ _).alloc (Nat.le_refl _) _
  have b1' : Below (w.alloc (.cells #[.int .i64 a.at', .int .i64 a.many, .slice Aa na ca, .bool a.beg, .bool a.en] 59)).heap.size (w.alloc (.cells #[.int .i64 a.at', .int .i64 a.many, .slice Aa na ca, .bool a.beg, .bool a.en] 59)) w1 := by rw [hw1]; exact (Below.refl _ _).alloc (Nat.le_refl _) _
  have b1 : Below w.heap.size w w1 := b0.trans (b1'.mono b0.size)
  have SA : Hid (SBox w1 w.heap.size #[.int .i64 a.at', .int .i64 a.many, .slice Aa na ca, .bool a.beg, .bool a.en]) := Lib.hid (SBox.below (alloc_new _ _) b1')
  have SB : Hid (SBox w1 (w.heap.size + 1) #[.int .i64 b.at', .int .i64 b.many, .slice Ab nb cb, .bool b.beg, .bool b.en]) := Lib.hid (by
    have := alloc_new (w.alloc (.cells #[.int .i64 a.at', .int .i64 a.many, .slice Aa na ca, .bool a.beg, .bool a.en] 59)) (.cells #[.int .i64 b.at', .int .i64 b.many, .slice Ab nb cb, .bool b.beg, .bool b.en] 59)
    rw [← hw1] at this
    rw [show (w.alloc (.cells #[.int .i64 a.at', .int .i64 a.many, .slice Aa na ca, .bool a.beg, .bool a.en] 59)).heap.size = w.heap.size + 1 by simp] at this
    exact this)
  have HW1 := Lib.hid hw1
  have B := Lib.hid b1
  have L := Lib.hid (hl.below b1)
  have IA := Lib.hid (hia.below b1)
  have IB := Lib.hid (hib.below b1)
  have HF := Lib.hid hF
  have HXI := Lib.hid hxi.symm
  have tok1 : True := trivial
  obtain ⟨z, hz⟩ : ∃ z, z = joinE x y := ⟨_, rfl⟩
  obtain ⟨hz1, hz2, hz3, hz4⟩ := apErr_zero h1
  have HG := Lib.hid hF2
  have HYI := Lib.hid hyi.symm
  have HE1 : Hid (apErr l x = 0 ∧ apRes l x = apLine l x) := Lib.hid ⟨h1, hz4⟩
  have i1 : ((l.length : Int) ≤ 1024) = False := eq_false (by omega)
  have i2 : (l.length ≤ 1024) = False := eq_false hsm
  have hxil : x.i.length ≤ 1024 := by
    obtain ⟨k, _, hk2, _⟩ := stands_nat hz1
    omega
  have hyd : y.d.length ≤ 1024 := by
    obtain ⟨k, _, hk2, _⟩ := stands_nat (l := apLine l x) (e := y) (by rw [hF2.eq]; exact stands_step _ _)
    omega
  have HJS : Hid (x.d.length + y.d.length ≤ 35184372088832 ∧ x.i.length + y.i.length ≤ 35184372088832) := Lib.hid ⟨by have := hF.d; omega, by have := hF2.i; omega⟩
  have HE2 : Hid (apErr (apLine l x) y = 0 ∧ apRes (apLine l x) y = apLine (apLine l x) y) := Lib.hid ⟨h2, (apErr_zero h2).2.2.2⟩
  have HJ : Hid (joinE x y = z ∧ joinB x y = false) := Lib.hid ⟨hz.symm, h3⟩
  have HONE : Hid ((apLine l x).length ≤ 1024 ∧ True) := Lib.hid ⟨hz3, trivial⟩
  clear b0 b1' b1 hw1 hl hia hib hF hxi h1 hF2 hyi hsm h2 hz1 hz2 hz3 hz4 hz hxil hyd h3
  generalize apLine (apLine l x) y = two at *
  generalize apLine l x = one at *
  generalize hn : l.length = n at *
  clear hn
  go_enter Try.func6, Try.ntmps6
  go_wp2_with fail
  rw [← HW1.out]
  go_wp2_with (first
    | (go_at_call 13; refine (begun_any _).mono ?_; rintro e w2 ⟨rfl, hb⟩; have L := Lib.hid (L.out.below hb); have IA := Lib.hid (IA.out.below hb); have IB := Lib.hid (IB.out.below hb); have SA := Lib.hid (SA.out.below hb); have SB := Lib.hid (SB.out.below hb); have B := Lib.hid (B.out.trans (hb.mono B.out.size)); have sa0 := SA.out.cell 0; have sa1 := SA.out.cell 1; have sa2 := SA.out.cell 2; have sa3 := SA.out.cell 3; have sa4 := SA.out.cell 4; clear hb)
    | (go_at_call 41; have tk := tok1; clear tok1 tk; have tok2 : True := trivial; refine (step_is _ l a _ _ L.out IA.out (by have := HF.out.l; omega) HF.out.eq).mono ?_; rintro e w3 ⟨A3, n3, c3, rfl, hr, hb⟩; have XD := Lib.hid hr; have L := Lib.hid (L.out.below hb); have IA := Lib.hid (IA.out.below hb); have IB := Lib.hid (IB.out.below hb); have SA := Lib.hid (SA.out.below hb); have SB := Lib.hid (SB.out.below hb); have B := Lib.hid (B.out.trans (hb.mono B.out.size)); have ba := bel_alloc (Below.refl w3.heap.size w3) (.cells #[.int .i64 x.p, .slice A3 n3 c3, .slice Aa na ca] 24); have L := Lib.hid (L.out.below ba); have IA := Lib.hid (IA.out.below ba); have IB := Lib.hid (IB.out.below ba); have SA := Lib.hid (SA.out.below ba); have SB := Lib.hid (SB.out.below ba); have XD := Lib.hid (XD.out.below ba); have B := Lib.hid (B.out.trans (ba.mono B.out.size)); have X : Hid (EBox (w3.alloc (.cells #[.int .i64 x.p, .slice A3 n3 c3, .slice Aa na ca] 24)) w3.heap.size #[.int .i64 x.p, .slice A3 n3 c3, .slice Aa na ca]) := Lib.hid (alloc_new _ _); have x0 := X.out.cell 0; have x1 := X.out.cell 1; have x2 := X.out.cell 2; clear hr hb ba)
    | (go_at_call 9; have tk := tok2; clear tok2 tk; have tok3 : True := trivial; refine (apply_is _ l x _ _ _ L.out XD.out (HXI.out ▸ IA.out) (by have := HF.out.l; omega) (by have := HF.out.d; omega) (by have := HF.out.i; omega) HE1.out.1 HE1.out.2).mono ?_; rintro e w4 ⟨A4, n4, c4, rfl, hr, hb⟩; have ONE := Lib.hid hr; have L := Lib.hid (L.out.below hb); have IA := Lib.hid (IA.out.below hb); have IB := Lib.hid (IB.out.below hb); have SA := Lib.hid (SA.out.below hb); have SB := Lib.hid (SB.out.below hb); have XD := Lib.hid (XD.out.below hb); have X := Lib.hid (X.out.below hb); have B := Lib.hid (B.out.trans (hb.mono B.out.size)); have x0 := X.out.cell 0; have x1 := X.out.cell 1; have x2 := X.out.cell 2; clear hr hb))
  have bd : Below w4.heap.size w4 w4.drew := (Below.refl _ _).drew
  have L := Lib.hid (L.out.below bd)
  have IA := Lib.hid (IA.out.below bd)
  have IB := Lib.hid (IB.out.below bd)
  have SA := Lib.hid (SA.out.below bd)
  have SB := Lib.hid (SB.out.below bd)
  have XD := Lib.hid (XD.out.below bd)
  have X := Lib.hid (X.out.below bd)
  have ONE := Lib.hid (ONE.out.below bd)
  have B := Lib.hid (B.out.trans (bd.mono B.out.size))
  have hT0 : w4.drew.cell? ⟨w3.heap.size, 0, none⟩ = some (.int .i64 x.p) ∧ w4.drew.cell? ⟨w3.heap.size, 1, none⟩ = some (.slice A3 n3 c3) ∧ w4.drew.cell? ⟨w3.heap.size, 2, none⟩ = some (.slice Aa na ca) := ⟨X.out.cell 0, X.out.cell 1, X.out.cell 2⟩
  go_region_held3 (fun W => W.cell? ⟨w3.heap.size, 0, none⟩ = some (.int .i64 x.p) ∧ W.cell? ⟨w3.heap.size, 1, none⟩ = some (.slice A3 n3 c3) ∧ W.cell? ⟨w3.heap.size, 2, none⟩ = some (.slice Aa na ca)) (first | with_reducible exact hT3 | with_reducible exact hT2 | with_reducible exact hT1 | with_reducible exact hT0 | fail) (first
    | (go_at_call 16; have tk := tok3; clear tok3 tk; have tok4 : True := trivial; refine (inv_is _ x _ _ XD.out (HXI.out ▸ IA.out) (by have := HF.out.d; omega) (by have := HF.out.i; omega)).mono ?_; rintro e w8 ⟨A8, n8, c8, A9, n9, c9, rfl, hr, hr2, hb⟩; have U1 := Lib.hid hr; have U2 := Lib.hid hr2; have L := Lib.hid (L.out.below hb); have IA := Lib.hid (IA.out.below hb); have IB := Lib.hid (IB.out.below hb); have SA := Lib.hid (SA.out.below hb); have SB := Lib.hid (SB.out.below hb); have XD := Lib.hid (XD.out.below hb); have X := Lib.hid (X.out.below hb); have ONE := Lib.hid (ONE.out.below hb); have B := Lib.hid (B.out.trans (hb.mono B.out.size)); have hT1 : w8.cell? ⟨w3.heap.size, 0, none⟩ = some (.int .i64 x.p) ∧ w8.cell? ⟨w3.heap.size, 1, none⟩ = some (.slice A3 n3 c3) ∧ w8.cell? ⟨w3.heap.size, 2, none⟩ = some (.slice Aa na ca) := ⟨X.out.cell 0, X.out.cell 1, X.out.cell 2⟩; clear hr hr2 hb)
    | (go_at_call 16; have tk := tok4; clear tok4 tk; have tok5 : True := trivial; refine (inv_is _ x.inv _ _ U1.out U2.out (by have := HF.out.i; show x.i.length ≤ _; omega) (by have := HF.out.d; show x.d.length ≤ _; omega)).mono ?_; rintro e w9 ⟨A16, n16, c16, A17, n17, c17, rfl, hr, hr2, hb⟩; have T1 := Lib.hid hr; have T2 := Lib.hid hr2; have L := Lib.hid (L.out.below hb); have IA := Lib.hid (IA.out.below hb); have IB := Lib.hid (IB.out.below hb); have SA := Lib.hid (SA.out.below hb); have SB := Lib.hid (SB.out.below hb); have XD := Lib.hid (XD.out.below hb); have X := Lib.hid (X.out.below hb); have ONE := Lib.hid (ONE.out.below hb); have B := Lib.hid (B.out.trans (hb.mono B.out.size)); have hT2 : w9.cell? ⟨w3.heap.size, 0, none⟩ = some (.int .i64 x.p) ∧ w9.cell? ⟨w3.heap.size, 1, none⟩ = some (.slice A3 n3 c3) ∧ w9.cell? ⟨w3.heap.size, 2, none⟩ = some (.slice Aa na ca) := ⟨X.out.cell 0, X.out.cell 1, X.out.cell 2⟩; clear hr hr2 hb)
    | (go_at_call 15; have tk := tok5; clear tok5 tk; have tok6 : True := trivial; refine (same_is _ x _ _ _ _ T1.out T2.out XD.out (HXI.out ▸ IA.out) (by have := HF.out.d; omega) (by have := HF.out.i; omega)).mono ?_; rintro e w10 ⟨rfl, hb⟩; have L := Lib.hid (L.out.below hb); have IA := Lib.hid (IA.out.below hb); have IB := Lib.hid (IB.out.below hb); have SA := Lib.hid (SA.out.below hb); have SB := Lib.hid (SB.out.below hb); have XD := Lib.hid (XD.out.below hb); have X := Lib.hid (X.out.below hb); have ONE := Lib.hid (ONE.out.below hb); have B := Lib.hid (B.out.trans (hb.mono B.out.size)); have hT3 : w10.cell? ⟨w3.heap.size, 0, none⟩ = some (.int .i64 x.p) ∧ w10.cell? ⟨w3.heap.size, 1, none⟩ = some (.slice A3 n3 c3) ∧ w10.cell? ⟨w3.heap.size, 2, none⟩ = some (.slice Aa na ca) := ⟨X.out.cell 0, X.out.cell 1, X.out.cell 2⟩; have sb0 := SB.out.cell 0; have sb1 := SB.out.cell 1; have sb2 := SB.out.cell 2; have sb3 := SB.out.cell 3; have sb4 := SB.out.cell 4; clear hb))
  all_goals
    go_wp2_with (first
      | (go_at_call 41; have tk := tok6; clear tok6 tk; have tok7 : True := trivial; refine (step_is _ one b _ _ ONE.out IB.out (by have := HONE.out.1; omega) HG.out.eq).mono ?_; rintro e w11 ⟨A11, n11, c11, rfl, hr, hb⟩; have YD := Lib.hid hr; have L := Lib.hid (L.out.below hb); have IA := Lib.hid (IA.out.below hb); have IB := Lib.hid (IB.out.below hb); have SA := Lib.hid (SA.out.below hb); have SB := Lib.hid (SB.out.below hb); have XD := Lib.hid (XD.out.below hb); have X := Lib.hid (X.out.below hb); have ONE := Lib.hid (ONE.out.below hb); have B := Lib.hid (B.out.trans (hb.mono B.out.size)); have ba := bel_alloc (Below.refl w11.heap.size w11) (.cells #[.int .i64 y.p, .slice A11 n11 c11, .slice Ab nb cb] 24); have L := Lib.hid (L.out.below ba); have IA := Lib.hid (IA.out.below ba); have IB := Lib.hid (IB.out.below ba); have SA := Lib.hid (SA.out.below ba); have SB := Lib.hid (SB.out.below ba); have XD := Lib.hid (XD.out.below ba); have X := Lib.hid (X.out.below ba); have ONE := Lib.hid (ONE.out.below ba); have YD := Lib.hid (YD.out.below ba); have B := Lib.hid (B.out.trans (ba.mono B.out.size)); have Y : Hid (EBox (w11.alloc (.cells #[.int .i64 y.p, .slice A11 n11 c11, .slice Ab nb cb] 24)) w11.heap.size #[.int .i64 y.p, .slice A11 n11 c11, .slice Ab nb cb]) := Lib.hid (alloc_new _ _); have y0 := Y.out.cell 0; have y1 := Y.out.cell 1; have y2 := Y.out.cell 2; have x0 := X.out.cell 0; have x1 := X.out.cell 1; have x2 := X.out.cell 2; clear hr hb ba)
      | (go_at_call 9; have tk := tok7; clear tok7 tk; have tok8 : True := trivial; refine (apply_is _ one y _ _ _ ONE.out YD.out (HYI.out ▸ IB.out) (by have := HONE.out.1; omega) (by have := HG.out.d; omega) (by have := HG.out.i; omega) HE2.out.1 HE2.out.2).mono ?_; rintro e w12 ⟨A12, n12, c12, rfl, hr, hb⟩; have TWO := Lib.hid hr; have L := Lib.hid (L.out.below hb); have IA := Lib.hid (IA.out.below hb); have IB := Lib.hid (IB.out.below hb); have SA := Lib.hid (SA.out.below hb); have SB := Lib.hid (SB.out.below hb); have XD := Lib.hid (XD.out.below hb); have X := Lib.hid (X.out.below hb); have ONE := Lib.hid (ONE.out.below hb); have YD := Lib.hid (YD.out.below hb); have Y := Lib.hid (Y.out.below hb); have B := Lib.hid (B.out.trans (hb.mono B.out.size)); have x0 := X.out.cell 0; have x1 := X.out.cell 1; have x2 := X.out.cell 2; have y0 := Y.out.cell 0; have y1 := Y.out.cell 1; have y2 := Y.out.cell 2; clear hr hb)
      | (go_at_call 11; have tk := tok8; clear tok8 tk; have tok9 : True := trivial; refine (join_is _ x y _ _ _ _ XD.out (HXI.out ▸ IA.out) YD.out (HYI.out ▸ IB.out) HJS.out.1 HJS.out.2 HF.out.p HG.out.p HJ.out.1 HJ.out.2).mono ?_; rintro e w13 ⟨A13, n13, c13, A14, n14, c14, rfl, hr, hr2, hb⟩; have ZD := Lib.hid hr; have ZI := Lib.hid hr2; have L := Lib.hid (L.out.below hb); have IA := Lib.hid (IA.out.below hb); have IB := Lib.hid (IB.out.below hb); have SA := Lib.hid (SA.out.below hb); have SB := Lib.hid (SB.out.below hb); have XD := Lib.hid (XD.out.below hb); have X := Lib.hid (X.out.below hb); have ONE := Lib.hid (ONE.out.below hb); have YD := Lib.hid (YD.out.below hb); have Y := Lib.hid (Y.out.below hb); have TWO := Lib.hid (TWO.out.below hb); have B := Lib.hid (B.out.trans (hb.mono B.out.size)); have bz := bel_alloc (Below.refl w13.heap.size w13) (.cells #[.int .i64 z.p, .slice A13 n13 c13, .slice A14 n14 c14] 24); have L := Lib.hid (L.out.below bz); have IA := Lib.hid (IA.out.below bz); have IB := Lib.hid (IB.out.below bz); have SA := Lib.hid (SA.out.below bz); have SB := Lib.hid (SB.out.below bz); have XD := Lib.hid (XD.out.below bz); have X := Lib.hid (X.out.below bz); have ONE := Lib.hid (ONE.out.below bz); have YD := Lib.hid (YD.out.below bz); have Y := Lib.hid (Y.out.below bz); have TWO := Lib.hid (TWO.out.below bz); have ZD := Lib.hid (ZD.out.below bz); have ZI := Lib.hid (ZI.out.below bz); have B := Lib.hid (B.out.trans (bz.mono B.out.size)); have Z : Hid (EBox (w13.alloc (.cells #[.int .i64 z.p, .slice A13 n13 c13, .slice A14 n14 c14] 24)) w13.heap.size #[.int .i64 z.p, .slice A13 n13 c13, .slice A14 n14 c14]) := Lib.hid (alloc_new _ _); have z0 := Z.out.cell 0; have z1 := Z.out.cell 1; have z2 := Z.out.cell 2; clear hr hr2 hb bz))
    go_ret
    exact ⟨rfl, B.out⟩
set_option maxRecDepth 1000000 in
set_option maxHeartbeats 8000000 in
theorem inv_bj (w : World) (l : List Int) (a b : StepP) (x y : Ed) (Al Aa Ab : Option Addr) (cl na ca nb cb : Nat) (hl : Holds1 w (.slice Al l.length cl) (runeVals l)) (hia : Holds1 w (.slice Aa na ca) (runeVals a.ins)) (hib : Holds1 w (.slice Ab nb cb) (runeVals b.ins)) (hF : InvF l a x) (hxi : x.i = a.ins) (h1 : apErr l x = 0) (hF2 : InvF (apLine l x) b y) (hyi : y.i = b.ins) (hsm : ¬ l.length ≤ 1024) (h2 : apErr (apLine l x) y = 0) (h3 : joinB x y = true) :
    Calls Try.prog 6 #[.slice Al l.length cl, .agg #[.int .i64 a.at', .int .i64 a.many, .slice Aa na ca, .bool a.beg, .bool a.en], .agg #[.int .i64 b.at', .int .i64 b.many, .slice Ab nb cb, .bool b.beg, .bool b.en]] w fun e w' => e = .returned (.bool true) ∧ Below w.heap.size w w' := by
  obtain ⟨w1, hw1⟩ : ∃ w1, w1 = (w.alloc (.cells #[.int .i64 a.at', .int .i64 a.many, .slice Aa na ca, .bool a.beg, .bool a.en] 59)).alloc (.cells #[.int .i64 b.at', .int .i64 b.many, .slice Ab nb cb, .bool b.beg, .bool b.en] 59) := ⟨_, rfl⟩
  have b0 : Below w.heap.size w (w.alloc (.cells #[.int .i64 a.at', .int .i64 a.many, .slice Aa na ca, .bool a.beg, .bool a.en] 59)) := (Below.refl _ _).alloc (Nat.le_refl _) _
  have b1' : Below (w.alloc (.cells #[.int .i64 a.at', .int .i64 a.many, .slice Aa na ca, .bool a.beg, .bool a.en] 59)).heap.size (w.alloc (.cells #[.int .i64 a.at', .int .i64 a.many, .slice Aa na ca, .bool a.beg, .bool a.en] 59)) w1 := by rw [hw1]; exact (Below.refl _ _).alloc (Nat.le_refl _) _
  have b1 : Below w.heap.size w w1 := b0.trans (b1'.mono b0.size)
  have SA : Hid (SBox w1 w.heap.size #[.int .i64 a.at', .int .i64 a.many, .slice Aa na ca, .bool a.beg, .bool a.en]) := Lib.hid (SBox.below (alloc_new _ _) b1')
  have SB : Hid (SBox w1 (w.heap.size + 1) #[.int .i64 b.at', .int .i64 b.many, .slice Ab nb cb, .bool b.beg, .bool b.en]) := Lib.hid (by
    have := alloc_new (w.alloc (.cells #[.int .i64 a.at', .int .i64 a.many, .slice Aa na ca, .bool a.beg, .bool a.en] 59)) (.cells #[.int .i64 b.at', .int .i64 b.many, .slice Ab nb cb, .bool b.beg, .bool b.en] 59)
    rw [← hw1] at this
    rw [show (w.alloc (.cells #[.int .i64 a.at', .int .i64 a.many, .slice Aa na ca, .bool a.beg, .bool a.en] 59)).heap.size = w.heap.size + 1 by simp] at this
    exact this)
  have HW1 := Lib.hid hw1
  have B := Lib.hid b1
  have L := Lib.hid (hl.below b1)
  have IA := Lib.hid (hia.below b1)
  have IB := Lib.hid (hib.below b1)
  have HF := Lib.hid hF
  have HXI := Lib.hid hxi.symm
  have tok1 : True := trivial
  obtain ⟨z, hz⟩ : ∃ z, z = joinE x y := ⟨_, rfl⟩
  obtain ⟨hz1, hz2, hz3, hz4⟩ := apErr_zero h1
  have HG := Lib.hid hF2
  have HYI := Lib.hid hyi.symm
  have HE1 : Hid (apErr l x = 0 ∧ apRes l x = apLine l x) := Lib.hid ⟨h1, hz4⟩
  have i1 : ((l.length : Int) ≤ 1024) = False := eq_false (by omega)
  have i2 : (l.length ≤ 1024) = False := eq_false hsm
  have hxil : x.i.length ≤ 1024 := by
    obtain ⟨k, _, hk2, _⟩ := stands_nat hz1
    omega
  have hyd : y.d.length ≤ 1024 := by
    obtain ⟨k, _, hk2, _⟩ := stands_nat (l := apLine l x) (e := y) (by rw [hF2.eq]; exact stands_step _ _)
    omega
  have HJS : Hid (x.d.length + y.d.length ≤ 35184372088832 ∧ x.i.length + y.i.length ≤ 35184372088832) := Lib.hid ⟨by have := hF.d; omega, by have := hF2.i; omega⟩
  have HE2 : Hid (apErr (apLine l x) y = 0 ∧ apRes (apLine l x) y = apLine (apLine l x) y) := Lib.hid ⟨h2, (apErr_zero h2).2.2.2⟩
  have hjb := join_both h1 h2 h3
  rw [← hz] at hjb
  have HE3 := Lib.hid hjb
  clear hjb
  have HTW := Lib.hid (apErr_zero h2).2.2.1
  have HZ : Hid (z.d.length ≤ 35184372088832 ∧ z.i.length ≤ 35184372088832) := Lib.hid (by
    have := HJS.out
    rw [hz]
    unfold joinE
    split
    · exact ⟨by show x.d.length ≤ _; omega, by show (x.i ++ y.i).length ≤ _; rw [List.length_append]; omega⟩
    · split
      · exact ⟨by show (y.d ++ x.d).length ≤ _; rw [List.length_append]; omega, by show ([] : List Int).length ≤ _; simp⟩
      · exact ⟨by show ([] : List Int).length ≤ _; simp, by show ([] : List Int).length ≤ _; simp⟩)
  have HJ : Hid (joinE x y = z ∧ joinB x y = true) := Lib.hid ⟨hz.symm, h3⟩
  have HONE : Hid ((apLine l x).length ≤ 1024 ∧ True) := Lib.hid ⟨hz3, trivial⟩
  clear b0 b1' b1 hw1 hl hia hib hF hxi h1 hF2 hyi hsm h2 hz1 hz2 hz3 hz4 hz hxil hyd h3
  generalize apLine (apLine l x) y = two at *
  generalize apLine l x = one at *
  generalize hn : l.length = n at *
  clear hn
  go_enter Try.func6, Try.ntmps6
  go_wp2_with fail
  rw [← HW1.out]
  go_wp2_with (first
    | (go_at_call 13; refine (begun_any _).mono ?_; rintro e w2 ⟨rfl, hb⟩; have L := Lib.hid (L.out.below hb); have IA := Lib.hid (IA.out.below hb); have IB := Lib.hid (IB.out.below hb); have SA := Lib.hid (SA.out.below hb); have SB := Lib.hid (SB.out.below hb); have B := Lib.hid (B.out.trans (hb.mono B.out.size)); have sa0 := SA.out.cell 0; have sa1 := SA.out.cell 1; have sa2 := SA.out.cell 2; have sa3 := SA.out.cell 3; have sa4 := SA.out.cell 4; clear hb)
    | (go_at_call 41; have tk := tok1; clear tok1 tk; have tok2 : True := trivial; refine (step_is _ l a _ _ L.out IA.out (by have := HF.out.l; omega) HF.out.eq).mono ?_; rintro e w3 ⟨A3, n3, c3, rfl, hr, hb⟩; have XD := Lib.hid hr; have L := Lib.hid (L.out.below hb); have IA := Lib.hid (IA.out.below hb); have IB := Lib.hid (IB.out.below hb); have SA := Lib.hid (SA.out.below hb); have SB := Lib.hid (SB.out.below hb); have B := Lib.hid (B.out.trans (hb.mono B.out.size)); have ba := bel_alloc (Below.refl w3.heap.size w3) (.cells #[.int .i64 x.p, .slice A3 n3 c3, .slice Aa na ca] 24); have L := Lib.hid (L.out.below ba); have IA := Lib.hid (IA.out.below ba); have IB := Lib.hid (IB.out.below ba); have SA := Lib.hid (SA.out.below ba); have SB := Lib.hid (SB.out.below ba); have XD := Lib.hid (XD.out.below ba); have B := Lib.hid (B.out.trans (ba.mono B.out.size)); have X : Hid (EBox (w3.alloc (.cells #[.int .i64 x.p, .slice A3 n3 c3, .slice Aa na ca] 24)) w3.heap.size #[.int .i64 x.p, .slice A3 n3 c3, .slice Aa na ca]) := Lib.hid (alloc_new _ _); have x0 := X.out.cell 0; have x1 := X.out.cell 1; have x2 := X.out.cell 2; clear hr hb ba)
    | (go_at_call 9; have tk := tok2; clear tok2 tk; have tok3 : True := trivial; refine (apply_is _ l x _ _ _ L.out XD.out (HXI.out ▸ IA.out) (by have := HF.out.l; omega) (by have := HF.out.d; omega) (by have := HF.out.i; omega) HE1.out.1 HE1.out.2).mono ?_; rintro e w4 ⟨A4, n4, c4, rfl, hr, hb⟩; have ONE := Lib.hid hr; have L := Lib.hid (L.out.below hb); have IA := Lib.hid (IA.out.below hb); have IB := Lib.hid (IB.out.below hb); have SA := Lib.hid (SA.out.below hb); have SB := Lib.hid (SB.out.below hb); have XD := Lib.hid (XD.out.below hb); have X := Lib.hid (X.out.below hb); have B := Lib.hid (B.out.trans (hb.mono B.out.size)); have x0 := X.out.cell 0; have x1 := X.out.cell 1; have x2 := X.out.cell 2; clear hr hb))
  have bd : Below w4.heap.size w4 w4.drew := (Below.refl _ _).drew
  have L := Lib.hid (L.out.below bd)
  have IA := Lib.hid (IA.out.below bd)
  have IB := Lib.hid (IB.out.below bd)
  have SA := Lib.hid (SA.out.below bd)
  have SB := Lib.hid (SB.out.below bd)
  have XD := Lib.hid (XD.out.below bd)
  have X := Lib.hid (X.out.below bd)
  have ONE := Lib.hid (ONE.out.below bd)
  have B := Lib.hid (B.out.trans (bd.mono B.out.size))
  have hT0 : w4.drew.cell? ⟨w3.heap.size, 0, none⟩ = some (.int .i64 x.p) ∧ w4.drew.cell? ⟨w3.heap.size, 1, none⟩ = some (.slice A3 n3 c3) ∧ w4.drew.cell? ⟨w3.heap.size, 2, none⟩ = some (.slice Aa na ca) := ⟨X.out.cell 0, X.out.cell 1, X.out.cell 2⟩
  go_region_held3 (fun W => W.cell? ⟨w3.heap.size, 0, none⟩ = some (.int .i64 x.p) ∧ W.cell? ⟨w3.heap.size, 1, none⟩ = some (.slice A3 n3 c3) ∧ W.cell? ⟨w3.heap.size, 2, none⟩ = some (.slice Aa na ca)) (first | with_reducible exact hT3 | with_reducible exact hT2 | with_reducible exact hT1 | with_reducible exact hT0 | fail) (first
    | (go_at_call 16; have tk := tok3; clear tok3 tk; have tok4 : True := trivial; refine (inv_is _ x _ _ XD.out (HXI.out ▸ IA.out) (by have := HF.out.d; omega) (by have := HF.out.i; omega)).mono ?_; rintro e w8 ⟨A8, n8, c8, A9, n9, c9, rfl, hr, hr2, hb⟩; have U1 := Lib.hid hr; have U2 := Lib.hid hr2; have L := Lib.hid (L.out.below hb); have IA := Lib.hid (IA.out.below hb); have IB := Lib.hid (IB.out.below hb); have SA := Lib.hid (SA.out.below hb); have SB := Lib.hid (SB.out.below hb); have XD := Lib.hid (XD.out.below hb); have X := Lib.hid (X.out.below hb); have ONE := Lib.hid (ONE.out.below hb); have B := Lib.hid (B.out.trans (hb.mono B.out.size)); have hT1 : w8.cell? ⟨w3.heap.size, 0, none⟩ = some (.int .i64 x.p) ∧ w8.cell? ⟨w3.heap.size, 1, none⟩ = some (.slice A3 n3 c3) ∧ w8.cell? ⟨w3.heap.size, 2, none⟩ = some (.slice Aa na ca) := ⟨X.out.cell 0, X.out.cell 1, X.out.cell 2⟩; clear hr hr2 hb)
    | (go_at_call 16; have tk := tok4; clear tok4 tk; have tok5 : True := trivial; refine (inv_is _ x.inv _ _ U1.out U2.out (by have := HF.out.i; show x.i.length ≤ _; omega) (by have := HF.out.d; show x.d.length ≤ _; omega)).mono ?_; rintro e w9 ⟨A16, n16, c16, A17, n17, c17, rfl, hr, hr2, hb⟩; have T1 := Lib.hid hr; have T2 := Lib.hid hr2; have L := Lib.hid (L.out.below hb); have IA := Lib.hid (IA.out.below hb); have IB := Lib.hid (IB.out.below hb); have SA := Lib.hid (SA.out.below hb); have SB := Lib.hid (SB.out.below hb); have XD := Lib.hid (XD.out.below hb); have X := Lib.hid (X.out.below hb); have ONE := Lib.hid (ONE.out.below hb); have B := Lib.hid (B.out.trans (hb.mono B.out.size)); have hT2 : w9.cell? ⟨w3.heap.size, 0, none⟩ = some (.int .i64 x.p) ∧ w9.cell? ⟨w3.heap.size, 1, none⟩ = some (.slice A3 n3 c3) ∧ w9.cell? ⟨w3.heap.size, 2, none⟩ = some (.slice Aa na ca) := ⟨X.out.cell 0, X.out.cell 1, X.out.cell 2⟩; clear hr hr2 hb)
    | (go_at_call 15; have tk := tok5; clear tok5 tk; have tok6 : True := trivial; refine (same_is _ x _ _ _ _ T1.out T2.out XD.out (HXI.out ▸ IA.out) (by have := HF.out.d; omega) (by have := HF.out.i; omega)).mono ?_; rintro e w10 ⟨rfl, hb⟩; have L := Lib.hid (L.out.below hb); have IA := Lib.hid (IA.out.below hb); have IB := Lib.hid (IB.out.below hb); have SA := Lib.hid (SA.out.below hb); have SB := Lib.hid (SB.out.below hb); have XD := Lib.hid (XD.out.below hb); have X := Lib.hid (X.out.below hb); have ONE := Lib.hid (ONE.out.below hb); have B := Lib.hid (B.out.trans (hb.mono B.out.size)); have hT3 : w10.cell? ⟨w3.heap.size, 0, none⟩ = some (.int .i64 x.p) ∧ w10.cell? ⟨w3.heap.size, 1, none⟩ = some (.slice A3 n3 c3) ∧ w10.cell? ⟨w3.heap.size, 2, none⟩ = some (.slice Aa na ca) := ⟨X.out.cell 0, X.out.cell 1, X.out.cell 2⟩; have sb0 := SB.out.cell 0; have sb1 := SB.out.cell 1; have sb2 := SB.out.cell 2; have sb3 := SB.out.cell 3; have sb4 := SB.out.cell 4; clear hb))
  all_goals
    go_wp2_with (first
      | (go_at_call 41; have tk := tok6; clear tok6 tk; have tok7 : True := trivial; refine (step_is _ one b _ _ ONE.out IB.out (by have := HONE.out.1; omega) HG.out.eq).mono ?_; rintro e w11 ⟨A11, n11, c11, rfl, hr, hb⟩; have YD := Lib.hid hr; have L := Lib.hid (L.out.below hb); have IA := Lib.hid (IA.out.below hb); have IB := Lib.hid (IB.out.below hb); have SA := Lib.hid (SA.out.below hb); have SB := Lib.hid (SB.out.below hb); have XD := Lib.hid (XD.out.below hb); have X := Lib.hid (X.out.below hb); have ONE := Lib.hid (ONE.out.below hb); have B := Lib.hid (B.out.trans (hb.mono B.out.size)); have ba := bel_alloc (Below.refl w11.heap.size w11) (.cells #[.int .i64 y.p, .slice A11 n11 c11, .slice Ab nb cb] 24); have L := Lib.hid (L.out.below ba); have IA := Lib.hid (IA.out.below ba); have IB := Lib.hid (IB.out.below ba); have SA := Lib.hid (SA.out.below ba); have SB := Lib.hid (SB.out.below ba); have XD := Lib.hid (XD.out.below ba); have X := Lib.hid (X.out.below ba); have ONE := Lib.hid (ONE.out.below ba); have YD := Lib.hid (YD.out.below ba); have B := Lib.hid (B.out.trans (ba.mono B.out.size)); have Y : Hid (EBox (w11.alloc (.cells #[.int .i64 y.p, .slice A11 n11 c11, .slice Ab nb cb] 24)) w11.heap.size #[.int .i64 y.p, .slice A11 n11 c11, .slice Ab nb cb]) := Lib.hid (alloc_new _ _); have y0 := Y.out.cell 0; have y1 := Y.out.cell 1; have y2 := Y.out.cell 2; have x0 := X.out.cell 0; have x1 := X.out.cell 1; have x2 := X.out.cell 2; clear hr hb ba)
      | (go_at_call 9; have tk := tok7; clear tok7 tk; have tok8 : True := trivial; refine (apply_is _ one y _ _ _ ONE.out YD.out (HYI.out ▸ IB.out) (by have := HONE.out.1; omega) (by have := HG.out.d; omega) (by have := HG.out.i; omega) HE2.out.1 HE2.out.2).mono ?_; rintro e w12 ⟨A12, n12, c12, rfl, hr, hb⟩; have TWO := Lib.hid hr; have L := Lib.hid (L.out.below hb); have IA := Lib.hid (IA.out.below hb); have IB := Lib.hid (IB.out.below hb); have SA := Lib.hid (SA.out.below hb); have SB := Lib.hid (SB.out.below hb); have XD := Lib.hid (XD.out.below hb); have X := Lib.hid (X.out.below hb); have ONE := Lib.hid (ONE.out.below hb); have YD := Lib.hid (YD.out.below hb); have Y := Lib.hid (Y.out.below hb); have B := Lib.hid (B.out.trans (hb.mono B.out.size)); have x0 := X.out.cell 0; have x1 := X.out.cell 1; have x2 := X.out.cell 2; have y0 := Y.out.cell 0; have y1 := Y.out.cell 1; have y2 := Y.out.cell 2; clear hr hb)
      | (go_at_call 11; have tk := tok8; clear tok8 tk; have tok9 : True := trivial; refine (join_is _ x y _ _ _ _ XD.out (HXI.out ▸ IA.out) YD.out (HYI.out ▸ IB.out) HJS.out.1 HJS.out.2 HF.out.p HG.out.p HJ.out.1 HJ.out.2).mono ?_; rintro e w13 ⟨A13, n13, c13, A14, n14, c14, rfl, hr, hr2, hb⟩; have ZD := Lib.hid hr; have ZI := Lib.hid hr2; have L := Lib.hid (L.out.below hb); have IA := Lib.hid (IA.out.below hb); have IB := Lib.hid (IB.out.below hb); have SA := Lib.hid (SA.out.below hb); have SB := Lib.hid (SB.out.below hb); have XD := Lib.hid (XD.out.below hb); have X := Lib.hid (X.out.below hb); have ONE := Lib.hid (ONE.out.below hb); have YD := Lib.hid (YD.out.below hb); have Y := Lib.hid (Y.out.below hb); have TWO := Lib.hid (TWO.out.below hb); have B := Lib.hid (B.out.trans (hb.mono B.out.size)); have bz := bel_alloc (Below.refl w13.heap.size w13) (.cells #[.int .i64 z.p, .slice A13 n13 c13, .slice A14 n14 c14] 24); have L := Lib.hid (L.out.below bz); have IA := Lib.hid (IA.out.below bz); have IB := Lib.hid (IB.out.below bz); have SA := Lib.hid (SA.out.below bz); have SB := Lib.hid (SB.out.below bz); have XD := Lib.hid (XD.out.below bz); have X := Lib.hid (X.out.below bz); have ONE := Lib.hid (ONE.out.below bz); have YD := Lib.hid (YD.out.below bz); have Y := Lib.hid (Y.out.below bz); have TWO := Lib.hid (TWO.out.below bz); have ZD := Lib.hid (ZD.out.below bz); have ZI := Lib.hid (ZI.out.below bz); have B := Lib.hid (B.out.trans (bz.mono B.out.size)); have Z : Hid (EBox (w13.alloc (.cells #[.int .i64 z.p, .slice A13 n13 c13, .slice A14 n14 c14] 24)) w13.heap.size #[.int .i64 z.p, .slice A13 n13 c13, .slice A14 n14 c14]) := Lib.hid (alloc_new _ _); have z0 := Z.out.cell 0; have z1 := Z.out.cell 1; have z2 := Z.out.cell 2; clear hr hr2 hb bz)
      | (go_at_call 9; have tk := tok9; clear tok9 tk; have tok10 : True := trivial; refine (apply_is _ l z _ _ _ L.out ZD.out ZI.out (by have := HF.out.l; omega) HZ.out.1 HZ.out.2 HE3.out.1 HE3.out.2).mono ?_; rintro e w14 ⟨A15, n15, c15, rfl, hr, hb⟩; have BOTH := Lib.hid hr; have L := Lib.hid (L.out.below hb); have IA := Lib.hid (IA.out.below hb); have IB := Lib.hid (IB.out.below hb); have SA := Lib.hid (SA.out.below hb); have SB := Lib.hid (SB.out.below hb); have XD := Lib.hid (XD.out.below hb); have X := Lib.hid (X.out.below hb); have ONE := Lib.hid (ONE.out.below hb); have YD := Lib.hid (YD.out.below hb); have Y := Lib.hid (Y.out.below hb); have TWO := Lib.hid (TWO.out.below hb); have ZD := Lib.hid (ZD.out.below hb); have ZI := Lib.hid (ZI.out.below hb); have Z := Lib.hid (Z.out.below hb); have B := Lib.hid (B.out.trans (hb.mono B.out.size)); clear hr hb)
      | (go_at_call 14; have tk := tok10; clear tok10 tk; have tok11 : True := trivial; refine (samer_is _ two _ _ BOTH.out TWO.out (by have := HTW.out; omega)).mono ?_; rintro e w15 ⟨rfl, hb⟩; have B := Lib.hid (B.out.trans (hb.mono B.out.size)); clear hb))
    go_ret
    exact ⟨rfl, B.out⟩
theorem inv_any (w : World) (l : List Int) (a b : StepP) (lv iva ivb : Value) (hl : Holds1 w lv (runeVals l)) (hia : Holds1 w iva (runeVals a.ins)) (hib : Holds1 w ivb (runeVals b.ins)) (hll : l.length ≤ 35184372087808) (hal : a.ins.length ≤ 35184372087808) (hbl : b.ins.length ≤ 35184372087808) :
    Calls Try.prog 6 #[lv, .agg #[.int .i64 a.at', .int .i64 a.many, iva, .bool a.beg, .bool a.en], .agg #[.int .i64 b.at', .int .i64 b.many, ivb, .bool b.beg, .bool b.en]] w fun e w' => e = .returned (.bool true) ∧ Below w.heap.size w w' := by
  obtain ⟨Al, cl, rfl, _⟩ := id hl
  obtain ⟨Aa, ca, rfl, _⟩ := id hia
  obtain ⟨Ab, cb, rfl, _⟩ := id hib
  simp only [runeVals_length] at hl hia hib ⊢
  have hF := InvF.of hll hal
  have hc := apErr_cases (stands_step l a)
  by_cases h1 : apErr l (stepEd l a) = 0
  · have hF2 := InvF.of (l := apLine l (stepEd l a)) (a := b) (by have := (apErr_zero h1).2.2.1; omega) hbl
    have hc2 := apErr_cases (stands_step (apLine l (stepEd l a)) b)
    by_cases hs : l.length ≤ 1024
    · by_cases h2 : apErr (apLine l (stepEd l a)) (stepEd (apLine l (stepEd l a)) b) = 0
      · by_cases h3 : joinB (stepEd l a) (stepEd (apLine l (stepEd l a)) b) = true
        · exact inv_sj w l a b _ _ Al Aa Ab cl _ ca _ cb hl hia hib hF rfl h1 hF2 rfl hs h2 h3
        · exact inv_sn w l a b _ _ Al Aa Ab cl _ ca _ cb hl hia hib hF rfl h1 hF2 rfl hs h2 (by simpa using h3)
      · have h2' : apErr (apLine l (stepEd l a)) (stepEd (apLine l (stepEd l a)) b) = 3 := by
          rw [hc2] at h2 ⊢
          split at h2
          · next h => rw [if_pos h]
          · exact absurd rfl h2
        exact inv_s3 w l a b _ _ Al Aa Ab cl _ ca _ cb hl hia hib hF rfl h1 hF2 rfl hs h2'
    · by_cases h2 : apErr (apLine l (stepEd l a)) (stepEd (apLine l (stepEd l a)) b) = 0
      · by_cases h3 : joinB (stepEd l a) (stepEd (apLine l (stepEd l a)) b) = true
        · exact inv_bj w l a b _ _ Al Aa Ab cl _ ca _ cb hl hia hib hF rfl h1 hF2 rfl hs h2 h3
        · exact inv_bn w l a b _ _ Al Aa Ab cl _ ca _ cb hl hia hib hF rfl h1 hF2 rfl hs h2 (by simpa using h3)
      · have h2' : apErr (apLine l (stepEd l a)) (stepEd (apLine l (stepEd l a)) b) = 3 := by
          rw [hc2] at h2 ⊢
          split at h2
          · next h => rw [if_pos h]
          · exact absurd rfl h2
        exact inv_b3 w l a b _ _ Al Aa Ab cl _ ca _ cb hl hia hib hF rfl h1 hF2 rfl hs h2'
  · have h1' : apErr l (stepEd l a) = 3 := by
      rw [hc] at h1 ⊢
      split at h1
      · next h => rw [if_pos h]
      · exact absurd rfl h1
    exact inv_long w l a b _ Al Aa Ab cl _ ca _ cb hl hia hib hF rfl h1'
end Go.Proofs.Ytjgjbdpknfplkaa
