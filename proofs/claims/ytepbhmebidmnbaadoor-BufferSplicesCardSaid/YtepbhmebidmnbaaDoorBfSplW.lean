/-
  What is replaced goes, what comes stands there: the law's walk.
-/
import Derived.Test.YtepbhmebidmnbaaDoorBfCut
import Derived.Test.YtepbhmebidmnbaaDoorBfNoneW
namespace Go.Proofs.YtepbhmebidmnbaaDoor
open Go.RowKit Go.Shelf Go.Lib
attribute [local go_sem] Oper.semAt_some

abbrev opArr (k a b : Int) (At : Option Addr) (nt ct : Nat) (p : Int) (Ad : Option Addr) (nd cd : Nat) (Ai : Option Addr) (ni ci : Nat) : Array Value := #[.int .i64 k, .int .i64 a, .int .i64 b, .slice At nt ct, .int .i64 p, .slice Ad nd cd, .slice Ai ni ci]
set_option maxRecDepth 1000000 in
set_option maxHeartbeats 8000000 in
theorem spl_long (w : World) (hT : WidTab w) (l : List Int) (A0 : Option Addr) (c0 : Nat) (hl : Holds1 w (.slice A0 l.length c0) (runeVals l)) (hlen : l.length ≤ 35184372088832) (k a b p : Int) (At : Option Addr) (nt ct : Nat) (Ad : Option Addr) (nd cd : Nat) (Ai : Option Addr) (ni ci : Nat)
    (hlong : ¬ l.length ≤ 1024) :
    Calls Tryd.prog 10 #[.slice A0 l.length c0, .agg #[.int .i64 k, .int .i64 a, .int .i64 b, .slice At nt ct, .int .i64 p, .slice Ad nd cd, .slice Ai ni ci]] w fun e w' => e = .returned (.bool true) ∧ Below w.heap.size w w' := by
  have hb0 : Below w.heap.size w (w.alloc (.cells (opArr k a b At nt ct p Ad nd cd Ai ni ci) 35)) := (Below.refl _ _).alloc (Nat.le_refl _) _
  have CN : Hid (Calls Tryd.prog 11 #[.slice A0 l.length c0] (w.alloc (.cells (opArr k a b At nt ct p Ad nd cd Ai ni ci) 35)) fun e w' => e = .returned (.tuple #[.pointer none, .int .i64 3]) ∧ Below w.heap.size w w') := Lib.hid ((new_any _ l _ (hl.below hb0) (by omega)).mono (by
    rintro e w' ⟨⟨h1, _⟩ | ⟨_, rfl⟩, hb⟩
    · exact absurd h1 hlong
    · exact ⟨rfl, hb0.trans (hb.mono hb0.size)⟩))
  have CL := Lib.hid fun W (h : Below w.heap.size w W) => live_any W (hT.below h)
  have i1 : (((l.length : Nat) : Int) > 1024) = True := by simp; omega
  have i2 : ((1024 : Int) < ((l.length : Nat) : Int)) = True := by simp; omega
  have i3 : (1024 < l.length) = True := by simp; omega
  generalize l.length = n at *
  clear hb0 hl hlen hlong hT
  go_enter Tryd.func10, Tryd.ntmps10
  go_wp2_with (first
    | (go_at_call 11; refine (CN.out).mono ?_; rintro e w1 ⟨rfl, hb1⟩; have B1 := Lib.hid hb1; clear hb1)
    | (go_at_call 13; refine (CL.out _ B1.out).mono ?_; rintro e w2 ⟨rfl, hb2⟩; have B2 := Lib.hid (B1.out.trans (hb2.mono B1.out.size)); clear hb2))
  go_ret
  exact ⟨rfl, B2.out⟩
/-- what lies behind Replace and the edit's box -/
structure SplI (w wr : World) (g : Nat) (l : List Int) (lv : Value) (S' : BS) (x : List Int) (tv : Value) (ops : Array Value) (re : Nat) (ed : Array Value) (dl il : List Int) (dv iv : Value) : Prop where
  l : Holds1 wr lv (runeVals l)
  s : BufAt wr g S'
  x : Holds1 wr tv (runeVals x)
  op : OpBox wr w.heap.size ops
  ed : EBox wr re ed
  d : Holds1 wr dv (runeVals dl)
  i : Holds1 wr iv (runeVals il)
  b : Below w.heap.size w wr
  lt : w.heap.size < g
theorem SplI.below {w wr wr' : World} {g : Nat} {l : List Int} {lv : Value} {S' : BS} {x : List Int} {tv : Value} {ops : Array Value} {re : Nat} {ed : Array Value} {dl il : List Int} {dv iv : Value} (h : SplI w wr g l lv S' x tv ops re ed dl il dv iv) (hb : Below wr.heap.size wr wr') : SplI w wr' g l lv S' x tv ops re ed dl il dv iv :=
  ⟨h.l.below hb, h.s.below hb, h.x.below hb, h.op.below hb, h.ed.below hb, h.d.below hb, h.i.below hb, h.b.trans (hb.mono h.b.size), h.lt⟩
theorem Holds1.only {w w1 w2 : World} {g : Nat} {v : Value} {xs : List Value} (h : Holds1 w v xs) (hb : Below w.heap.size w w1) (ht : Touch (Only g) w1 w2) (hg : w.heap.size ≤ g) : Holds1 w2 v xs := h.below (only_below hb ht hg)
theorem OpBox.only {W W' : World} {r g : Nat} {v : Array Value} (h : OpBox W r v) (ht : Touch (Only g) W W') (hr : r ≠ g) : OpBox W' r v := (ht.block r h.lt (fun e => hr e)).trans h
set_option maxRecDepth 1000000 in
set_option maxHeartbeats 8000000 in
theorem spl_new (w : World) (hT : WidTab w) (l : List Int) (A0 : Option Addr) (c0 : Nat) (hl : Holds1 w (.slice A0 l.length c0) (runeVals l)) (hlen : l.length ≤ 1024) (k a b p : Int) (At : Option Addr) (x : List Int) (ct : Nat) (Ad : Option Addr) (nd cd : Nat) (Ai : Option Addr) (ni ci : Nat)
    (hx : Holds1 w (.slice At x.length ct) (runeVals x)) (hxl : x.length ≤ 35184372088832) (ha : -9223372036854775808 ≤ a ∧ a ≤ 9223372036854775807) (hb : -9223372036854775808 ≤ b ∧ b ≤ 9223372036854775807) :
    Calls Tryd.prog 10 #[.slice A0 l.length c0, .agg #[.int .i64 k, .int .i64 a, .int .i64 b, .slice At x.length ct, .int .i64 p, .slice Ad nd cd, .slice Ai ni ci]] w fun e w' => e = .returned (.bool true) ∧ Below w.heap.size w w' := by
  have hb0 : Below w.heap.size w (w.alloc (.cells (opArr k a b At x.length ct p Ad nd cd Ai ni ci) 35)) := (Below.refl _ _).alloc (Nat.le_refl _) _
  have hs0 : (w.alloc (.cells (opArr k a b At x.length ct p Ad nd cd Ai ni ci) 35)).heap.size = w.heap.size + 1 := by simp
  have hop : OpBox (w.alloc (.cells (opArr k a b At x.length ct p Ad nd cd Ai ni ci) 35)) w.heap.size (opArr k a b At x.length ct p Ad nd cd Ai ni ci) := alloc_new _ _
  have CN : Hid (Calls Tryd.prog 11 #[.slice A0 l.length c0] (w.alloc (.cells (opArr k a b At x.length ct p Ad nd cd Ai ni ci) 35)) fun e w' => ∃ g, e = .returned (.tuple #[.pointer (some ⟨g, 0, none⟩), .int .i64 0]) ∧ BufAt w' g (newS l) ∧ w.heap.size < g ∧ OpBox w' w.heap.size (opArr k a b At x.length ct p Ad nd cd Ai ni ci) ∧ Below w.heap.size w w') := Lib.hid ((new_any _ l _ (hl.below hb0) (by omega)).mono (by
    rintro e w' ⟨⟨_, g, rfl, h1, h2⟩ | ⟨h1, _⟩, hb⟩
    · exact ⟨g, rfl, h1, by rw [hs0] at h2; omega, hop.below hb, hb0.trans (hb.mono hb0.size)⟩
    · exact absurd hlen h1))
  have CL := Lib.hid fun W (h : Below w.heap.size w W) => live_any W (hT.below h)
  have CR : Hid (∀ W g, BufAt W g (newS l) → w.heap.size < g → OpBox W w.heap.size (opArr k a b At x.length ct p Ad nd cd Ai ni ci) → Below w.heap.size w W → Calls Tryd.prog 15 #[.pointer (some ⟨g, 0, none⟩), .int .i64 a, .int .i64 b, .slice At x.length ct] W fun e w' => ∃ Ad' nd' cd' Ai' ni' ci', e = .returned (.tuple #[editV (rE (newS l) a b x).1 (.slice Ad' nd' cd') (.slice Ai' ni' ci'), .int .i64 (replErr (newS l) a b x.length)]) ∧
      SplI w (w'.alloc (.cells #[.int .i64 (rE (newS l) a b x).1, .slice Ad' nd' cd', .slice Ai' ni' ci'] 33)) g l (.slice A0 l.length c0) (rS (newS l) a b x) x (.slice At x.length ct) (opArr k a b At x.length ct p Ad nd cd Ai ni ci) w'.heap.size #[.int .i64 (rE (newS l) a b x).1, .slice Ad' nd' cd', .slice Ai' ni' ci'] (rE (newS l) a b x).2.1 (rE (newS l) a b x).2.2 (.slice Ad' nd' cd') (.slice Ai' ni' ci')) := Lib.hid fun W g h1 h2 h3 h4 => by
    refine (replace_any W g _ h1 a b x _ (OffR.of hx h4 (Nat.le_of_lt h2)) (by omega)).mono ?_
    rintro e w' ⟨dv, iv, rfl, hd, hi, hS, ht⟩
    obtain ⟨Ad', nd', cd', rfl⟩ := hd.form3
    obtain ⟨Ai', ni', ci', rfl⟩ := hi.form3
    have hb1 := only_below h4 ht (Nat.le_of_lt h2)
    have hb2 : Below w'.heap.size w' (w'.alloc (.cells #[.int .i64 (rE (newS l) a b x).1, .slice Ad' nd' cd', .slice Ai' ni' ci'] 33)) := (Below.refl _ _).alloc (Nat.le_refl _) _
    exact ⟨Ad', nd', cd', Ai', ni', ci', rfl, ⟨(hl.below hb1).below hb2, hS.below hb2, (hx.below hb1).below hb2, (h3.only ht (by omega)).below hb2, alloc_new _ _, hd.holds.below hb2, hi.holds.below hb2, hb1.trans (hb2.mono hb1.size), h2⟩⟩
  have HLEN := Lib.hid hlen
  have HXL := Lib.hid hxl
  by_cases hval : 0 ≤ a ∧ a ≤ b ∧ b ≤ (l.length : Int)
  · obtain ⟨a', rfl⟩ : ∃ a' : Nat, a = a' := ⟨a.toNat, by omega⟩
    obtain ⟨b', rfl⟩ : ∃ b' : Nat, b = b' := ⟨b.toNat, by omega⟩
    have i0 : ((a' : Int) < 0) = False := by simp
    have i1 : ((b' : Int) < (a' : Int)) = False := by simp; omega
    have i2 : ((l.length : Int) < (b' : Int)) = False := by simp; omega
    have i3 : (b' < a') = False := by simp; omega
    have i4 : (l.length < b') = False := by simp; omega
    obtain ⟨q0, e0⟩ : ∃ q0 : Nat, q0 = b' - a' := ⟨_, rfl⟩
    obtain ⟨q1, e1⟩ : ∃ q1 : Nat, q1 = l.length - q0 := ⟨_, rfl⟩
    obtain ⟨q2, e2⟩ : ∃ q2 : Nat, q2 = q1 + x.length := ⟨_, rfl⟩
    have j1 : IntKind.i64.wrap ((b' : Int) - (a' : Int)) = (q0 : Int) := by rw [IntWalk.i64_in _ (by omega)]; omega
    have j2 : IntKind.i64.wrap ((l.length : Int) - (q0 : Int)) = (q1 : Int) := by rw [IntWalk.i64_in _ (by omega)]; omega
    have j3 : IntKind.i64.wrap ((q1 : Int) + (x.length : Int)) = (q2 : Int) := by rw [IntWalk.i64_in _ (by omega)]; omega
    by_cases hfit : q2 ≤ 1024
    · have he : replErr (newS l) a' b' x.length = 0 := by
        show (if ¬ ((0 : Int) ≤ a' ∧ (a' : Int) ≤ b' ∧ (b' : Int) ≤ (l.length : Int)) then (70 : Int) else if 1024 < (l.length : Int) - ((b' : Int) - a') + x.length then 3 else 0) = 0
        rw [if_neg (by omega), if_neg (by omega)]
      have eE : rE (newS l) a' b' x = ((a' : Int), partP l a' b', x) := by unfold rE; rw [if_pos he]; rfl
      have eS : rS (newS l) a' b' x = replP (newS l) a' b' x := by unfold rS; rw [if_pos he]; rfl
      rw [he, eE, eS] at CR
      dsimp only at CR
      have i5 : ((1024 : Int) < (q2 : Int)) = False := by simp; omega
      have i6 : (1024 < q2) = False := by simp; omega
      have hac : l.length ≤ c0 := by
        obtain ⟨A', c', e, hc, _⟩ := hl
        injection e with e1 e2 e3
        rw [runeVals_length] at hc
        omega
      have S1 := sliceAt_to A0 l.length c0 a' (by omega)
      have S2 := sliceAt_from A0 l.length c0 b' (by omega)
      have S3 := sliceAt_runes A0 l.length c0 a' b' (by omega) (by omega)
      have HV : Hid (a' ≤ b' ∧ b' ≤ l.length ∧ a' ≤ l.length) := Lib.hid (by omega)
      have HLL : Hid ((l.take a').length ≤ 1024 ∧ x.length ≤ 1024 ∧ (l.drop b').length ≤ 1024) := Lib.hid (by rw [List.length_take, List.length_drop]; omega)
      clear hval he hb0 hs0 hop hT hl hx hfit e0 e1 e2 ha hb hlen hxl eE eS hac
      go_enter Tryd.func10, Tryd.ntmps10
      go_wp2_with (first
        | (go_at_call 11; refine (CN.out).mono ?_; rintro e w1 ⟨g, rfl, hS, hg, hop, hb1⟩; have H := Lib.hid hS; have HG := Lib.hid hg; have X := Lib.hid hop; have B := Lib.hid hb1; clear hS hg hop hb1)
        | (go_at_call 13; refine (CL.out _ B.out).mono ?_; rintro e w2 ⟨rfl, hb2⟩; have H := Lib.hid (H.out.below hb2); have X := Lib.hid (X.out.below hb2); have B := Lib.hid (B.out.trans (hb2.mono B.out.size)); have o1 := X.out.cell 1; have o2 := X.out.cell 2; have o3 := X.out.cell 3; clear hb2)
        | (go_at_call 15; refine (CR.out _ _ H.out HG.out X.out B.out).mono ?_; rintro e w3 ⟨Ad', nd', cd', Ai', ni', ci', rfl, hI⟩; have I := Lib.hid hI; have o1 := I.out.op.cell 1; have o2 := I.out.op.cell 2; have o3 := I.out.op.cell 3; clear hI))
      generalize w3.alloc (.cells #[.int .i64 (a' : Int), .slice Ad' nd' cd', .slice Ai' ni' ci'] 33) = W0 at *
      have D1 : Below W0.heap.size W0 (W0.alloc (.cells #[] 21)).drew := ((Below.refl _ _).alloc (Nat.le_refl _) _).drew
      have I1 := Lib.hid (I.out.below D1)
      obtain ⟨A2, n2, c2, W2, r2, R2, D2⟩ := run_append_runes (W0.alloc (.cells #[] 21)).drew 22 W0.heap.size _ [] (show RRow (W0.alloc (.cells #[] 21)).drew W0.heap.size _ [] from RRow.fresh W0 (Nat.le_refl _)) (I1.out.l.head HV.out.2.2) (by have := HLL.out.1; simp only [List.length_nil]; omega) D1.size
      have I2 := Lib.hid (I.out.below (D1.trans D2))
      obtain ⟨A3, n3, c3, W3, r3, R3, D3⟩ := run_append_runes W2 22 W0.heap.size _ _ R2 I2.out.x (by have := HLL.out; rw [List.nil_append]; omega) (D1.trans D2).size
      have I3 := Lib.hid (I.out.below ((D1.trans D2).trans D3))
      obtain ⟨A4, n4, c4, W4, r4, R4, D4⟩ := run_append_runes W3 22 W0.heap.size _ _ R3 (I3.out.l.tail HV.out.2.1) (by have := HLL.out; rw [List.nil_append, List.length_append]; omega) ((D1.trans D2).trans D3).size
      have I4 := Lib.hid (I.out.below (((D1.trans D2).trans D3).trans D4))
      have WR := Lib.hid R4.holds
      have CT : Hid (∀ W, SplI w W g l (.slice A0 l.length c0) (replP (newS l) a' b' x) x (.slice At x.length ct) (opArr k a' b' At x.length ct p Ad nd cd Ai ni ci) w3.heap.size #[.int .i64 (a' : Int), .slice Ad' nd' cd', .slice Ai' ni' ci'] (partP l a' b') x (.slice Ad' nd' cd') (.slice Ai' ni' ci') → Calls Tryd.prog 34 #[.pointer (some ⟨g, 0, none⟩)] W fun e w' => ∃ v, e = .returned v ∧ Holds1 w' v (runeVals (replP (newS l) a' b' x).l) ∧ Below W.heap.size W w') := Lib.hid fun W h => (textB_any W g _ h.s).mono (by
        rintro e w' ⟨v, rfl, h1, h2⟩
        exact ⟨v, rfl, h1.holds, h2⟩)
      have CS1 : Hid (∀ W v, Holds1 W v (runeVals (replP (newS l) a' b' x).l) → Holds1 W (.slice A4 n4 c4) (runeVals ((([] ++ l.take a') ++ x) ++ l.drop b')) → Calls Tryd.prog 33 #[v, .slice A4 n4 c4] W fun e w' => e = .returned (.bool true) ∧ Below W.heap.size W w') := Lib.hid fun W v h1 h2 => (same_any W _ _ _ _ h1 h2 (by
        have := HLL.out
        show (l.take a' ++ (x ++ l.drop b')).length ≤ _
        rw [List.length_append, List.length_append]
        omega)).mono (by
        rintro e w' ⟨rfl, h⟩
        refine ⟨?_, h⟩
        rw [decide_eq_true (show (replP (newS l) a' b' x).l = (([] ++ l.take a') ++ x) ++ l.drop b' by show l.take a' ++ (x ++ l.drop b') = _; simp)])
      have CS2 : Hid (∀ W, SplI w W g l (.slice A0 l.length c0) (replP (newS l) a' b' x) x (.slice At x.length ct) (opArr k a' b' At x.length ct p Ad nd cd Ai ni ci) w3.heap.size #[.int .i64 (a' : Int), .slice Ad' nd' cd', .slice Ai' ni' ci'] (partP l a' b') x (.slice Ad' nd' cd') (.slice Ai' ni' ci') → Calls Tryd.prog 33 #[.slice Ad' nd' cd', .slice (tailA A0 c0 a' 1) (b' - a') (c0 - a')] W fun e w' => e = .returned (.bool true) ∧ Below W.heap.size W w') := Lib.hid fun W h => (same_any W _ _ _ _ h.d (h.l.mid HV.out.1 HV.out.2.1) (by
        have := HV.out
        have := HLEN.out
        rw [partP_length (by omega) (by omega)]
        omega)).mono (by
        rintro e w' ⟨rfl, h⟩
        exact ⟨by rw [decide_eq_true rfl], h⟩)
      have CS3 : Hid (∀ W, SplI w W g l (.slice A0 l.length c0) (replP (newS l) a' b' x) x (.slice At x.length ct) (opArr k a' b' At x.length ct p Ad nd cd Ai ni ci) w3.heap.size #[.int .i64 (a' : Int), .slice Ad' nd' cd', .slice Ai' ni' ci'] (partP l a' b') x (.slice Ad' nd' cd') (.slice Ai' ni' ci') → Calls Tryd.prog 33 #[.slice Ai' ni' ci', .slice At x.length ct] W fun e w' => e = .returned (.bool true) ∧ Below W.heap.size W w') := Lib.hid fun W h => (same_any W _ _ _ _ h.i h.x (by have := HLL.out; omega)).mono (by
        rintro e w' ⟨rfl, h⟩
        exact ⟨by rw [decide_eq_true rfl], h⟩)
      have q1 : (W0.alloc (.cells #[] 21)).cell? ⟨w.heap.size, 1, none⟩ = _ := I1.out.op.cell 1
      have q2' : (W0.alloc (.cells #[] 21)).cell? ⟨w.heap.size, 2, none⟩ = _ := I1.out.op.cell 2
      have q3 : (W0.alloc (.cells #[] 21)).cell? ⟨w.heap.size, 3, none⟩ = _ := I1.out.op.cell 3
      have u1 := I2.out.op.cell 1
      have u2 := I2.out.op.cell 2
      have u3 := I2.out.op.cell 3
      have v1 := I3.out.op.cell 1
      have v2 := I3.out.op.cell 2
      have v3 := I3.out.op.cell 3
      have x1 := I4.out.op.cell 1
      have x2 := I4.out.op.cell 2
      have x3 := I4.out.op.cell 3
      clear D1 R2 D2 R3 D3 R4 D4
      have hS0 : W0.drew.cell? ⟨w.heap.size, 1, none⟩ = some (.int .i64 (a' : Int)) ∧ W0.drew.cell? ⟨w.heap.size, 2, none⟩ = some (.int .i64 (b' : Int)) ∧ W0.drew.cell? ⟨w.heap.size, 3, none⟩ = some (.slice At x.length ct) := ⟨o1, o2, o3⟩
      have hS1 : (W0.alloc (.cells #[] 21)).drew.cell? ⟨w.heap.size, 1, none⟩ = some (.int .i64 (a' : Int)) ∧ (W0.alloc (.cells #[] 21)).drew.cell? ⟨w.heap.size, 2, none⟩ = some (.int .i64 (b' : Int)) ∧ (W0.alloc (.cells #[] 21)).drew.cell? ⟨w.heap.size, 3, none⟩ = some (.slice At x.length ct) := ⟨q1, q2', q3⟩
      have hS2 : W2.cell? ⟨w.heap.size, 1, none⟩ = some (.int .i64 (a' : Int)) ∧ W2.cell? ⟨w.heap.size, 2, none⟩ = some (.int .i64 (b' : Int)) ∧ W2.cell? ⟨w.heap.size, 3, none⟩ = some (.slice At x.length ct) := ⟨u1, u2, u3⟩
      have hS3 : W3.cell? ⟨w.heap.size, 1, none⟩ = some (.int .i64 (a' : Int)) ∧ W3.cell? ⟨w.heap.size, 2, none⟩ = some (.int .i64 (b' : Int)) ∧ W3.cell? ⟨w.heap.size, 3, none⟩ = some (.slice At x.length ct) := ⟨v1, v2, v3⟩
      have hS4 : W4.cell? ⟨w.heap.size, 1, none⟩ = some (.int .i64 (a' : Int)) ∧ W4.cell? ⟨w.heap.size, 2, none⟩ = some (.int .i64 (b' : Int)) ∧ W4.cell? ⟨w.heap.size, 3, none⟩ = some (.slice At x.length ct) := ⟨x1, x2, x3⟩
      go_region_held3 (fun W => W.cell? ⟨w.heap.size, 1, none⟩ = some (.int .i64 (a' : Int)) ∧ W.cell? ⟨w.heap.size, 2, none⟩ = some (.int .i64 (b' : Int)) ∧ W.cell? ⟨w.heap.size, 3, none⟩ = some (.slice At x.length ct)) (first | with_reducible exact hS0 | with_reducible exact hS1 | with_reducible exact hS2 | with_reducible exact hS3 | with_reducible exact hS4 | fail) (first
        | (with_reducible refine step_of_run2 r2 ?_ ?_; exact ⟨rfl, rfl, _, _, rfl, rfl, rfl⟩)
        | (with_reducible refine step_of_run2 r3 ?_ ?_; exact ⟨rfl, rfl, _, _, rfl, rfl, rfl⟩)
        | (with_reducible refine step_of_run2 r4 ?_ ?_; exact ⟨rfl, rfl, _, _, rfl, rfl, rfl⟩))
      all_goals
        have I := I4
        have hT0 : W4.cell? ⟨w.heap.size, 1, none⟩ = some (.int .i64 (a' : Int)) ∧ W4.cell? ⟨w.heap.size, 2, none⟩ = some (.int .i64 (b' : Int)) ∧ W4.cell? ⟨w.heap.size, 3, none⟩ = some (.slice At x.length ct) ∧ W4.cell? ⟨w3.heap.size, 0, none⟩ = some (.int .i64 (a' : Int)) ∧ W4.cell? ⟨w3.heap.size, 1, none⟩ = some (.slice Ad' nd' cd') ∧ W4.cell? ⟨w3.heap.size, 2, none⟩ = some (.slice Ai' ni' ci') := ⟨I4.out.op.cell 1, I4.out.op.cell 2, I4.out.op.cell 3, I4.out.ed.cell 0, I4.out.ed.cell 1, I4.out.ed.cell 2⟩
        clear hS0 hS1 hS2 hS3 hS4 r2 r3 r4 o1 o2 o3 q1 q2' q3 u1 u2 u3 v1 v2 v3 x1 x2 x3 S1 S2 I1 I2 I3
        go_wp2
        have D5 : Below W4.heap.size W4 W4.drew := (Below.refl _ _).drew
        have I := Lib.hid (I.out.below D5)
        have WR := Lib.hid (WR.out.below D5)
        have hT0 : W4.drew.cell? ⟨w.heap.size, 1, none⟩ = some (.int .i64 (a' : Int)) ∧ W4.drew.cell? ⟨w.heap.size, 2, none⟩ = some (.int .i64 (b' : Int)) ∧ W4.drew.cell? ⟨w.heap.size, 3, none⟩ = some (.slice At x.length ct) ∧ W4.drew.cell? ⟨w3.heap.size, 0, none⟩ = some (.int .i64 (a' : Int)) ∧ W4.drew.cell? ⟨w3.heap.size, 1, none⟩ = some (.slice Ad' nd' cd') ∧ W4.drew.cell? ⟨w3.heap.size, 2, none⟩ = some (.slice Ai' ni' ci') := ⟨I.out.op.cell 1, I.out.op.cell 2, I.out.op.cell 3, I.out.ed.cell 0, I.out.ed.cell 1, I.out.ed.cell 2⟩
        go_region_held3 (fun W => W.cell? ⟨w.heap.size, 1, none⟩ = some (.int .i64 (a' : Int)) ∧ W.cell? ⟨w.heap.size, 2, none⟩ = some (.int .i64 (b' : Int)) ∧ W.cell? ⟨w.heap.size, 3, none⟩ = some (.slice At x.length ct) ∧ W.cell? ⟨w3.heap.size, 0, none⟩ = some (.int .i64 (a' : Int)) ∧ W.cell? ⟨w3.heap.size, 1, none⟩ = some (.slice Ad' nd' cd') ∧ W.cell? ⟨w3.heap.size, 2, none⟩ = some (.slice Ai' ni' ci')) (first | with_reducible exact hT4 | with_reducible exact hT3 | with_reducible exact hT2 | with_reducible exact hT1 | with_reducible exact hT0 | fail) (first
          | (go_at_call 34; refine (CT.out _ I.out).mono ?_; rintro e w5 ⟨v5, rfl, hr5, hb⟩; have V5 := Lib.hid hr5; have tok1 : True := trivial; have I := Lib.hid (I.out.below hb); have WR := Lib.hid (WR.out.below hb); have hT1 : w5.cell? ⟨w.heap.size, 1, none⟩ = some (.int .i64 (a' : Int)) ∧ w5.cell? ⟨w.heap.size, 2, none⟩ = some (.int .i64 (b' : Int)) ∧ w5.cell? ⟨w.heap.size, 3, none⟩ = some (.slice At x.length ct) ∧ w5.cell? ⟨w3.heap.size, 0, none⟩ = some (.int .i64 (a' : Int)) ∧ w5.cell? ⟨w3.heap.size, 1, none⟩ = some (.slice Ad' nd' cd') ∧ w5.cell? ⟨w3.heap.size, 2, none⟩ = some (.slice Ai' ni' ci') := ⟨I.out.op.cell 1, I.out.op.cell 2, I.out.op.cell 3, I.out.ed.cell 0, I.out.ed.cell 1, I.out.ed.cell 2⟩; clear hb)
          | (go_at_call 33; have tk := tok1; clear tok1 tk; have tok2 : True := trivial; refine (CS1.out _ _ V5.out WR.out).mono ?_; rintro e w6 ⟨rfl, hb⟩; have I := Lib.hid (I.out.below hb); have WR := Lib.hid (WR.out.below hb); have V5 := Lib.hid (V5.out.below hb); have hT2 : w6.cell? ⟨w.heap.size, 1, none⟩ = some (.int .i64 (a' : Int)) ∧ w6.cell? ⟨w.heap.size, 2, none⟩ = some (.int .i64 (b' : Int)) ∧ w6.cell? ⟨w.heap.size, 3, none⟩ = some (.slice At x.length ct) ∧ w6.cell? ⟨w3.heap.size, 0, none⟩ = some (.int .i64 (a' : Int)) ∧ w6.cell? ⟨w3.heap.size, 1, none⟩ = some (.slice Ad' nd' cd') ∧ w6.cell? ⟨w3.heap.size, 2, none⟩ = some (.slice Ai' ni' ci') := ⟨I.out.op.cell 1, I.out.op.cell 2, I.out.op.cell 3, I.out.ed.cell 0, I.out.ed.cell 1, I.out.ed.cell 2⟩; clear hb)
          | (go_at_call 33; have tk := tok2; clear tok2 tk; have tok3 : True := trivial; refine (CS2.out _ I.out).mono ?_; rintro e w7 ⟨rfl, hb⟩; have I := Lib.hid (I.out.below hb); have WR := Lib.hid (WR.out.below hb); have V5 := Lib.hid (V5.out.below hb); have hT3 : w7.cell? ⟨w.heap.size, 1, none⟩ = some (.int .i64 (a' : Int)) ∧ w7.cell? ⟨w.heap.size, 2, none⟩ = some (.int .i64 (b' : Int)) ∧ w7.cell? ⟨w.heap.size, 3, none⟩ = some (.slice At x.length ct) ∧ w7.cell? ⟨w3.heap.size, 0, none⟩ = some (.int .i64 (a' : Int)) ∧ w7.cell? ⟨w3.heap.size, 1, none⟩ = some (.slice Ad' nd' cd') ∧ w7.cell? ⟨w3.heap.size, 2, none⟩ = some (.slice Ai' ni' ci') := ⟨I.out.op.cell 1, I.out.op.cell 2, I.out.op.cell 3, I.out.ed.cell 0, I.out.ed.cell 1, I.out.ed.cell 2⟩; clear hb)
          | (go_at_call 33; have tk := tok3; clear tok3 tk; have tok4 : True := trivial; refine (CS3.out _ I.out).mono ?_; rintro e w8 ⟨rfl, hb⟩; have I := Lib.hid (I.out.below hb); have WR := Lib.hid (WR.out.below hb); have V5 := Lib.hid (V5.out.below hb); have hT4 : w8.cell? ⟨w.heap.size, 1, none⟩ = some (.int .i64 (a' : Int)) ∧ w8.cell? ⟨w.heap.size, 2, none⟩ = some (.int .i64 (b' : Int)) ∧ w8.cell? ⟨w.heap.size, 3, none⟩ = some (.slice At x.length ct) ∧ w8.cell? ⟨w3.heap.size, 0, none⟩ = some (.int .i64 (a' : Int)) ∧ w8.cell? ⟨w3.heap.size, 1, none⟩ = some (.slice Ad' nd' cd') ∧ w8.cell? ⟨w3.heap.size, 2, none⟩ = some (.slice Ai' ni' ci') := ⟨I.out.op.cell 1, I.out.op.cell 2, I.out.op.cell 3, I.out.ed.cell 0, I.out.ed.cell 1, I.out.ed.cell 2⟩; clear hb))
        all_goals
          go_wp2
          go_ret
          exact ⟨rfl, I.out.b⟩
    · have he : replErr (newS l) a' b' x.length = 3 := by
        show (if ¬ ((0 : Int) ≤ a' ∧ (a' : Int) ≤ b' ∧ (b' : Int) ≤ (l.length : Int)) then (70 : Int) else if 1024 < (l.length : Int) - ((b' : Int) - a') + x.length then 3 else 0) = 3
        rw [if_neg (by omega), if_pos (by omega)]
      rw [he] at CR
      have i5 : ((1024 : Int) < (q2 : Int)) = True := by simp; omega
      have i6 : (1024 < q2) = True := by simp; omega
      clear hval he hb0 hs0 hop hT hl hx hfit e0 e1 e2 ha hb hlen hxl
      generalize l.length = n at *
      generalize x.length = m at *
      go_enter Tryd.func10, Tryd.ntmps10
      go_wp2_with (first
        | (go_at_call 11; refine (CN.out).mono ?_; rintro e w1 ⟨g, rfl, hS, hg, hop, hb1⟩; have H := Lib.hid hS; have HG := Lib.hid hg; have X := Lib.hid hop; have B := Lib.hid hb1; clear hS hg hop hb1)
        | (go_at_call 13; refine (CL.out _ B.out).mono ?_; rintro e w2 ⟨rfl, hb2⟩; have H := Lib.hid (H.out.below hb2); have X := Lib.hid (X.out.below hb2); have B := Lib.hid (B.out.trans (hb2.mono B.out.size)); have o1 := X.out.cell 1; have o2 := X.out.cell 2; have o3 := X.out.cell 3; clear hb2)
        | (go_at_call 15; refine (CR.out _ _ H.out HG.out X.out B.out).mono ?_; rintro e w3 ⟨Ad', nd', cd', Ai', ni', ci', rfl, hI⟩; have I := Lib.hid hI; have o1 := I.out.op.cell 1; have o2 := I.out.op.cell 2; have o3 := I.out.op.cell 3; clear hI))
      go_ret
      exact ⟨rfl, I.out.b⟩
  · have he : replErr (newS l) a b x.length = 70 := if_pos hval
    rw [he] at CR
    have hcase : a < 0 ∨ (¬ a < 0 ∧ b < a) ∨ (¬ a < 0 ∧ ¬ b < a ∧ (l.length : Int) < b) := by omega
    clear hval he hb0 hs0 hop hT hl hx
    generalize l.length = n at *
    generalize x.length = m at *
    rcases hcase with h1 | ⟨h1, h2⟩ | ⟨h1, h2, h3⟩
    · have i0 : (a < 0) = True := by simp; exact h1
      clear h1 ha hb
      go_enter Tryd.func10, Tryd.ntmps10
      go_wp2_with (first
        | (go_at_call 11; refine (CN.out).mono ?_; rintro e w1 ⟨g, rfl, hS, hg, hop, hb1⟩; have H := Lib.hid hS; have HG := Lib.hid hg; have X := Lib.hid hop; have B := Lib.hid hb1; clear hS hg hop hb1)
        | (go_at_call 13; refine (CL.out _ B.out).mono ?_; rintro e w2 ⟨rfl, hb2⟩; have H := Lib.hid (H.out.below hb2); have X := Lib.hid (X.out.below hb2); have B := Lib.hid (B.out.trans (hb2.mono B.out.size)); have o1 := X.out.cell 1; have o2 := X.out.cell 2; have o3 := X.out.cell 3; clear hb2)
        | (go_at_call 15; refine (CR.out _ _ H.out HG.out X.out B.out).mono ?_; rintro e w3 ⟨Ad', nd', cd', Ai', ni', ci', rfl, hI⟩; have I := Lib.hid hI; have o1 := I.out.op.cell 1; have o2 := I.out.op.cell 2; have o3 := I.out.op.cell 3; clear hI))
      go_ret
      exact ⟨rfl, I.out.b⟩
    · have i0 : (a < 0) = False := by simp; omega
      have i1 : (b < a) = True := by simp; exact h2
      clear h1 h2 ha hb
      go_enter Tryd.func10, Tryd.ntmps10
      go_wp2_with (first
        | (go_at_call 11; refine (CN.out).mono ?_; rintro e w1 ⟨g, rfl, hS, hg, hop, hb1⟩; have H := Lib.hid hS; have HG := Lib.hid hg; have X := Lib.hid hop; have B := Lib.hid hb1; clear hS hg hop hb1)
        | (go_at_call 13; refine (CL.out _ B.out).mono ?_; rintro e w2 ⟨rfl, hb2⟩; have H := Lib.hid (H.out.below hb2); have X := Lib.hid (X.out.below hb2); have B := Lib.hid (B.out.trans (hb2.mono B.out.size)); have o1 := X.out.cell 1; have o2 := X.out.cell 2; have o3 := X.out.cell 3; clear hb2)
        | (go_at_call 15; refine (CR.out _ _ H.out HG.out X.out B.out).mono ?_; rintro e w3 ⟨Ad', nd', cd', Ai', ni', ci', rfl, hI⟩; have I := Lib.hid hI; have o1 := I.out.op.cell 1; have o2 := I.out.op.cell 2; have o3 := I.out.op.cell 3; clear hI))
      go_ret
      exact ⟨rfl, I.out.b⟩
    · have i0 : (a < 0) = False := by simp; omega
      have i1 : (b < a) = False := by simp; omega
      have i2 : ((n : Int) < b) = True := by simp; exact h3
      clear h1 h2 h3 ha hb
      go_enter Tryd.func10, Tryd.ntmps10
      go_wp2_with (first
        | (go_at_call 11; refine (CN.out).mono ?_; rintro e w1 ⟨g, rfl, hS, hg, hop, hb1⟩; have H := Lib.hid hS; have HG := Lib.hid hg; have X := Lib.hid hop; have B := Lib.hid hb1; clear hS hg hop hb1)
        | (go_at_call 13; refine (CL.out _ B.out).mono ?_; rintro e w2 ⟨rfl, hb2⟩; have H := Lib.hid (H.out.below hb2); have X := Lib.hid (X.out.below hb2); have B := Lib.hid (B.out.trans (hb2.mono B.out.size)); have o1 := X.out.cell 1; have o2 := X.out.cell 2; have o3 := X.out.cell 3; clear hb2)
        | (go_at_call 15; refine (CR.out _ _ H.out HG.out X.out B.out).mono ?_; rintro e w3 ⟨Ad', nd', cd', Ai', ni', ci', rfl, hI⟩; have I := Lib.hid hI; have o1 := I.out.op.cell 1; have o2 := I.out.op.cell 2; have o3 := I.out.op.cell 3; clear hI))
      go_ret
      exact ⟨rfl, I.out.b⟩
theorem spl_any (w : World) (hT : WidTab w) (l : List Int) (lv : Value) (hl : Holds1 w lv (runeVals l)) (hlen : l.length ≤ 35184372088832) (o : OpB) (h : OpOk w o) : Calls Tryd.prog 10 #[lv, o.val] w fun e w' => e = .returned (.bool true) ∧ Below w.heap.size w w' := by
  obtain ⟨A0, c0, rfl, _⟩ := id hl
  rw [runeVals_length] at hl ⊢
  obtain ⟨⟨A1, c1, e1⟩, ⟨A2, c2, e2⟩, ⟨A3, c3, e3⟩⟩ := h.forms
  have ht := h.t
  rw [e1] at ht
  show Calls Tryd.prog 10 #[.slice A0 l.length c0, .agg #[.int .i64 o.k, .int .i64 o.a, .int .i64 o.b, o.tv, .int .i64 o.p, o.dv, o.iv]] w _
  rw [e1, e2, e3]
  by_cases hl2 : l.length ≤ 1024
  · exact spl_new w hT l A0 c0 hl hl2 _ _ _ _ _ o.x _ _ _ _ _ _ _ ht h.tl h.a0 h.b0
  · exact spl_long w hT l A0 c0 hl hlen _ _ _ _ _ _ _ _ _ _ _ _ _ hl2
end Go.Proofs.YtepbhmebidmnbaaDoor
