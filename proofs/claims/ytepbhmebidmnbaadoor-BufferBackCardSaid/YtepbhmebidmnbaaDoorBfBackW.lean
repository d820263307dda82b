/-
  What a change did is taken back by its reverse, and done again by itself: the law's walk.
-/
import Derived.Test.YtepbhmebidmnbaaDoorBfApply
import Derived.Test.YtepbhmebidmnbaaDoorBfNoneW
namespace Go.Proofs.YtepbhmebidmnbaaDoor
open Go.RowKit Go.Shelf Go.Lib
attribute [local go_sem] Oper.semAt_some

abbrev opArr (k a b : Int) (At : Option Addr) (nt ct : Nat) (p : Int) (Ad : Option Addr) (nd cd : Nat) (Ai : Option Addr) (ni ci : Nat) : Array Value := #[.int .i64 k, .int .i64 a, .int .i64 b, .slice At nt ct, .int .i64 p, .slice Ad nd cd, .slice Ai ni ci]
set_option maxRecDepth 1000000 in
set_option maxHeartbeats 8000000 in
theorem back_long (w : World) (hT : WidTab w) (l : List Int) (A0 : Option Addr) (c0 : Nat) (hl : Holds1 w (.slice A0 l.length c0) (runeVals l)) (hlen : l.length ≤ 35184372088832) (k a b p : Int) (At : Option Addr) (nt ct : Nat) (Ad : Option Addr) (nd cd : Nat) (Ai : Option Addr) (ni ci : Nat)
    (hlong : ¬ l.length ≤ 1024) :
    Calls Tryd.prog 5 #[.slice A0 l.length c0, .agg #[.int .i64 k, .int .i64 a, .int .i64 b, .slice At nt ct, .int .i64 p, .slice Ad nd cd, .slice Ai ni ci]] w fun e w' => e = .returned (.bool true) ∧ Below w.heap.size w w' := by
  have hb0 : Below w.heap.size w (w.alloc (.cells (opArr k a b At nt ct p Ad nd cd Ai ni ci) 35)) := (Below.refl _ _).alloc (Nat.le_refl _) _
  have CN : Hid (Calls Tryd.prog 11 #[.slice A0 l.length c0] (w.alloc (.cells (opArr k a b At nt ct p Ad nd cd Ai ni ci) 35)) fun e w' => e = .returned (.tuple #[.pointer none, .int .i64 3]) ∧ Below w.heap.size w w') := Lib.hid ((new_any _ l _ (hl.below hb0) (by omega)).mono (by
    rintro e w' ⟨⟨h1, _⟩ | ⟨_, rfl⟩, hb⟩
    · exact absurd h1 hlong
    · exact ⟨rfl, hb0.trans (hb.mono hb0.size)⟩))
  have CL := Lib.hid fun W (h : Below w.heap.size w W) => live_any W (hT.below h)
  have i1 : (((l.length : Nat) : Int) > 1024) = True := by simp; omega
  have i2 : ((1024 : Int) < ((l.length : Nat) : Int)) = True := by simp; omega
  have i3 : (1024 < l.length) = True := by simp; omega
  generalize l.length = n at *
  clear hb0 hl hlen hlong hT
  go_enter Tryd.func5, Tryd.ntmps5
  go_wp2_with (first
    | (go_at_call 11; refine (CN.out).mono ?_; rintro e w1 ⟨rfl, hb1⟩; have B1 := Lib.hid hb1; clear hb1)
    | (go_at_call 13; refine (CL.out _ B1.out).mono ?_; rintro e w2 ⟨rfl, hb2⟩; have B2 := Lib.hid (B1.out.trans (hb2.mono B1.out.size)); clear hb2))
  go_ret
  exact ⟨rfl, B2.out⟩
/-- between the law's calls -/
structure BkI (w wr : World) (g : Nat) (S : BS) (l : List Int) (lv : Value) (re : Nat) (p : Int) (dl il : List Int) (dv iv : Value) : Prop where
  s : BufAt wr g S
  l : OffR wr g lv l
  d : OffR wr g dv dl
  i : OffR wr g iv il
  ed : EBox wr re #[.int .i64 p, dv, iv]
  re : g < re
  b : Below w.heap.size w wr
  lt : w.heap.size < g
theorem BkI.touch {w wr wr' : World} {g : Nat} {S S' : BS} {l : List Int} {lv : Value} {re : Nat} {p : Int} {dl il : List Int} {dv iv : Value} (h : BkI w wr g S l lv re p dl il dv iv) (ht : Touch (Only g) wr wr') (hS : BufAt wr' g S') : BkI w wr' g S' l lv re p dl il dv iv :=
  ⟨hS, h.l.touch ht, h.d.touch ht, h.i.touch ht, h.ed.touch ht h.re, h.re, only_below h.b ht (Nat.le_of_lt h.lt), h.lt⟩
theorem BkI.below {w wr wr' : World} {g : Nat} {S : BS} {l : List Int} {lv : Value} {re : Nat} {p : Int} {dl il : List Int} {dv iv : Value} (h : BkI w wr g S l lv re p dl il dv iv) (hb : Below wr.heap.size wr wr') : BkI w wr' g S l lv re p dl il dv iv :=
  h.touch (Touch.of_below hb) (h.s.below hb)
/-- what the change and its reverse make of the line -/
theorem back_plain {l x : List Int} {a b : Nat} (hab : a ≤ b) (hb : b ≤ l.length) (hl : l.length ≤ 1024) (hfit : l.length - (b - a) + x.length ≤ 1024) :
    let S1 := replP (newS l) a b x
    applyErr S1 a x (partP l a b) = 0 ∧ (placeP S1 a = true → placeP S1 (a + x.length) = true) ∧ (applyS S1 a x (partP l a b)).l = l := by
  intro S1
  have e1 : S1.l = l.take a ++ (x ++ l.drop b) := rfl
  have hta : (l.take a).length = a := by rw [List.length_take]; omega
  have hlen : S1.l.length = a + (x.length + (l.length - b)) := by rw [e1, List.length_append, List.length_append, hta, List.length_drop]
  have hp1 : placeP S1 (a : Int) = true := by unfold placeP; rw [hlen]; simp; omega
  have hp2 : placeP S1 ((a : Int) + x.length) = true := by unfold placeP; rw [hlen]; simp; omega
  have hpart : partP S1.l a (a + x.length) = x := by
    unfold partP
    rw [e1, List.take_append, hta, List.take_of_length_le (by rw [hta]; omega), show a + x.length - a = x.length by omega, List.take_append_of_le_length (Nat.le_refl _), List.take_of_length_le (Nat.le_refl _), List.drop_append_of_le_length (by rw [hta]; exact Nat.le_refl _), List.drop_of_length_le (by rw [hta]; exact Nat.le_refl _), List.nil_append]
  have hpl : (partP l a b).length = b - a := partP_length hab hb
  have herr : replErr S1 a ((a : Int) + x.length) (partP l a b).length = 0 := by
    unfold replErr
    rw [hlen, hpl, if_neg (by omega), if_neg (by omega)]
  have hE : applyErr S1 a x (partP l a b) = 0 := by
    unfold applyErr
    rw [if_neg (by rw [hp1]; decide), if_neg (by rw [hp2]; decide), Int.toNat_natCast, if_pos hpart, herr]
  refine ⟨hE, fun _ => hp2, ?_⟩
  unfold applyS
  rw [if_pos hE]
  show S1.l.take (Int.toNat a) ++ (partP l a b ++ S1.l.drop (Int.toNat a + x.length)) = l
  rw [Int.toNat_natCast, e1, List.take_append_of_le_length (by rw [hta]; exact Nat.le_refl _), List.take_of_length_le (by rw [hta]; exact Nat.le_refl _)]
  have hd : (l.take a ++ (x ++ l.drop b)).drop (a + x.length) = l.drop b := by
    rw [List.drop_append, hta, List.drop_of_length_le (by rw [hta]; omega), List.nil_append, show a + x.length - a = x.length by omega, List.drop_append_of_le_length (Nat.le_refl _), List.drop_of_length_le (Nat.le_refl _), List.nil_append]
  rw [hd]
  have e2 : partP l a b ++ l.drop b = l.drop a := by
    unfold partP
    have : l.drop a = (l.take b ++ l.drop b).drop a := by rw [List.take_append_drop]
    rw [this, List.drop_append_of_le_length (by rw [List.length_take]; omega)]
  rw [e2, List.take_append_drop]
theorem again_plain {S : BS} {l x : List Int} {a b : Nat} (hab : a ≤ b) (hb : b ≤ l.length) (hS : S.l = l) (hfit : l.length - (b - a) + x.length ≤ 1024) :
    applyErr S a (partP l a b) x = 0 ∧ (placeP S a = true → placeP S (a + (partP l a b).length) = true) ∧ (applyS S a (partP l a b) x).l = (replP (newS l) a b x).l := by
  have hpl : (partP l a b).length = b - a := partP_length hab hb
  have hp1 : placeP S (a : Int) = true := by unfold placeP; rw [hS]; simp; omega
  have hp2 : placeP S ((a : Int) + (partP l a b).length) = true := by unfold placeP; rw [hS, hpl]; simp; omega
  have ea : a + (partP l a b).length = b := by rw [hpl]; omega
  have herr : replErr S a ((a : Int) + (partP l a b).length) x.length = 0 := by
    unfold replErr
    rw [hS, hpl, if_neg (by omega), if_neg (by omega)]
  have hE : applyErr S a (partP l a b) x = 0 := by
    unfold applyErr
    rw [if_neg (by rw [hp1]; decide), if_neg (by rw [hp2]; decide), Int.toNat_natCast, if_pos (by rw [hS, ea]), herr]
  refine ⟨hE, fun _ => hp2, ?_⟩
  unfold applyS
  rw [if_pos hE]
  show S.l.take (Int.toNat a) ++ (x ++ S.l.drop (Int.toNat a + (partP l a b).length)) = l.take a ++ (x ++ l.drop b)
  rw [Int.toNat_natCast, hS, ea]
set_option maxRecDepth 1000000 in
set_option maxHeartbeats 8000000 in
theorem back_new (w : World) (hT : WidTab w) (l : List Int) (A0 : Option Addr) (c0 : Nat) (hl : Holds1 w (.slice A0 l.length c0) (runeVals l)) (hlen : l.length ≤ 1024) (k a b p : Int) (At : Option Addr) (x : List Int) (ct : Nat) (Ad : Option Addr) (nd cd : Nat) (Ai : Option Addr) (ni ci : Nat)
    (hx : Holds1 w (.slice At x.length ct) (runeVals x)) (hxl : x.length ≤ 35184372088832) :
    Calls Tryd.prog 5 #[.slice A0 l.length c0, .agg #[.int .i64 k, .int .i64 a, .int .i64 b, .slice At x.length ct, .int .i64 p, .slice Ad nd cd, .slice Ai ni ci]] w fun e w' => e = .returned (.bool true) ∧ Below w.heap.size w w' := by
  have hb0 : Below w.heap.size w (w.alloc (.cells (opArr k a b At x.length ct p Ad nd cd Ai ni ci) 35)) := (Below.refl _ _).alloc (Nat.le_refl _) _
  have hs0 : (w.alloc (.cells (opArr k a b At x.length ct p Ad nd cd Ai ni ci) 35)).heap.size = w.heap.size + 1 := by simp
  have hop : OpBox (w.alloc (.cells (opArr k a b At x.length ct p Ad nd cd Ai ni ci) 35)) w.heap.size (opArr k a b At x.length ct p Ad nd cd Ai ni ci) := alloc_new _ _
  have CN : Hid (Calls Tryd.prog 11 #[.slice A0 l.length c0] (w.alloc (.cells (opArr k a b At x.length ct p Ad nd cd Ai ni ci) 35)) fun e w' => ∃ g, e = .returned (.tuple #[.pointer (some ⟨g, 0, none⟩), .int .i64 0]) ∧ BufAt w' g (newS l) ∧ w.heap.size < g ∧ OpBox w' w.heap.size (opArr k a b At x.length ct p Ad nd cd Ai ni ci) ∧ Below w.heap.size w w') := Lib.hid ((new_any _ l _ (hl.below hb0) (by omega)).mono (by
    rintro e w' ⟨⟨_, g, rfl, h1, h2⟩ | ⟨h1, _⟩, hb⟩
    · exact ⟨g, rfl, h1, by rw [hs0] at h2; omega, hop.below hb, hb0.trans (hb.mono hb0.size)⟩
    · exact absurd hlen h1))
  have CL := Lib.hid fun W (h : Below w.heap.size w W) => live_any W (hT.below h)
  obtain ⟨ep, hep⟩ : ∃ ep, ep = (rE (newS l) a b x).1 := ⟨_, rfl⟩
  obtain ⟨ed, hed⟩ : ∃ ed, ed = (rE (newS l) a b x).2.1 := ⟨_, rfl⟩
  obtain ⟨ei, hei⟩ : ∃ ei, ei = (rE (newS l) a b x).2.2 := ⟨_, rfl⟩
  obtain ⟨S1, hS1⟩ : ∃ S1, S1 = rS (newS l) a b x := ⟨_, rfl⟩
  obtain ⟨code, hcode⟩ : ∃ code, code = replErr (newS l) a b x.length := ⟨_, rfl⟩
  have CR : Hid (∀ W g, BufAt W g (newS l) → w.heap.size < g → OpBox W w.heap.size (opArr k a b At x.length ct p Ad nd cd Ai ni ci) → Below w.heap.size w W → Calls Tryd.prog 15 #[.pointer (some ⟨g, 0, none⟩), .int .i64 a, .int .i64 b, .slice At x.length ct] W fun e w' => ∃ Ad' nd' cd' Ai' ni' ci', e = .returned (.tuple #[editV ep (.slice Ad' nd' cd') (.slice Ai' ni' ci'), .int .i64 code]) ∧
      BkI w (w'.alloc (.cells #[.int .i64 ep, .slice Ad' nd' cd', .slice Ai' ni' ci'] 33)) g S1 l (.slice A0 l.length c0) w'.heap.size ep ed ei (.slice Ad' nd' cd') (.slice Ai' ni' ci')) := Lib.hid fun W g h1 h2 h3 h4 => by
    refine (replace_any W g _ h1 a b x _ (OffR.of hx h4 (Nat.le_of_lt h2)) (by omega)).mono ?_
    rw [hep, hed, hei, hS1, hcode]
    rintro e w' ⟨dv, iv, rfl, hd, hi, hS, ht⟩
    obtain ⟨Ad', nd', cd', rfl⟩ := hd.form3
    obtain ⟨Ai', ni', ci', rfl⟩ := hi.form3
    have hg := h1.lt
    have hb1 := only_below h4 ht (Nat.le_of_lt h2)
    have hb2 : Below w'.heap.size w' (w'.alloc (.cells #[.int .i64 (rE (newS l) a b x).1, .slice Ad' nd' cd', .slice Ai' ni' ci'] 33)) := (Below.refl _ _).alloc (Nat.le_refl _) _
    exact ⟨Ad', nd', cd', Ai', ni', ci', rfl, ⟨hS.below hb2, (OffR.of hl (hb1.trans (hb2.mono hb1.size)) (Nat.le_of_lt h2)), (hd.off hg).touch (Touch.of_below hb2), (hi.off hg).touch (Touch.of_below hb2), alloc_new _ _, Nat.lt_of_lt_of_le hg ht.size, hb1.trans (hb2.mono hb1.size), h2⟩⟩
  have HLEN := Lib.hid hlen
  have HXL := Lib.hid hxl
  by_cases he : code = 0
  · have hr : 0 ≤ a ∧ a ≤ b ∧ b ≤ (l.length : Int) ∧ (l.length : Int) - (b - a) + x.length ≤ 1024 := by
      have he2 := he
      rw [hcode] at he2
      change (if ¬ (0 ≤ a ∧ a ≤ b ∧ b ≤ (l.length : Int)) then (70 : Int) else if 1024 < (l.length : Int) - (b - a) + x.length then 3 else 0) = 0 at he2
      split at he2
      · cases he2
      · split at he2
        · cases he2
        · omega
    obtain ⟨a', rfl⟩ : ∃ a' : Nat, a = a' := ⟨a.toNat, by omega⟩
    obtain ⟨b', rfl⟩ : ∃ b' : Nat, b = b' := ⟨b.toNat, by omega⟩
    have h0 : replErr (newS l) a' b' x.length = 0 := by rw [← hcode]; exact he
    have eE : rE (newS l) a' b' x = ((a' : Int), partP l a' b', x) := by unfold rE; rw [if_pos h0]; rfl
    have eS : rS (newS l) a' b' x = replP (newS l) a' b' x := by unfold rS; rw [if_pos h0]; rfl
    have p1 : ep = (a' : Int) := by rw [hep, eE]
    have p2 : ed = partP l a' b' := by rw [hed, eE]
    have p3 : ei = x := by rw [hei, eE]
    have p4 : S1 = replP (newS l) a' b' x := by rw [hS1, eS]
    clear hep hed hei hS1
    subst p1 p2 p3
    rw [he] at CR
    have hxs : ei.length ≤ 1024 := by omega
    have hds : (partP l a' b').length ≤ 1024 := by rw [partP_length (by omega) (by omega)]; omega
    obtain ⟨k1, k2, k3⟩ := back_plain (l := l) (x := ei) (a := a') (b := b') (by omega) (by omega) hlen (by omega)
    rw [← p4] at k1 k2 k3
    obtain ⟨S2, eS2⟩ : ∃ S2, S2 = applyS S1 a' ei (partP l a' b') := ⟨_, rfl⟩
    rw [← eS2] at k3
    obtain ⟨m1, m2, m3⟩ := again_plain (S := S2) (l := l) (x := ei) (a := a') (b := b') (by omega) (by omega) k3 (by omega)
    obtain ⟨S3, eS3⟩ : ∃ S3, S3 = applyS S2 a' (partP l a' b') ei := ⟨_, rfl⟩
    rw [← eS3, ← p4] at m3
    obtain ⟨dl, hdl⟩ : ∃ dl, dl = partP l a' b' := ⟨_, rfl⟩
    rw [← hdl] at CR k1 eS2 m1 m2 eS3 hds
    have hS1l : S1.l.length ≤ 1024 := by
      rw [p4]
      show (l.take a' ++ (ei ++ l.drop b')).length ≤ 1024
      rw [List.length_append, List.length_append, List.length_take, List.length_drop]
      omega
    have CT1 := Lib.hid fun W g (h : BufAt W g S1) => textB_any W g _ h
    have CT2 : Hid (∀ W g, BufAt W g S2 → Calls Tryd.prog 34 #[.pointer (some ⟨g, 0, none⟩)] W fun e w' => ∃ v, e = .returned v ∧ RRow w' W.heap.size v l ∧ Below W.heap.size W w') := Lib.hid fun W g h => by
      have := textB_any W g _ h
      rwa [k3] at this
    have CT3 : Hid (∀ W g, BufAt W g S3 → Calls Tryd.prog 34 #[.pointer (some ⟨g, 0, none⟩)] W fun e w' => ∃ v, e = .returned v ∧ RRow w' W.heap.size v S1.l ∧ Below W.heap.size W w') := Lib.hid fun W g h => by
      have := textB_any W g _ h
      rwa [m3] at this
    have CV := Lib.hid fun W v1 v2 (xy : List Int × List Int) (h1 : Holds1 W v1 (runeVals dl)) (h2 : Holds1 W v2 (runeVals ei)) => reverse_any W (a' : Int) dl ei v1 v2 h1 h2 (by omega) (by omega)
    have CV2 := Lib.hid fun W v1 v2 (h1 : Holds1 W v1 (runeVals ei)) (h2 : Holds1 W v2 (runeVals dl)) => reverse_any W (a' : Int) ei dl v1 v2 h1 h2 (by omega) (by omega)
    have CA1 : Hid (∀ W g dv iv, BufAt W g S1 → Holds1 W dv (runeVals ei) → OffR W g iv dl → Calls Tryd.prog 36 #[.pointer (some ⟨g, 0, none⟩), editV (a' : Int) dv iv] W (OpPost W g S2 0)) := Lib.hid fun W g dv iv h h1 h2 => by
      have := apply_fits W g S1 h a' ei dl dv iv h1 h2 (by omega) (by omega) (by rw [hdl] at *; exact k2)
      rwa [k1, ← eS2] at this
    have CA2 : Hid (∀ W g dv iv, BufAt W g S2 → Holds1 W dv (runeVals dl) → OffR W g iv ei → Calls Tryd.prog 36 #[.pointer (some ⟨g, 0, none⟩), editV (a' : Int) dv iv] W (OpPost W g S3 0)) := Lib.hid fun W g dv iv h h1 h2 => by
      have := apply_fits W g S2 h a' dl ei dv iv h1 h2 (by omega) (by omega) m2
      rwa [m1, ← eS3] at this
    have CS2 : Hid (∀ W v, Holds1 W v (runeVals l) → Holds1 W (.slice A0 l.length c0) (runeVals l) → Calls Tryd.prog 33 #[v, .slice A0 l.length c0] W fun e w' => e = .returned (.bool true) ∧ Below W.heap.size W w') := Lib.hid fun W v h1 h2 => (same_any W _ _ _ _ h1 h2 (by omega)).mono (by
      rintro e w' ⟨rfl, h⟩
      exact ⟨by rw [decide_eq_true rfl], h⟩)
    have CS3 : Hid (∀ W v u, Holds1 W v (runeVals S1.l) → Holds1 W u (runeVals S1.l) → Calls Tryd.prog 33 #[v, u] W fun e w' => e = .returned (.bool true) ∧ Below W.heap.size W w') := Lib.hid fun W v u h1 h2 => (same_any W _ _ _ _ h1 h2 (by omega)).mono (by
      rintro e w' ⟨rfl, h⟩
      exact ⟨by rw [decide_eq_true rfl], h⟩)
    have CE := Lib.hid fun W v1 v2 u1 u2 (h1 : Holds1 W v1 (runeVals dl)) (h2 : Holds1 W v2 (runeVals ei)) (h3 : Holds1 W u1 (runeVals dl)) (h4 : Holds1 W u2 (runeVals ei)) => sameEdit_eq W (a' : Int) dl ei v1 v2 u1 u2 h1 h2 h3 h4 (by omega) (by omega)
    clear hb0 hs0 hop hT hl hx hcode he hlen hxl hr h0 eE eS p4 hxs hds k1 k2 k3 eS2 m1 m2 m3 eS3 hdl hS1l
    go_enter Tryd.func5, Tryd.ntmps5
    go_wp2_with (first
      | (go_at_call 11; refine (CN.out).mono ?_; rintro e w1 ⟨g, rfl, hS, hg, hop, hb1⟩; have H := Lib.hid hS; have HG := Lib.hid hg; have X := Lib.hid hop; have B := Lib.hid hb1; clear hS hg hop hb1)
      | (go_at_call 13; refine (CL.out _ B.out).mono ?_; rintro e w2 ⟨rfl, hb2⟩; have H := Lib.hid (H.out.below hb2); have X := Lib.hid (X.out.below hb2); have B := Lib.hid (B.out.trans (hb2.mono B.out.size)); have o1 := X.out.cell 1; have o2 := X.out.cell 2; have o3 := X.out.cell 3; clear hb2)
      | (go_at_call 15; refine (CR.out _ _ H.out HG.out X.out B.out).mono ?_; rintro e w3 ⟨Ad', nd', cd', Ai', ni', ci', rfl, hI⟩; have I := Lib.hid hI; have e0 := I.out.ed.cell 0; have e1 := I.out.ed.cell 1; have e2 := I.out.ed.cell 2; have tok1 : True := trivial; clear hI)
      | (go_at_call 34; have tk := tok1; refine (CT1.out _ _ I.out.s).mono ?_; rintro e w4 ⟨v4, rfl, hv, hb⟩; obtain ⟨At4, nt4, ct4, rfl⟩ := hv.form3; have TV := Lib.hid ((hv.off I.out.s.lt).touch (Touch.refl _ _)); have I := Lib.hid (I.out.below hb); have e0 := I.out.ed.cell 0; have e1 := I.out.ed.cell 1; have e2 := I.out.ed.cell 2; have tok2 : True := trivial; clear hv hb tk tok1)
      | (go_at_call 37; have tk := tok2; refine (CV.out _ _ _ ([], []) I.out.d.holds I.out.i.holds).mono ?_; rintro e w5 ⟨u1, u2, rfl, hu1, hu2, hb⟩; obtain ⟨Bu1, bn1, bc1, rfl⟩ := hu1.form3; obtain ⟨Bu2, bn2, bc2, rfl⟩ := hu2.form3; have U1 := Lib.hid (hu1.off I.out.s.lt); have U2 := Lib.hid (hu2.off I.out.s.lt); have TV := Lib.hid (TV.out.touch (Touch.of_below hb)); have I := Lib.hid (I.out.below hb); have tok3 : True := trivial; clear hu1 hu2 hb tk tok2)
      | (go_at_call 36; have tk := tok3; refine (CA1.out _ _ _ _ I.out.s U1.out.holds U2.out).mono ?_; rintro e w6 ⟨rfl, hS, ht⟩; have TV := Lib.hid (TV.out.touch ht); have I := Lib.hid (I.out.touch ht hS); have e0 := I.out.ed.cell 0; have e1 := I.out.ed.cell 1; have e2 := I.out.ed.cell 2; have tok4 : True := trivial; clear hS ht tk tok3)
      | (go_at_call 34; have tk := tok4; refine (CT2.out _ _ I.out.s).mono ?_; rintro e w7 ⟨v7, rfl, hv, hb⟩; have V7 := Lib.hid hv.holds; have TV := Lib.hid (TV.out.touch (Touch.of_below hb)); have I := Lib.hid (I.out.below hb); have e0 := I.out.ed.cell 0; have e1 := I.out.ed.cell 1; have e2 := I.out.ed.cell 2; have tok5 : True := trivial; clear hv hb tk tok4)
      | (go_at_call 33; have tk := tok5; refine (CS2.out _ _ V7.out I.out.l.holds).mono ?_; rintro e w8 ⟨rfl, hb⟩; have TV := Lib.hid (TV.out.touch (Touch.of_below hb)); have I := Lib.hid (I.out.below hb); have e0 := I.out.ed.cell 0; have e1 := I.out.ed.cell 1; have e2 := I.out.ed.cell 2; have tok6 : True := trivial; clear hb tk tok5))
    have D0 : Below w8.heap.size w8 w8.drew := (Below.refl _ _).drew
    have TV := Lib.hid (TV.out.touch (Touch.of_below D0))
    have I := Lib.hid (I.out.below D0)
    have hT0 : w8.drew.cell? ⟨w3.heap.size, 0, none⟩ = some (.int .i64 (a' : Int)) ∧ w8.drew.cell? ⟨w3.heap.size, 1, none⟩ = some (.slice Ad' nd' cd') ∧ w8.drew.cell? ⟨w3.heap.size, 2, none⟩ = some (.slice Ai' ni' ci') := ⟨I.out.ed.cell 0, I.out.ed.cell 1, I.out.ed.cell 2⟩
    go_region_held3 (fun W => W.cell? ⟨w3.heap.size, 0, none⟩ = some (.int .i64 (a' : Int)) ∧ W.cell? ⟨w3.heap.size, 1, none⟩ = some (.slice Ad' nd' cd') ∧ W.cell? ⟨w3.heap.size, 2, none⟩ = some (.slice Ai' ni' ci')) (first | with_reducible exact hT6 | with_reducible exact hT5 | with_reducible exact hT4 | with_reducible exact hT3 | with_reducible exact hT2 | with_reducible exact hT1 | with_reducible exact hT0 | fail) (first
      | (go_at_call 36; have tk := tok6; refine (CA2.out _ _ _ _ I.out.s I.out.d.holds I.out.i).mono ?_; rintro e w9 ⟨rfl, hS, ht⟩; have TV := Lib.hid (TV.out.touch ht); have I := Lib.hid (I.out.touch ht hS); have hT1 : w9.cell? ⟨w3.heap.size, 0, none⟩ = some (.int .i64 (a' : Int)) ∧ w9.cell? ⟨w3.heap.size, 1, none⟩ = some (.slice Ad' nd' cd') ∧ w9.cell? ⟨w3.heap.size, 2, none⟩ = some (.slice Ai' ni' ci') := ⟨I.out.ed.cell 0, I.out.ed.cell 1, I.out.ed.cell 2⟩; have tok7 : True := trivial; clear hS ht tk tok6)
      | (go_at_call 34; have tk := tok7; refine (CT3.out _ _ I.out.s).mono ?_; rintro e w10 ⟨v10, rfl, hv, hb⟩; have V10 := Lib.hid hv.holds; have TV := Lib.hid (TV.out.touch (Touch.of_below hb)); have I := Lib.hid (I.out.below hb); have hT2 : w10.cell? ⟨w3.heap.size, 0, none⟩ = some (.int .i64 (a' : Int)) ∧ w10.cell? ⟨w3.heap.size, 1, none⟩ = some (.slice Ad' nd' cd') ∧ w10.cell? ⟨w3.heap.size, 2, none⟩ = some (.slice Ai' ni' ci') := ⟨I.out.ed.cell 0, I.out.ed.cell 1, I.out.ed.cell 2⟩; have tok8 : True := trivial; clear hv hb tk tok7)
      | (go_at_call 33; have tk := tok8; refine (CS3.out _ _ _ V10.out TV.out.holds).mono ?_; rintro e w11 ⟨rfl, hb⟩; have I := Lib.hid (I.out.below hb); have hT3 : w11.cell? ⟨w3.heap.size, 0, none⟩ = some (.int .i64 (a' : Int)) ∧ w11.cell? ⟨w3.heap.size, 1, none⟩ = some (.slice Ad' nd' cd') ∧ w11.cell? ⟨w3.heap.size, 2, none⟩ = some (.slice Ai' ni' ci') := ⟨I.out.ed.cell 0, I.out.ed.cell 1, I.out.ed.cell 2⟩; have tok9 : True := trivial; clear hb tk tok8)
      | (go_at_call 37; have tk := tok9; refine (CV.out _ _ _ ([], []) I.out.d.holds I.out.i.holds).mono ?_; rintro e w12 ⟨u3, u4, rfl, hu1, hu2, hb⟩; have U3 := Lib.hid hu1.holds; have U4 := Lib.hid hu2.holds; have I := Lib.hid (I.out.below hb); have hT4 : w12.cell? ⟨w3.heap.size, 0, none⟩ = some (.int .i64 (a' : Int)) ∧ w12.cell? ⟨w3.heap.size, 1, none⟩ = some (.slice Ad' nd' cd') ∧ w12.cell? ⟨w3.heap.size, 2, none⟩ = some (.slice Ai' ni' ci') := ⟨I.out.ed.cell 0, I.out.ed.cell 1, I.out.ed.cell 2⟩; have tok10 : True := trivial; clear hu1 hu2 hb tk tok9)
      | (go_at_call 37; have tk := tok10; refine (CV2.out _ _ _ U3.out U4.out).mono ?_; rintro e w13 ⟨u5, u6, rfl, hu1, hu2, hb⟩; have U5 := Lib.hid hu1.holds; have U6 := Lib.hid hu2.holds; have I := Lib.hid (I.out.below hb); have hT5 : w13.cell? ⟨w3.heap.size, 0, none⟩ = some (.int .i64 (a' : Int)) ∧ w13.cell? ⟨w3.heap.size, 1, none⟩ = some (.slice Ad' nd' cd') ∧ w13.cell? ⟨w3.heap.size, 2, none⟩ = some (.slice Ai' ni' ci') := ⟨I.out.ed.cell 0, I.out.ed.cell 1, I.out.ed.cell 2⟩; have tok11 : True := trivial; clear hu1 hu2 hb tk tok10)
      | (go_at_call 38; refine (CE.out _ _ _ _ _ U5.out U6.out I.out.d.holds I.out.i.holds).mono ?_; rintro e w14 ⟨rfl, hb⟩; have I := Lib.hid (I.out.below hb); have hT6 : w14.cell? ⟨w3.heap.size, 0, none⟩ = some (.int .i64 (a' : Int)) ∧ w14.cell? ⟨w3.heap.size, 1, none⟩ = some (.slice Ad' nd' cd') ∧ w14.cell? ⟨w3.heap.size, 2, none⟩ = some (.slice Ai' ni' ci') := ⟨I.out.ed.cell 0, I.out.ed.cell 1, I.out.ed.cell 2⟩; clear hb))
    all_goals
      go_wp2
      go_ret
      exact ⟨rfl, I.out.b⟩
  · have i0 : (code == 0) = false := by simpa using he
    have i1 : (code = 0) = False := by simpa using he
    have hS : S1 = newS l := by rw [hS1]; unfold rS; rw [if_neg (by rw [← hcode]; exact he)]
    subst hS
    have CT : Hid (∀ W g re dv iv, BkI w W g (newS l) l (.slice A0 l.length c0) re ep ed ei dv iv → Calls Tryd.prog 34 #[.pointer (some ⟨g, 0, none⟩)] W fun e w' => ∃ v, e = .returned v ∧ Holds1 w' v (runeVals l) ∧ Below W.heap.size W w') := Lib.hid fun W g _ _ _ h => (textB_any W g _ h.s).mono (by
      rintro e w' ⟨v, rfl, h1, h2⟩
      exact ⟨v, rfl, h1.holds, h2⟩)
    have CS : Hid (∀ W v, Holds1 W v (runeVals l) → Holds1 W (.slice A0 l.length c0) (runeVals l) → Calls Tryd.prog 33 #[v, .slice A0 l.length c0] W fun e w' => e = .returned (.bool true) ∧ Below W.heap.size W w') := Lib.hid fun W v h1 h2 => (same_any W _ _ _ _ h1 h2 (by omega)).mono (by
      rintro e w' ⟨rfl, h⟩
      exact ⟨by rw [decide_eq_true rfl], h⟩)
    have CP : Hid (∀ W g re dv iv, BkI w W g (newS l) l (.slice A0 l.length c0) re ep ed ei dv iv → Calls Tryd.prog 35 #[.pointer (some ⟨g, 0, none⟩)] W fun e w' => e = .returned (.int .i64 ((l.length : Nat) : Int)) ∧ W = w') := Lib.hid fun W g _ _ _ h => pointB_any W g _ h.s
    clear hb0 hs0 hop hT hl hx hep hed hei hS1 hcode he hlen hxl
    go_enter Tryd.func5, Tryd.ntmps5
    go_wp2_with (first
      | (go_at_call 11; refine (CN.out).mono ?_; rintro e w1 ⟨g, rfl, hS, hg, hop, hb1⟩; have H := Lib.hid hS; have HG := Lib.hid hg; have X := Lib.hid hop; have B := Lib.hid hb1; clear hS hg hop hb1)
      | (go_at_call 13; refine (CL.out _ B.out).mono ?_; rintro e w2 ⟨rfl, hb2⟩; have H := Lib.hid (H.out.below hb2); have X := Lib.hid (X.out.below hb2); have B := Lib.hid (B.out.trans (hb2.mono B.out.size)); have o1 := X.out.cell 1; have o2 := X.out.cell 2; have o3 := X.out.cell 3; clear hb2)
      | (go_at_call 15; refine (CR.out _ _ H.out HG.out X.out B.out).mono ?_; rintro e w3 ⟨Ad', nd', cd', Ai', ni', ci', rfl, hI⟩; have I := Lib.hid hI; have tok1 : True := trivial; clear hI)
      | (go_at_call 34; refine (CT.out _ _ _ _ _ I.out).mono ?_; rintro e w4 ⟨v4, rfl, hv, hb⟩; have V := Lib.hid hv; have I := Lib.hid (I.out.below hb); clear hv hb)
      | (go_at_call 33; refine (CS.out _ _ V.out I.out.l.holds).mono ?_; rintro e w5 ⟨rfl, hb⟩; have I := Lib.hid (I.out.below hb); clear hb)
      | (go_at_call 35; refine (CP.out _ _ _ _ _ I.out).mono ?_; rintro e w6 ⟨rfl, rfl⟩))
    go_ret
    exact ⟨rfl, I.out.b⟩
theorem backlaw_any (w : World) (hT : WidTab w) (l : List Int) (lv : Value) (hl : Holds1 w lv (runeVals l)) (hlen : l.length ≤ 35184372088832) (o : OpB) (h : OpOk w o) : Calls Tryd.prog 5 #[lv, o.val] w fun e w' => e = .returned (.bool true) ∧ Below w.heap.size w w' := by
  obtain ⟨A0, c0, rfl, _⟩ := id hl
  rw [runeVals_length] at hl ⊢
  obtain ⟨⟨A1, c1, e1⟩, ⟨A2, c2, e2⟩, ⟨A3, c3, e3⟩⟩ := h.forms
  have ht := h.t
  rw [e1] at ht
  show Calls Tryd.prog 5 #[.slice A0 l.length c0, .agg #[.int .i64 o.k, .int .i64 o.a, .int .i64 o.b, o.tv, .int .i64 o.p, o.dv, o.iv]] w _
  rw [e1, e2, e3]
  by_cases hl2 : l.length ≤ 1024
  · exact back_new w hT l A0 c0 hl hl2 _ _ _ _ _ o.x _ _ _ _ _ _ _ ht h.tl
  · exact back_long w hT l A0 c0 hl hlen _ _ _ _ _ _ _ _ _ _ _ _ _ hl2
end Go.Proofs.YtepbhmebidmnbaaDoor
