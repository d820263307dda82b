/-
  Whatever is done, point and mark are places of the line; what is refused changes nothing: the law's walk.
-/
import Derived.Test.YtepbhmebidmnbaaDoorBfApply2
import Derived.Test.YtepbhmebidmnbaaDoorBfNoneW
import Derived.Test.YtepbhmebidmnbaaDoorBfScr
namespace Go.Proofs.YtepbhmebidmnbaaDoor
open Go.RowKit Go.Shelf Go.Lib
attribute [local go_sem] Oper.semAt_some

abbrev opArr (k a b : Int) (At : Option Addr) (nt ct : Nat) (p : Int) (Ad : Option Addr) (nd cd : Nat) (Ai : Option Addr) (ni ci : Nat) : Array Value := #[.int .i64 k, .int .i64 a, .int .i64 b, .slice At nt ct, .int .i64 p, .slice Ad nd cd, .slice Ai ni ci]
set_option maxRecDepth 1000000 in
set_option maxHeartbeats 8000000 in
theorem stays_long (w : World) (hT : WidTab w) (l : List Int) (A0 : Option Addr) (c0 : Nat) (hl : Holds1 w (.slice A0 l.length c0) (runeVals l)) (hlen : l.length ≤ 35184372088832) (sv : Value) (hlong : ¬ l.length ≤ 1024) :
    Calls Tryd.prog 6 #[.slice A0 l.length c0, sv] w fun e w' => e = .returned (.bool true) ∧ Below w.heap.size w w' := by
  have CN : Hid (Calls Tryd.prog 11 #[.slice A0 l.length c0] w fun e w' => e = .returned (.tuple #[.pointer none, .int .i64 3]) ∧ Below w.heap.size w w') := Lib.hid ((new_any _ l _ hl (by omega)).mono (by
    rintro e w' ⟨⟨h1, _⟩ | ⟨_, rfl⟩, hb⟩
    · exact absurd h1 hlong
    · exact ⟨rfl, hb⟩))
  have CL := Lib.hid fun W (h : Below w.heap.size w W) => live_any W (hT.below h)
  have i1 : (((l.length : Nat) : Int) > 1024) = True := by simp; omega
  have i2 : ((1024 : Int) < ((l.length : Nat) : Int)) = True := by simp; omega
  have i3 : (1024 < l.length) = True := by simp; omega
  generalize l.length = n at *
  clear hl hlen hlong hT
  go_enter Tryd.func6, Tryd.ntmps6
  go_wp2_with (first
    | (go_at_call 11; refine (CN.out).mono ?_; rintro e w1 ⟨rfl, hb1⟩; have B1 := Lib.hid hb1; clear hb1)
    | (go_at_call 13; refine (CL.out _ B1.out).mono ?_; rintro e w2 ⟨rfl, hb2⟩; have B2 := Lib.hid (B1.out.trans (hb2.mono B1.out.size)); clear hb2))
  go_ret
  exact ⟨rfl, B2.out⟩
/-- between two operations -/
structure StI (w wr : World) (g : Nat) (S : BS) : Prop where
  s : BufAt wr g S
  b : Below w.heap.size w wr
  lt : w.heap.size ≤ g
theorem StI.touch {w wr wr' : World} {g : Nat} {S S' : BS} (h : StI w wr g S) (ht : Touch (Only g) wr wr') (hS : BufAt wr' g S') : StI w wr' g S' := ⟨hS, only_below h.b ht h.lt, h.lt⟩
theorem StI.below {w wr wr' : World} {g : Nat} {S : BS} (h : StI w wr g S) (hb : Below wr.heap.size wr wr') : StI w wr' g S := h.touch (Touch.of_below hb) (h.s.below hb)
theorem LBox.touch {W W' : World} {r g : Nat} {v : Array Value} (h : LBox W r v) (ht : Touch (Only g) W W') (hr : g < r) : LBox W' r v := (ht.block r (Array.getElem?_eq_some_iff.1 h).1 (fun e => by simp only [Only] at e; omega)).trans h
theorem move_same {S : BS} {k : Int} (h : ¬ moveErr S k = 0) : moveS S k = S := by
  by_cases q : placeP S k = true
  · exact absurd (if_pos q) h
  · exact if_neg q
theorem mark_same {S : BS} {k : Int} (h : ¬ markErr S k = 0) : markS S k = S := by
  by_cases q : k = -1 ∨ placeP S k = true
  · exact absurd (if_pos q) h
  · exact if_neg q
theorem swap_same {S : BS} (h : ¬ swapErr S = 0) : swapS S = S := by
  by_cases q : S.mr = -1
  · exact if_pos q
  · exact absurd (if_neg q) h
theorem repl_codes (S : BS) (a b : Int) (n : Nat) : replErr S a b n = 0 ∨ replErr S a b n = 70 ∨ replErr S a b n = 3 := by
  unfold replErr
  split
  · exact .inr (.inl rfl)
  · split
    · exact .inr (.inr rfl)
    · exact .inl rfl
theorem apply_codes (S : BS) (p : Int) (d i : List Int) : applyErr S p d i = 0 ∨ applyErr S p d i = 70 ∨ applyErr S p d i = 3 ∨ applyErr S p d i = 71 := by
  unfold applyErr
  split
  · exact .inr (.inl rfl)
  · split
    · exact .inr (.inr (.inr rfl))
    · split
      · rcases repl_codes S p (p + d.length) i.length with h | h | h
        · exact .inl h
        · exact .inr (.inl h)
        · exact .inr (.inr (.inl h))
      · exact .inr (.inr (.inr rfl))
theorem move_codes (S : BS) (k : Int) : moveErr S k = 0 ∨ moveErr S k = 70 := by unfold moveErr; split <;> simp
theorem mark_codes (S : BS) (k : Int) : markErr S k = 0 ∨ markErr S k = 70 := by unfold markErr; split <;> simp
theorem swap_codes (S : BS) : swapErr S = 0 ∨ swapErr S = 6 := by unfold swapErr; split <;> simp
def TupPost (W : World) (g : Nat) (S' : BS) (code : Int) (e : Ending) (w' : World) : Prop := ∃ Ad nd cd Ai ni ci p, e = .returned (.tuple #[editV p (.slice Ad nd cd) (.slice Ai ni ci), .int .i64 code]) ∧ BufAt w' g S' ∧ Touch (Only g) W w'
theorem RPost.tup {W w' : World} {g : Nat} {S : BS} {a b : Int} {x : List Int} {e : Ending} (h : RPost W g S a b x e w') : TupPost W g (rS S a b x) (replErr S a b x.length) e w' := by
  obtain ⟨dv, iv, rfl, hd, hi, hS, ht⟩ := h
  obtain ⟨Ad, nd, cd, rfl⟩ := hd.form3
  obtain ⟨Ai, ni, ci, rfl⟩ := hi.form3
  exact ⟨Ad, nd, cd, Ai, ni, ci, _, rfl, hS, ht⟩
set_option maxRecDepth 1000000 in
set_option maxHeartbeats 40000000 in
theorem stays_new (w : World) (hT : WidTab w) (l : List Int) (A0 : Option Addr) (c0 : Nat) (hl : Holds1 w (.slice A0 l.length c0) (runeVals l)) (hlen : l.length ≤ 1024) (os : List OpB) (sA : Option Addr) (sc : Nat) (hs : ScriptB w (.slice sA os.length sc) os) :
    Calls Tryd.prog 6 #[.slice A0 l.length c0, .slice sA os.length sc] w fun e w' => e = .returned (.bool true) ∧ Below w.heap.size w w' := by
  have CN : Hid (Calls Tryd.prog 11 #[.slice A0 l.length c0] w fun e w' => ∃ g, e = .returned (.tuple #[.pointer (some ⟨g, 0, none⟩), .int .i64 0]) ∧ StI w w' g (newS l)) := Lib.hid ((new_any _ l _ hl (by omega)).mono (by
    rintro e w' ⟨⟨_, g, rfl, h1, h2⟩ | ⟨h1, _⟩, hb⟩
    · exact ⟨g, rfl, h1, hb, h2⟩
    · exact absurd hlen h1))
  have CL := Lib.hid fun W (h : Below w.heap.size w W) => live_any W (hT.below h)
  have HSC := Lib.hid hs
  have HNL := Lib.hid hs.len
  clear hT hl hlen hs
  generalize l.length = ln at *
  generalize hn : os.length = n at *
  have HN := Lib.hid hn
  clear hn
  go_enter Tryd.func6, Tryd.ntmps6
  go_wp2_with (first
    | (go_at_call 11; refine (CN.out).mono ?_; rintro e w1 ⟨g, rfl, hS⟩; have I0 := Lib.hid hS; clear hS)
    | (go_at_call 13; refine (CL.out _ I0.out.b).mono ?_; rintro e w2 ⟨rfl, hb2⟩; have I0 := Lib.hid (I0.out.below hb2); clear hb2))
  go_loopw [34] (fun v34 wr => ∃ k : Nat, k ≤ n ∧ v34 = .int .i64 k ∧ ∃ S, StI w wr g S) (fun v34 _ => n - (RowKit.intOf v34).toNat)
  case atStart => exact ⟨0, Nat.zero_le _, rfl, _, I0.out⟩
  case round =>
    obtain ⟨k, hk, rfl, S, hI⟩ := hrel
    by_cases hlt : k < n
    · have hkl : k < os.length := by rw [HN.out]; exact hlt
      obtain ⟨o, ho⟩ : ∃ o, os[k]? = some o := ⟨_, List.getElem?_eq_getElem hkl⟩
      have hok := HSC.out.ops o (List.mem_of_getElem? ho)
      obtain ⟨A', c', e, hcells⟩ := HSC.out.cells
      injection e with e1 e2 e3
      subst e1 e3
      clear e2
      obtain ⟨sb, so, rfl, hsb, hat⟩ := hcells (by omega)
      have hg : ∀ j u, o.cells[j]? = some u → wr.cell? ⟨sb, so + k * 7 + j, none⟩ = some u := fun j u hu => (hI.b.cell (p := ⟨sb, so + k * 7 + j, none⟩) hsb).trans (hat k o ho j u hu)
      obtain ⟨⟨A1, c1, e1⟩, ⟨A2, c2, e2'⟩, ⟨A3, c3, e3⟩⟩ := hok.forms
      obtain ⟨kk, a, b, tv, p, dv, iv, x, del, ins⟩ := o
      simp only at e1 e2' e3
      subst e1 e2' e3
      have q0 : wr.cell? ⟨sb, so + k * 7, none⟩ = some (.int .i64 kk) := hg 0 _ rfl
      have q1 : wr.cell? ⟨sb, so + k * 7 + 1, none⟩ = some (.int .i64 a) := hg 1 _ rfl
      have q2 : wr.cell? ⟨sb, so + k * 7 + 2, none⟩ = some (.int .i64 b) := hg 2 _ rfl
      have q3 : wr.cell? ⟨sb, so + k * 7 + 3, none⟩ = some (.slice A1 x.length c1) := hg 3 _ rfl
      have q4 : wr.cell? ⟨sb, so + k * 7 + 4, none⟩ = some (.int .i64 p) := hg 4 _ rfl
      have q5 : wr.cell? ⟨sb, so + k * 7 + 5, none⟩ = some (.slice A2 del.length c2) := hg 5 _ rfl
      have q6 : wr.cell? ⟨sb, so + k * 7 + 6, none⟩ = some (.slice A3 ins.length c3) := hg 6 _ rfl
      have hbW : Below wr.heap.size wr (wr.alloc (.cells (opArr kk a b A1 x.length c1 p A2 del.length c2 A3 ins.length c3) 35)) := (Below.refl _ _).alloc (Nat.le_refl _) _
      have I1 : Hid (StI w (wr.alloc (.cells (opArr kk a b A1 x.length c1 p A2 del.length c2 A3 ins.length c3) 35)) g S) := Lib.hid (hI.below hbW)
      have X1 : Hid (OpBox (wr.alloc (.cells (opArr kk a b A1 x.length c1 p A2 del.length c2 A3 ins.length c3) 35)) wr.heap.size (opArr kk a b A1 x.length c1 p A2 del.length c2 A3 ins.length c3)) := Lib.hid (alloc_new _ _)
      have HGW : Hid (g < wr.heap.size ∧ w.heap.size ≤ g) := Lib.hid ⟨hI.s.lt, hI.lt⟩
      have okS := hI.s.ok
      have HTX : Hid (Holds1 w (.slice A1 x.length c1) (runeVals x)) := Lib.hid hok.t
      have HTL : Hid (x.length ≤ 35184372088832) := Lib.hid hok.tl
      have HD : Hid (Holds1 w (.slice A2 del.length c2) (runeVals del)) := Lib.hid hok.d
      have HDL : Hid (del.length ≤ 35184372088832) := Lib.hid hok.dl
      have HIN : Hid (Holds1 w (.slice A3 ins.length c3) (runeVals ins)) := Lib.hid hok.i
      have HIL : Hid (ins.length ≤ 35184372088832) := Lib.hid hok.il
      have i1 : (0 : Int) ≤ (k : Int) := by omega
      have i2 : ((k : Int) < (n : Int)) = True := by simp; exact hlt
      have i3 : (k < n) = True := by simp; exact hlt
      have hwk : wrap64 ((k : Int) + 1) = (k : Int) + 1 := by have := HNL.out; unfold wrap64; omega
      have HKN := Lib.hid hlt
      have CLN := Lib.hid fun W (h : StI w W g S) => line_any W g S h.s
      have tok1 : True := trivial
      clear hg hat hcells hok ho hkl hlt hk hI hsb hbW
      by_cases k0 : kk = 0
      · subst k0
        as_aux_lemma =>
        obtain ⟨S', hS'⟩ : ∃ S', S' = rS S S.pt S.pt x := ⟨_, rfl⟩
        obtain ⟨code, hcode⟩ : ∃ code, code = replErr S S.pt S.pt x.length := ⟨_, rfl⟩
        have HUN : ¬ code = 0 → S' = S := fun h => by rw [hcode] at h; rw [hS']; exact if_neg h
        have COP0 : Hid (∀ W, StI w W g S → Calls Tryd.prog 40 #[.pointer (some ⟨g, 0, none⟩), .slice A1 x.length c1] W (TupPost W g S' code)) := Lib.hid fun W h => by rw [hS', hcode]; exact (insert_any W g S h.s x _ (OffR.of HTX.out h.b h.lt) (by have := HTL.out; omega)).mono fun _ _ h => h.tup
        have HSL : Hid (S.l.length ≤ 140737488355328) := Lib.hid (by have := okS.len; omega)
        by_cases hc : code = 0
        · subst hc
          have CLE := Lib.hid fun W (h : StI w W g S') => lenB_any W g _ h.s
          have CPT := Lib.hid fun W (h : StI w W g S') => pointB_any W g _ h.s
          have CMR := Lib.hid fun W (h : StI w W g S') => markB_any W g _ h.s
          have COP := COP0
          clear COP0 HUN hS' hcode okS
          go_wp2_with (first
            | (go_at_call 39; have tk := tok1; refine (CLN.out _ I1.out).mono ?_; rintro e w2 ⟨v, rfl, hr, hb⟩; obtain ⟨Av, nv, cv, rfl⟩ := hr.form3; have hb3 : Below w2.heap.size w2 (w2.alloc (.cells #[.slice Av nv cv, .int .i64 (S.pt : Int), .int .i64 S.mr] 55)) := (Below.refl _ _).alloc (Nat.le_refl _) _; have LV := Lib.hid ((hr.off I1.out.s.lt).touch (Touch.of_below hb3)); have I := Lib.hid ((I1.out.below hb).below hb3); have X := Lib.hid ((X1.out.below hb).below hb3); have L : Hid (LBox (w2.alloc (.cells #[.slice Av nv cv, .int .i64 (S.pt : Int), .int .i64 S.mr] 55)) w2.heap.size #[.slice Av nv cv, .int .i64 (S.pt : Int), .int .i64 S.mr]) := Lib.hid (alloc_new _ _); have HGL := Lib.hid (Nat.lt_of_lt_of_le I1.out.s.lt hb.size); have o0 := X.out.cell 0; have o1 := X.out.cell 1; have o2 := X.out.cell 2; have o3 := X.out.cell 3; have o4 := X.out.cell 4; have o5 := X.out.cell 5; have o6 := X.out.cell 6; have tok2 : True := trivial; clear hr hb hb3 tk tok1)
            | (go_at_call 40; have tk := tok2; refine (COP.out _ I.out).mono ?_; rintro e w4 ⟨Ad, nd, cd, Ai, ni, ci, pp, rfl, hS, ht⟩; have LV := Lib.hid (LV.out.touch ht); have L := Lib.hid (L.out.touch ht HGL.out); have I := Lib.hid (I.out.touch ht hS); have okT := I.out.s.ok; have g1 : (((S'.l.length : Nat) : Int) > 1024) = False := (by have := okT.len; simp; omega); have g2 : ((1024 : Int) < ((S'.l.length : Nat) : Int)) = False := (by have := okT.len; simp; omega); have g2' : (1024 < S'.l.length) = False := (by have := okT.len; simp; omega); have g3 : (((S'.l.length : Nat) : Int) < ((S'.pt : Nat) : Int)) = False := (by have := okT.pt; simp; omega); have g3' : (S'.l.length < S'.pt) = False := (by have := okT.pt; simp; omega); have g4 : (S'.mr < -1) = False := (by have := okT.mr0; simp; omega); have g5 : (((S'.l.length : Nat) : Int) < S'.mr) = False := (by have := okT.mr; simp; omega); clear okT; have tok3 : True := trivial; clear hS ht tk tok2))
          go_quiet (fail)
          have Dn : Below w4.heap.size w4 (w4.drewN nq) := ⟨rfl, rfl, rfl, Nat.le_refl _, fun _ _ => rfl⟩
          have I := Lib.hid (I.out.below Dn)
          go_wp2_with (first
            | (go_at_call 45; refine (CLE.out _ I.out).mono ?_; rintro e w6 ⟨rfl, hb⟩; have I := Lib.hid (I.out.below hb); clear hb)
            | (go_at_call 35; refine (CPT.out _ I.out).mono ?_; rintro e w7 ⟨rfl, rfl⟩)
            | (go_at_call 46; refine (CMR.out _ I.out).mono ?_; rintro e w8 ⟨rfl, rfl⟩))
          go_roundw
          case rel => exact ⟨k + 1, HKN.out, next_val hwk, _, I.out⟩
          case measure => exact measure_lt HKN.out hwk
        · have hSS := HUN hc
          subst hSS
          have hcs : code = 70 ∨ code = 3 := by
            have hq := repl_codes S' S'.pt S'.pt x.length
            rw [← hcode] at hq
            exact hq.resolve_left hc
          have okT := okS
          have g1 : (((S'.l.length : Nat) : Int) > 1024) = False := by have := okT.len; simp; omega
          have g2 : ((1024 : Int) < ((S'.l.length : Nat) : Int)) = False := by have := okT.len; simp; omega
          have g2' : (1024 < S'.l.length) = False := by have := okT.len; simp; omega
          have g3 : (((S'.l.length : Nat) : Int) < ((S'.pt : Nat) : Int)) = False := by have := okT.pt; simp; omega
          have g3' : (S'.l.length < S'.pt) = False := by have := okT.pt; simp; omega
          have g4 : (S'.mr < -1) = False := by have := okT.mr0; simp; omega
          have g5 : (((S'.l.length : Nat) : Int) < S'.mr) = False := by have := okT.mr; simp; omega
          have CLE := Lib.hid fun W (h : StI w W g S') => lenB_any W g _ h.s
          have CPT := Lib.hid fun W (h : StI w W g S') => pointB_any W g _ h.s
          have CMR := Lib.hid fun W (h : StI w W g S') => markB_any W g _ h.s
          have COP := COP0
          clear COP0 HUN hS' hcode okS okT hc
          rcases hcs with hcs | hcs
          · subst hcs
            go_wp2_with (first
              | (go_at_call 39; have tk := tok1; refine (CLN.out _ I1.out).mono ?_; rintro e w2 ⟨v, rfl, hr, hb⟩; obtain ⟨Av, nv, cv, rfl⟩ := hr.form3; have hb3 : Below w2.heap.size w2 (w2.alloc (.cells #[.slice Av nv cv, .int .i64 (S'.pt : Int), .int .i64 S'.mr] 55)) := (Below.refl _ _).alloc (Nat.le_refl _) _; have LV := Lib.hid ((hr.off I1.out.s.lt).touch (Touch.of_below hb3)); have I := Lib.hid ((I1.out.below hb).below hb3); have X := Lib.hid ((X1.out.below hb).below hb3); have L : Hid (LBox (w2.alloc (.cells #[.slice Av nv cv, .int .i64 (S'.pt : Int), .int .i64 S'.mr] 55)) w2.heap.size #[.slice Av nv cv, .int .i64 (S'.pt : Int), .int .i64 S'.mr]) := Lib.hid (alloc_new _ _); have HGL := Lib.hid (Nat.lt_of_lt_of_le I1.out.s.lt hb.size); have o0 := X.out.cell 0; have o1 := X.out.cell 1; have o2 := X.out.cell 2; have o3 := X.out.cell 3; have o4 := X.out.cell 4; have o5 := X.out.cell 5; have o6 := X.out.cell 6; have tok2 : True := trivial; clear hr hb hb3 tk tok1)
              | (go_at_call 40; have tk := tok2; refine (COP.out _ I.out).mono ?_; rintro e w4 ⟨Ad, nd, cd, Ai, ni, ci, pp, rfl, hS, ht⟩; have LV := Lib.hid (LV.out.touch ht); have L := Lib.hid (L.out.touch ht HGL.out); have I := Lib.hid (I.out.touch ht hS); have tok3 : True := trivial; clear hS ht tk tok2))
            have D0 : Below w4.heap.size w4 w4.drew := (Below.refl _ _).drew
            have LV := Lib.hid (LV.out.touch (Touch.of_below D0))
            have L := Lib.hid (L.out.below D0)
            have I := Lib.hid (I.out.below D0)
            have hT0 : w4.drew.cell? ⟨w2.heap.size, 0, none⟩ = some (.slice Av nv cv) ∧ w4.drew.cell? ⟨w2.heap.size, 1, none⟩ = some (.int .i64 (S'.pt : Int)) ∧ w4.drew.cell? ⟨w2.heap.size, 2, none⟩ = some (.int .i64 S'.mr) := ⟨L.out.cell 0, L.out.cell 1, L.out.cell 2⟩
            go_region_held3 (fun W => W.cell? ⟨w2.heap.size, 0, none⟩ = some (.slice Av nv cv) ∧ W.cell? ⟨w2.heap.size, 1, none⟩ = some (.int .i64 (S'.pt : Int)) ∧ W.cell? ⟨w2.heap.size, 2, none⟩ = some (.int .i64 S'.mr)) (first | with_reducible exact hT2 | with_reducible exact hT1 | with_reducible exact hT0 | fail) (first
              | (go_at_call 39; have tk := tok3; refine (CLN.out _ I.out).mono ?_; rintro e wa ⟨va, rfl, hr, hb⟩; have VA := Lib.hid hr.holds; have LV := Lib.hid (LV.out.touch (Touch.of_below hb)); have L := Lib.hid (L.out.below hb); have I := Lib.hid (I.out.below hb); have hT1 : wa.cell? ⟨w2.heap.size, 0, none⟩ = some (.slice Av nv cv) ∧ wa.cell? ⟨w2.heap.size, 1, none⟩ = some (.int .i64 (S'.pt : Int)) ∧ wa.cell? ⟨w2.heap.size, 2, none⟩ = some (.int .i64 S'.mr) := ⟨L.out.cell 0, L.out.cell 1, L.out.cell 2⟩; have tok4 : True := trivial; clear hr hb tk tok3)
              | (go_at_call 44; have tk := tok4; refine (sameLine_eq _ (S'.pt : Int) S'.mr S'.l _ _ VA.out LV.out.holds HSL.out).mono ?_; rintro e wb ⟨rfl, hb⟩; have L := Lib.hid (L.out.below hb); have I := Lib.hid (I.out.below hb); have hT2 : wb.cell? ⟨w2.heap.size, 0, none⟩ = some (.slice Av nv cv) ∧ wb.cell? ⟨w2.heap.size, 1, none⟩ = some (.int .i64 (S'.pt : Int)) ∧ wb.cell? ⟨w2.heap.size, 2, none⟩ = some (.int .i64 S'.mr) := ⟨L.out.cell 0, L.out.cell 1, L.out.cell 2⟩; clear hb tk tok4))
            all_goals
              go_wp2_with (first
                | (go_at_call 45; refine (CLE.out _ I.out).mono ?_; rintro e w6 ⟨rfl, hb⟩; have I := Lib.hid (I.out.below hb); clear hb)
                | (go_at_call 35; refine (CPT.out _ I.out).mono ?_; rintro e w7 ⟨rfl, rfl⟩)
                | (go_at_call 46; refine (CMR.out _ I.out).mono ?_; rintro e w8 ⟨rfl, rfl⟩))
              go_roundw
              case rel => exact ⟨k + 1, HKN.out, next_val hwk, _, I.out⟩
              case measure => exact measure_lt HKN.out hwk
          · subst hcs
            go_wp2_with (first
              | (go_at_call 39; have tk := tok1; refine (CLN.out _ I1.out).mono ?_; rintro e w2 ⟨v, rfl, hr, hb⟩; obtain ⟨Av, nv, cv, rfl⟩ := hr.form3; have hb3 : Below w2.heap.size w2 (w2.alloc (.cells #[.slice Av nv cv, .int .i64 (S'.pt : Int), .int .i64 S'.mr] 55)) := (Below.refl _ _).alloc (Nat.le_refl _) _; have LV := Lib.hid ((hr.off I1.out.s.lt).touch (Touch.of_below hb3)); have I := Lib.hid ((I1.out.below hb).below hb3); have X := Lib.hid ((X1.out.below hb).below hb3); have L : Hid (LBox (w2.alloc (.cells #[.slice Av nv cv, .int .i64 (S'.pt : Int), .int .i64 S'.mr] 55)) w2.heap.size #[.slice Av nv cv, .int .i64 (S'.pt : Int), .int .i64 S'.mr]) := Lib.hid (alloc_new _ _); have HGL := Lib.hid (Nat.lt_of_lt_of_le I1.out.s.lt hb.size); have o0 := X.out.cell 0; have o1 := X.out.cell 1; have o2 := X.out.cell 2; have o3 := X.out.cell 3; have o4 := X.out.cell 4; have o5 := X.out.cell 5; have o6 := X.out.cell 6; have tok2 : True := trivial; clear hr hb hb3 tk tok1)
              | (go_at_call 40; have tk := tok2; refine (COP.out _ I.out).mono ?_; rintro e w4 ⟨Ad, nd, cd, Ai, ni, ci, pp, rfl, hS, ht⟩; have LV := Lib.hid (LV.out.touch ht); have L := Lib.hid (L.out.touch ht HGL.out); have I := Lib.hid (I.out.touch ht hS); have tok3 : True := trivial; clear hS ht tk tok2))
            have D0 : Below w4.heap.size w4 w4.drew := (Below.refl _ _).drew
            have LV := Lib.hid (LV.out.touch (Touch.of_below D0))
            have L := Lib.hid (L.out.below D0)
            have I := Lib.hid (I.out.below D0)
            have hT0 : w4.drew.cell? ⟨w2.heap.size, 0, none⟩ = some (.slice Av nv cv) ∧ w4.drew.cell? ⟨w2.heap.size, 1, none⟩ = some (.int .i64 (S'.pt : Int)) ∧ w4.drew.cell? ⟨w2.heap.size, 2, none⟩ = some (.int .i64 S'.mr) := ⟨L.out.cell 0, L.out.cell 1, L.out.cell 2⟩
            go_region_held3 (fun W => W.cell? ⟨w2.heap.size, 0, none⟩ = some (.slice Av nv cv) ∧ W.cell? ⟨w2.heap.size, 1, none⟩ = some (.int .i64 (S'.pt : Int)) ∧ W.cell? ⟨w2.heap.size, 2, none⟩ = some (.int .i64 S'.mr)) (first | with_reducible exact hT2 | with_reducible exact hT1 | with_reducible exact hT0 | fail) (first
              | (go_at_call 39; have tk := tok3; refine (CLN.out _ I.out).mono ?_; rintro e wa ⟨va, rfl, hr, hb⟩; have VA := Lib.hid hr.holds; have LV := Lib.hid (LV.out.touch (Touch.of_below hb)); have L := Lib.hid (L.out.below hb); have I := Lib.hid (I.out.below hb); have hT1 : wa.cell? ⟨w2.heap.size, 0, none⟩ = some (.slice Av nv cv) ∧ wa.cell? ⟨w2.heap.size, 1, none⟩ = some (.int .i64 (S'.pt : Int)) ∧ wa.cell? ⟨w2.heap.size, 2, none⟩ = some (.int .i64 S'.mr) := ⟨L.out.cell 0, L.out.cell 1, L.out.cell 2⟩; have tok4 : True := trivial; clear hr hb tk tok3)
              | (go_at_call 44; have tk := tok4; refine (sameLine_eq _ (S'.pt : Int) S'.mr S'.l _ _ VA.out LV.out.holds HSL.out).mono ?_; rintro e wb ⟨rfl, hb⟩; have L := Lib.hid (L.out.below hb); have I := Lib.hid (I.out.below hb); have hT2 : wb.cell? ⟨w2.heap.size, 0, none⟩ = some (.slice Av nv cv) ∧ wb.cell? ⟨w2.heap.size, 1, none⟩ = some (.int .i64 (S'.pt : Int)) ∧ wb.cell? ⟨w2.heap.size, 2, none⟩ = some (.int .i64 S'.mr) := ⟨L.out.cell 0, L.out.cell 1, L.out.cell 2⟩; clear hb tk tok4))
            all_goals
              go_wp2_with (first
                | (go_at_call 45; refine (CLE.out _ I.out).mono ?_; rintro e w6 ⟨rfl, hb⟩; have I := Lib.hid (I.out.below hb); clear hb)
                | (go_at_call 35; refine (CPT.out _ I.out).mono ?_; rintro e w7 ⟨rfl, rfl⟩)
                | (go_at_call 46; refine (CMR.out _ I.out).mono ?_; rintro e w8 ⟨rfl, rfl⟩))
              go_roundw
              case rel => exact ⟨k + 1, HKN.out, next_val hwk, _, I.out⟩
              case measure => exact measure_lt HKN.out hwk

      by_cases k1 : kk = 1
      · subst k1
        as_aux_lemma =>
        obtain ⟨S', hS'⟩ : ∃ S', S' = rS S a b [] := ⟨_, rfl⟩
        obtain ⟨code, hcode⟩ : ∃ code, code = replErr S a b ([] : List Int).length := ⟨_, rfl⟩
        have HUN : ¬ code = 0 → S' = S := fun h => by rw [hcode] at h; rw [hS']; exact if_neg h
        have COP0 : Hid (∀ W, StI w W g S → Calls Tryd.prog 41 #[.pointer (some ⟨g, 0, none⟩), .int .i64 a, .int .i64 b] W (TupPost W g S' code)) := Lib.hid fun W h => by rw [hS', hcode]; exact (delete_any W g S h.s a b).mono fun _ _ h => h.tup
        have HSL : Hid (S.l.length ≤ 140737488355328) := Lib.hid (by have := okS.len; omega)
        by_cases hc : code = 0
        · subst hc
          have CLE := Lib.hid fun W (h : StI w W g S') => lenB_any W g _ h.s
          have CPT := Lib.hid fun W (h : StI w W g S') => pointB_any W g _ h.s
          have CMR := Lib.hid fun W (h : StI w W g S') => markB_any W g _ h.s
          have COP := COP0
          clear COP0 HUN hS' hcode okS
          go_wp2_with (first
            | (go_at_call 39; have tk := tok1; refine (CLN.out _ I1.out).mono ?_; rintro e w2 ⟨v, rfl, hr, hb⟩; obtain ⟨Av, nv, cv, rfl⟩ := hr.form3; have hb3 : Below w2.heap.size w2 (w2.alloc (.cells #[.slice Av nv cv, .int .i64 (S.pt : Int), .int .i64 S.mr] 55)) := (Below.refl _ _).alloc (Nat.le_refl _) _; have LV := Lib.hid ((hr.off I1.out.s.lt).touch (Touch.of_below hb3)); have I := Lib.hid ((I1.out.below hb).below hb3); have X := Lib.hid ((X1.out.below hb).below hb3); have L : Hid (LBox (w2.alloc (.cells #[.slice Av nv cv, .int .i64 (S.pt : Int), .int .i64 S.mr] 55)) w2.heap.size #[.slice Av nv cv, .int .i64 (S.pt : Int), .int .i64 S.mr]) := Lib.hid (alloc_new _ _); have HGL := Lib.hid (Nat.lt_of_lt_of_le I1.out.s.lt hb.size); have o0 := X.out.cell 0; have o1 := X.out.cell 1; have o2 := X.out.cell 2; have o3 := X.out.cell 3; have o4 := X.out.cell 4; have o5 := X.out.cell 5; have o6 := X.out.cell 6; have tok2 : True := trivial; clear hr hb hb3 tk tok1)
            | (go_at_call 41; have tk := tok2; refine (COP.out _ I.out).mono ?_; rintro e w4 ⟨Ad, nd, cd, Ai, ni, ci, pp, rfl, hS, ht⟩; have LV := Lib.hid (LV.out.touch ht); have L := Lib.hid (L.out.touch ht HGL.out); have I := Lib.hid (I.out.touch ht hS); have okT := I.out.s.ok; have g1 : (((S'.l.length : Nat) : Int) > 1024) = False := (by have := okT.len; simp; omega); have g2 : ((1024 : Int) < ((S'.l.length : Nat) : Int)) = False := (by have := okT.len; simp; omega); have g2' : (1024 < S'.l.length) = False := (by have := okT.len; simp; omega); have g3 : (((S'.l.length : Nat) : Int) < ((S'.pt : Nat) : Int)) = False := (by have := okT.pt; simp; omega); have g3' : (S'.l.length < S'.pt) = False := (by have := okT.pt; simp; omega); have g4 : (S'.mr < -1) = False := (by have := okT.mr0; simp; omega); have g5 : (((S'.l.length : Nat) : Int) < S'.mr) = False := (by have := okT.mr; simp; omega); clear okT; have tok3 : True := trivial; clear hS ht tk tok2))
          go_quiet (fail)
          have Dn : Below w4.heap.size w4 (w4.drewN nq) := ⟨rfl, rfl, rfl, Nat.le_refl _, fun _ _ => rfl⟩
          have I := Lib.hid (I.out.below Dn)
          go_wp2_with (first
            | (go_at_call 45; refine (CLE.out _ I.out).mono ?_; rintro e w6 ⟨rfl, hb⟩; have I := Lib.hid (I.out.below hb); clear hb)
            | (go_at_call 35; refine (CPT.out _ I.out).mono ?_; rintro e w7 ⟨rfl, rfl⟩)
            | (go_at_call 46; refine (CMR.out _ I.out).mono ?_; rintro e w8 ⟨rfl, rfl⟩))
          go_roundw
          case rel => exact ⟨k + 1, HKN.out, next_val hwk, _, I.out⟩
          case measure => exact measure_lt HKN.out hwk
        · have hSS := HUN hc
          subst hSS
          have hcs : code = 70 ∨ code = 3 := by
            have hq := repl_codes S' a b ([] : List Int).length
            rw [← hcode] at hq
            exact hq.resolve_left hc
          have okT := okS
          have g1 : (((S'.l.length : Nat) : Int) > 1024) = False := by have := okT.len; simp; omega
          have g2 : ((1024 : Int) < ((S'.l.length : Nat) : Int)) = False := by have := okT.len; simp; omega
          have g2' : (1024 < S'.l.length) = False := by have := okT.len; simp; omega
          have g3 : (((S'.l.length : Nat) : Int) < ((S'.pt : Nat) : Int)) = False := by have := okT.pt; simp; omega
          have g3' : (S'.l.length < S'.pt) = False := by have := okT.pt; simp; omega
          have g4 : (S'.mr < -1) = False := by have := okT.mr0; simp; omega
          have g5 : (((S'.l.length : Nat) : Int) < S'.mr) = False := by have := okT.mr; simp; omega
          have CLE := Lib.hid fun W (h : StI w W g S') => lenB_any W g _ h.s
          have CPT := Lib.hid fun W (h : StI w W g S') => pointB_any W g _ h.s
          have CMR := Lib.hid fun W (h : StI w W g S') => markB_any W g _ h.s
          have COP := COP0
          clear COP0 HUN hS' hcode okS okT hc
          rcases hcs with hcs | hcs
          · subst hcs
            go_wp2_with (first
              | (go_at_call 39; have tk := tok1; refine (CLN.out _ I1.out).mono ?_; rintro e w2 ⟨v, rfl, hr, hb⟩; obtain ⟨Av, nv, cv, rfl⟩ := hr.form3; have hb3 : Below w2.heap.size w2 (w2.alloc (.cells #[.slice Av nv cv, .int .i64 (S'.pt : Int), .int .i64 S'.mr] 55)) := (Below.refl _ _).alloc (Nat.le_refl _) _; have LV := Lib.hid ((hr.off I1.out.s.lt).touch (Touch.of_below hb3)); have I := Lib.hid ((I1.out.below hb).below hb3); have X := Lib.hid ((X1.out.below hb).below hb3); have L : Hid (LBox (w2.alloc (.cells #[.slice Av nv cv, .int .i64 (S'.pt : Int), .int .i64 S'.mr] 55)) w2.heap.size #[.slice Av nv cv, .int .i64 (S'.pt : Int), .int .i64 S'.mr]) := Lib.hid (alloc_new _ _); have HGL := Lib.hid (Nat.lt_of_lt_of_le I1.out.s.lt hb.size); have o0 := X.out.cell 0; have o1 := X.out.cell 1; have o2 := X.out.cell 2; have o3 := X.out.cell 3; have o4 := X.out.cell 4; have o5 := X.out.cell 5; have o6 := X.out.cell 6; have tok2 : True := trivial; clear hr hb hb3 tk tok1)
              | (go_at_call 41; have tk := tok2; refine (COP.out _ I.out).mono ?_; rintro e w4 ⟨Ad, nd, cd, Ai, ni, ci, pp, rfl, hS, ht⟩; have LV := Lib.hid (LV.out.touch ht); have L := Lib.hid (L.out.touch ht HGL.out); have I := Lib.hid (I.out.touch ht hS); have tok3 : True := trivial; clear hS ht tk tok2))
            have D0 : Below w4.heap.size w4 w4.drew := (Below.refl _ _).drew
            have LV := Lib.hid (LV.out.touch (Touch.of_below D0))
            have L := Lib.hid (L.out.below D0)
            have I := Lib.hid (I.out.below D0)
            have hT0 : w4.drew.cell? ⟨w2.heap.size, 0, none⟩ = some (.slice Av nv cv) ∧ w4.drew.cell? ⟨w2.heap.size, 1, none⟩ = some (.int .i64 (S'.pt : Int)) ∧ w4.drew.cell? ⟨w2.heap.size, 2, none⟩ = some (.int .i64 S'.mr) := ⟨L.out.cell 0, L.out.cell 1, L.out.cell 2⟩
            go_region_held3 (fun W => W.cell? ⟨w2.heap.size, 0, none⟩ = some (.slice Av nv cv) ∧ W.cell? ⟨w2.heap.size, 1, none⟩ = some (.int .i64 (S'.pt : Int)) ∧ W.cell? ⟨w2.heap.size, 2, none⟩ = some (.int .i64 S'.mr)) (first | with_reducible exact hT2 | with_reducible exact hT1 | with_reducible exact hT0 | fail) (first
              | (go_at_call 39; have tk := tok3; refine (CLN.out _ I.out).mono ?_; rintro e wa ⟨va, rfl, hr, hb⟩; have VA := Lib.hid hr.holds; have LV := Lib.hid (LV.out.touch (Touch.of_below hb)); have L := Lib.hid (L.out.below hb); have I := Lib.hid (I.out.below hb); have hT1 : wa.cell? ⟨w2.heap.size, 0, none⟩ = some (.slice Av nv cv) ∧ wa.cell? ⟨w2.heap.size, 1, none⟩ = some (.int .i64 (S'.pt : Int)) ∧ wa.cell? ⟨w2.heap.size, 2, none⟩ = some (.int .i64 S'.mr) := ⟨L.out.cell 0, L.out.cell 1, L.out.cell 2⟩; have tok4 : True := trivial; clear hr hb tk tok3)
              | (go_at_call 44; have tk := tok4; refine (sameLine_eq _ (S'.pt : Int) S'.mr S'.l _ _ VA.out LV.out.holds HSL.out).mono ?_; rintro e wb ⟨rfl, hb⟩; have L := Lib.hid (L.out.below hb); have I := Lib.hid (I.out.below hb); have hT2 : wb.cell? ⟨w2.heap.size, 0, none⟩ = some (.slice Av nv cv) ∧ wb.cell? ⟨w2.heap.size, 1, none⟩ = some (.int .i64 (S'.pt : Int)) ∧ wb.cell? ⟨w2.heap.size, 2, none⟩ = some (.int .i64 S'.mr) := ⟨L.out.cell 0, L.out.cell 1, L.out.cell 2⟩; clear hb tk tok4))
            all_goals
              go_wp2_with (first
                | (go_at_call 45; refine (CLE.out _ I.out).mono ?_; rintro e w6 ⟨rfl, hb⟩; have I := Lib.hid (I.out.below hb); clear hb)
                | (go_at_call 35; refine (CPT.out _ I.out).mono ?_; rintro e w7 ⟨rfl, rfl⟩)
                | (go_at_call 46; refine (CMR.out _ I.out).mono ?_; rintro e w8 ⟨rfl, rfl⟩))
              go_roundw
              case rel => exact ⟨k + 1, HKN.out, next_val hwk, _, I.out⟩
              case measure => exact measure_lt HKN.out hwk
          · subst hcs
            go_wp2_with (first
              | (go_at_call 39; have tk := tok1; refine (CLN.out _ I1.out).mono ?_; rintro e w2 ⟨v, rfl, hr, hb⟩; obtain ⟨Av, nv, cv, rfl⟩ := hr.form3; have hb3 : Below w2.heap.size w2 (w2.alloc (.cells #[.slice Av nv cv, .int .i64 (S'.pt : Int), .int .i64 S'.mr] 55)) := (Below.refl _ _).alloc (Nat.le_refl _) _; have LV := Lib.hid ((hr.off I1.out.s.lt).touch (Touch.of_below hb3)); have I := Lib.hid ((I1.out.below hb).below hb3); have X := Lib.hid ((X1.out.below hb).below hb3); have L : Hid (LBox (w2.alloc (.cells #[.slice Av nv cv, .int .i64 (S'.pt : Int), .int .i64 S'.mr] 55)) w2.heap.size #[.slice Av nv cv, .int .i64 (S'.pt : Int), .int .i64 S'.mr]) := Lib.hid (alloc_new _ _); have HGL := Lib.hid (Nat.lt_of_lt_of_le I1.out.s.lt hb.size); have o0 := X.out.cell 0; have o1 := X.out.cell 1; have o2 := X.out.cell 2; have o3 := X.out.cell 3; have o4 := X.out.cell 4; have o5 := X.out.cell 5; have o6 := X.out.cell 6; have tok2 : True := trivial; clear hr hb hb3 tk tok1)
              | (go_at_call 41; have tk := tok2; refine (COP.out _ I.out).mono ?_; rintro e w4 ⟨Ad, nd, cd, Ai, ni, ci, pp, rfl, hS, ht⟩; have LV := Lib.hid (LV.out.touch ht); have L := Lib.hid (L.out.touch ht HGL.out); have I := Lib.hid (I.out.touch ht hS); have tok3 : True := trivial; clear hS ht tk tok2))
            have D0 : Below w4.heap.size w4 w4.drew := (Below.refl _ _).drew
            have LV := Lib.hid (LV.out.touch (Touch.of_below D0))
            have L := Lib.hid (L.out.below D0)
            have I := Lib.hid (I.out.below D0)
            have hT0 : w4.drew.cell? ⟨w2.heap.size, 0, none⟩ = some (.slice Av nv cv) ∧ w4.drew.cell? ⟨w2.heap.size, 1, none⟩ = some (.int .i64 (S'.pt : Int)) ∧ w4.drew.cell? ⟨w2.heap.size, 2, none⟩ = some (.int .i64 S'.mr) := ⟨L.out.cell 0, L.out.cell 1, L.out.cell 2⟩
            go_region_held3 (fun W => W.cell? ⟨w2.heap.size, 0, none⟩ = some (.slice Av nv cv) ∧ W.cell? ⟨w2.heap.size, 1, none⟩ = some (.int .i64 (S'.pt : Int)) ∧ W.cell? ⟨w2.heap.size, 2, none⟩ = some (.int .i64 S'.mr)) (first | with_reducible exact hT2 | with_reducible exact hT1 | with_reducible exact hT0 | fail) (first
              | (go_at_call 39; have tk := tok3; refine (CLN.out _ I.out).mono ?_; rintro e wa ⟨va, rfl, hr, hb⟩; have VA := Lib.hid hr.holds; have LV := Lib.hid (LV.out.touch (Touch.of_below hb)); have L := Lib.hid (L.out.below hb); have I := Lib.hid (I.out.below hb); have hT1 : wa.cell? ⟨w2.heap.size, 0, none⟩ = some (.slice Av nv cv) ∧ wa.cell? ⟨w2.heap.size, 1, none⟩ = some (.int .i64 (S'.pt : Int)) ∧ wa.cell? ⟨w2.heap.size, 2, none⟩ = some (.int .i64 S'.mr) := ⟨L.out.cell 0, L.out.cell 1, L.out.cell 2⟩; have tok4 : True := trivial; clear hr hb tk tok3)
              | (go_at_call 44; have tk := tok4; refine (sameLine_eq _ (S'.pt : Int) S'.mr S'.l _ _ VA.out LV.out.holds HSL.out).mono ?_; rintro e wb ⟨rfl, hb⟩; have L := Lib.hid (L.out.below hb); have I := Lib.hid (I.out.below hb); have hT2 : wb.cell? ⟨w2.heap.size, 0, none⟩ = some (.slice Av nv cv) ∧ wb.cell? ⟨w2.heap.size, 1, none⟩ = some (.int .i64 (S'.pt : Int)) ∧ wb.cell? ⟨w2.heap.size, 2, none⟩ = some (.int .i64 S'.mr) := ⟨L.out.cell 0, L.out.cell 1, L.out.cell 2⟩; clear hb tk tok4))
            all_goals
              go_wp2_with (first
                | (go_at_call 45; refine (CLE.out _ I.out).mono ?_; rintro e w6 ⟨rfl, hb⟩; have I := Lib.hid (I.out.below hb); clear hb)
                | (go_at_call 35; refine (CPT.out _ I.out).mono ?_; rintro e w7 ⟨rfl, rfl⟩)
                | (go_at_call 46; refine (CMR.out _ I.out).mono ?_; rintro e w8 ⟨rfl, rfl⟩))
              go_roundw
              case rel => exact ⟨k + 1, HKN.out, next_val hwk, _, I.out⟩
              case measure => exact measure_lt HKN.out hwk

      by_cases k2 : kk = 2
      · subst k2
        as_aux_lemma =>
        obtain ⟨S', hS'⟩ : ∃ S', S' = rS S a b x := ⟨_, rfl⟩
        obtain ⟨code, hcode⟩ : ∃ code, code = replErr S a b x.length := ⟨_, rfl⟩
        have HUN : ¬ code = 0 → S' = S := fun h => by rw [hcode] at h; rw [hS']; exact if_neg h
        have COP0 : Hid (∀ W, StI w W g S → Calls Tryd.prog 15 #[.pointer (some ⟨g, 0, none⟩), .int .i64 a, .int .i64 b, .slice A1 x.length c1] W (TupPost W g S' code)) := Lib.hid fun W h => by rw [hS', hcode]; exact (replace_any W g S h.s a b x _ (OffR.of HTX.out h.b h.lt) (by have := HTL.out; omega)).mono fun _ _ h => h.tup
        have HSL : Hid (S.l.length ≤ 140737488355328) := Lib.hid (by have := okS.len; omega)
        by_cases hc : code = 0
        · subst hc
          have CLE := Lib.hid fun W (h : StI w W g S') => lenB_any W g _ h.s
          have CPT := Lib.hid fun W (h : StI w W g S') => pointB_any W g _ h.s
          have CMR := Lib.hid fun W (h : StI w W g S') => markB_any W g _ h.s
          have COP := COP0
          clear COP0 HUN hS' hcode okS
          go_wp2_with (first
            | (go_at_call 39; have tk := tok1; refine (CLN.out _ I1.out).mono ?_; rintro e w2 ⟨v, rfl, hr, hb⟩; obtain ⟨Av, nv, cv, rfl⟩ := hr.form3; have hb3 : Below w2.heap.size w2 (w2.alloc (.cells #[.slice Av nv cv, .int .i64 (S.pt : Int), .int .i64 S.mr] 55)) := (Below.refl _ _).alloc (Nat.le_refl _) _; have LV := Lib.hid ((hr.off I1.out.s.lt).touch (Touch.of_below hb3)); have I := Lib.hid ((I1.out.below hb).below hb3); have X := Lib.hid ((X1.out.below hb).below hb3); have L : Hid (LBox (w2.alloc (.cells #[.slice Av nv cv, .int .i64 (S.pt : Int), .int .i64 S.mr] 55)) w2.heap.size #[.slice Av nv cv, .int .i64 (S.pt : Int), .int .i64 S.mr]) := Lib.hid (alloc_new _ _); have HGL := Lib.hid (Nat.lt_of_lt_of_le I1.out.s.lt hb.size); have o0 := X.out.cell 0; have o1 := X.out.cell 1; have o2 := X.out.cell 2; have o3 := X.out.cell 3; have o4 := X.out.cell 4; have o5 := X.out.cell 5; have o6 := X.out.cell 6; have tok2 : True := trivial; clear hr hb hb3 tk tok1)
            | (go_at_call 15; have tk := tok2; refine (COP.out _ I.out).mono ?_; rintro e w4 ⟨Ad, nd, cd, Ai, ni, ci, pp, rfl, hS, ht⟩; have LV := Lib.hid (LV.out.touch ht); have L := Lib.hid (L.out.touch ht HGL.out); have I := Lib.hid (I.out.touch ht hS); have okT := I.out.s.ok; have g1 : (((S'.l.length : Nat) : Int) > 1024) = False := (by have := okT.len; simp; omega); have g2 : ((1024 : Int) < ((S'.l.length : Nat) : Int)) = False := (by have := okT.len; simp; omega); have g2' : (1024 < S'.l.length) = False := (by have := okT.len; simp; omega); have g3 : (((S'.l.length : Nat) : Int) < ((S'.pt : Nat) : Int)) = False := (by have := okT.pt; simp; omega); have g3' : (S'.l.length < S'.pt) = False := (by have := okT.pt; simp; omega); have g4 : (S'.mr < -1) = False := (by have := okT.mr0; simp; omega); have g5 : (((S'.l.length : Nat) : Int) < S'.mr) = False := (by have := okT.mr; simp; omega); clear okT; have tok3 : True := trivial; clear hS ht tk tok2))
          go_quiet (fail)
          have Dn : Below w4.heap.size w4 (w4.drewN nq) := ⟨rfl, rfl, rfl, Nat.le_refl _, fun _ _ => rfl⟩
          have I := Lib.hid (I.out.below Dn)
          go_wp2_with (first
            | (go_at_call 45; refine (CLE.out _ I.out).mono ?_; rintro e w6 ⟨rfl, hb⟩; have I := Lib.hid (I.out.below hb); clear hb)
            | (go_at_call 35; refine (CPT.out _ I.out).mono ?_; rintro e w7 ⟨rfl, rfl⟩)
            | (go_at_call 46; refine (CMR.out _ I.out).mono ?_; rintro e w8 ⟨rfl, rfl⟩))
          go_roundw
          case rel => exact ⟨k + 1, HKN.out, next_val hwk, _, I.out⟩
          case measure => exact measure_lt HKN.out hwk
        · have hSS := HUN hc
          subst hSS
          have hcs : code = 70 ∨ code = 3 := by
            have hq := repl_codes S' a b x.length
            rw [← hcode] at hq
            exact hq.resolve_left hc
          have okT := okS
          have g1 : (((S'.l.length : Nat) : Int) > 1024) = False := by have := okT.len; simp; omega
          have g2 : ((1024 : Int) < ((S'.l.length : Nat) : Int)) = False := by have := okT.len; simp; omega
          have g2' : (1024 < S'.l.length) = False := by have := okT.len; simp; omega
          have g3 : (((S'.l.length : Nat) : Int) < ((S'.pt : Nat) : Int)) = False := by have := okT.pt; simp; omega
          have g3' : (S'.l.length < S'.pt) = False := by have := okT.pt; simp; omega
          have g4 : (S'.mr < -1) = False := by have := okT.mr0; simp; omega
          have g5 : (((S'.l.length : Nat) : Int) < S'.mr) = False := by have := okT.mr; simp; omega
          have CLE := Lib.hid fun W (h : StI w W g S') => lenB_any W g _ h.s
          have CPT := Lib.hid fun W (h : StI w W g S') => pointB_any W g _ h.s
          have CMR := Lib.hid fun W (h : StI w W g S') => markB_any W g _ h.s
          have COP := COP0
          clear COP0 HUN hS' hcode okS okT hc
          rcases hcs with hcs | hcs
          · subst hcs
            go_wp2_with (first
              | (go_at_call 39; have tk := tok1; refine (CLN.out _ I1.out).mono ?_; rintro e w2 ⟨v, rfl, hr, hb⟩; obtain ⟨Av, nv, cv, rfl⟩ := hr.form3; have hb3 : Below w2.heap.size w2 (w2.alloc (.cells #[.slice Av nv cv, .int .i64 (S'.pt : Int), .int .i64 S'.mr] 55)) := (Below.refl _ _).alloc (Nat.le_refl _) _; have LV := Lib.hid ((hr.off I1.out.s.lt).touch (Touch.of_below hb3)); have I := Lib.hid ((I1.out.below hb).below hb3); have X := Lib.hid ((X1.out.below hb).below hb3); have L : Hid (LBox (w2.alloc (.cells #[.slice Av nv cv, .int .i64 (S'.pt : Int), .int .i64 S'.mr] 55)) w2.heap.size #[.slice Av nv cv, .int .i64 (S'.pt : Int), .int .i64 S'.mr]) := Lib.hid (alloc_new _ _); have HGL := Lib.hid (Nat.lt_of_lt_of_le I1.out.s.lt hb.size); have o0 := X.out.cell 0; have o1 := X.out.cell 1; have o2 := X.out.cell 2; have o3 := X.out.cell 3; have o4 := X.out.cell 4; have o5 := X.out.cell 5; have o6 := X.out.cell 6; have tok2 : True := trivial; clear hr hb hb3 tk tok1)
              | (go_at_call 15; have tk := tok2; refine (COP.out _ I.out).mono ?_; rintro e w4 ⟨Ad, nd, cd, Ai, ni, ci, pp, rfl, hS, ht⟩; have LV := Lib.hid (LV.out.touch ht); have L := Lib.hid (L.out.touch ht HGL.out); have I := Lib.hid (I.out.touch ht hS); have tok3 : True := trivial; clear hS ht tk tok2))
            have D0 : Below w4.heap.size w4 w4.drew := (Below.refl _ _).drew
            have LV := Lib.hid (LV.out.touch (Touch.of_below D0))
            have L := Lib.hid (L.out.below D0)
            have I := Lib.hid (I.out.below D0)
            have hT0 : w4.drew.cell? ⟨w2.heap.size, 0, none⟩ = some (.slice Av nv cv) ∧ w4.drew.cell? ⟨w2.heap.size, 1, none⟩ = some (.int .i64 (S'.pt : Int)) ∧ w4.drew.cell? ⟨w2.heap.size, 2, none⟩ = some (.int .i64 S'.mr) := ⟨L.out.cell 0, L.out.cell 1, L.out.cell 2⟩
            go_region_held3 (fun W => W.cell? ⟨w2.heap.size, 0, none⟩ = some (.slice Av nv cv) ∧ W.cell? ⟨w2.heap.size, 1, none⟩ = some (.int .i64 (S'.pt : Int)) ∧ W.cell? ⟨w2.heap.size, 2, none⟩ = some (.int .i64 S'.mr)) (first | with_reducible exact hT2 | with_reducible exact hT1 | with_reducible exact hT0 | fail) (first
              | (go_at_call 39; have tk := tok3; refine (CLN.out _ I.out).mono ?_; rintro e wa ⟨va, rfl, hr, hb⟩; have VA := Lib.hid hr.holds; have LV := Lib.hid (LV.out.touch (Touch.of_below hb)); have L := Lib.hid (L.out.below hb); have I := Lib.hid (I.out.below hb); have hT1 : wa.cell? ⟨w2.heap.size, 0, none⟩ = some (.slice Av nv cv) ∧ wa.cell? ⟨w2.heap.size, 1, none⟩ = some (.int .i64 (S'.pt : Int)) ∧ wa.cell? ⟨w2.heap.size, 2, none⟩ = some (.int .i64 S'.mr) := ⟨L.out.cell 0, L.out.cell 1, L.out.cell 2⟩; have tok4 : True := trivial; clear hr hb tk tok3)
              | (go_at_call 44; have tk := tok4; refine (sameLine_eq _ (S'.pt : Int) S'.mr S'.l _ _ VA.out LV.out.holds HSL.out).mono ?_; rintro e wb ⟨rfl, hb⟩; have L := Lib.hid (L.out.below hb); have I := Lib.hid (I.out.below hb); have hT2 : wb.cell? ⟨w2.heap.size, 0, none⟩ = some (.slice Av nv cv) ∧ wb.cell? ⟨w2.heap.size, 1, none⟩ = some (.int .i64 (S'.pt : Int)) ∧ wb.cell? ⟨w2.heap.size, 2, none⟩ = some (.int .i64 S'.mr) := ⟨L.out.cell 0, L.out.cell 1, L.out.cell 2⟩; clear hb tk tok4))
            all_goals
              go_wp2_with (first
                | (go_at_call 45; refine (CLE.out _ I.out).mono ?_; rintro e w6 ⟨rfl, hb⟩; have I := Lib.hid (I.out.below hb); clear hb)
                | (go_at_call 35; refine (CPT.out _ I.out).mono ?_; rintro e w7 ⟨rfl, rfl⟩)
                | (go_at_call 46; refine (CMR.out _ I.out).mono ?_; rintro e w8 ⟨rfl, rfl⟩))
              go_roundw
              case rel => exact ⟨k + 1, HKN.out, next_val hwk, _, I.out⟩
              case measure => exact measure_lt HKN.out hwk
          · subst hcs
            go_wp2_with (first
              | (go_at_call 39; have tk := tok1; refine (CLN.out _ I1.out).mono ?_; rintro e w2 ⟨v, rfl, hr, hb⟩; obtain ⟨Av, nv, cv, rfl⟩ := hr.form3; have hb3 : Below w2.heap.size w2 (w2.alloc (.cells #[.slice Av nv cv, .int .i64 (S'.pt : Int), .int .i64 S'.mr] 55)) := (Below.refl _ _).alloc (Nat.le_refl _) _; have LV := Lib.hid ((hr.off I1.out.s.lt).touch (Touch.of_below hb3)); have I := Lib.hid ((I1.out.below hb).below hb3); have X := Lib.hid ((X1.out.below hb).below hb3); have L : Hid (LBox (w2.alloc (.cells #[.slice Av nv cv, .int .i64 (S'.pt : Int), .int .i64 S'.mr] 55)) w2.heap.size #[.slice Av nv cv, .int .i64 (S'.pt : Int), .int .i64 S'.mr]) := Lib.hid (alloc_new _ _); have HGL := Lib.hid (Nat.lt_of_lt_of_le I1.out.s.lt hb.size); have o0 := X.out.cell 0; have o1 := X.out.cell 1; have o2 := X.out.cell 2; have o3 := X.out.cell 3; have o4 := X.out.cell 4; have o5 := X.out.cell 5; have o6 := X.out.cell 6; have tok2 : True := trivial; clear hr hb hb3 tk tok1)
              | (go_at_call 15; have tk := tok2; refine (COP.out _ I.out).mono ?_; rintro e w4 ⟨Ad, nd, cd, Ai, ni, ci, pp, rfl, hS, ht⟩; have LV := Lib.hid (LV.out.touch ht); have L := Lib.hid (L.out.touch ht HGL.out); have I := Lib.hid (I.out.touch ht hS); have tok3 : True := trivial; clear hS ht tk tok2))
            have D0 : Below w4.heap.size w4 w4.drew := (Below.refl _ _).drew
            have LV := Lib.hid (LV.out.touch (Touch.of_below D0))
            have L := Lib.hid (L.out.below D0)
            have I := Lib.hid (I.out.below D0)
            have hT0 : w4.drew.cell? ⟨w2.heap.size, 0, none⟩ = some (.slice Av nv cv) ∧ w4.drew.cell? ⟨w2.heap.size, 1, none⟩ = some (.int .i64 (S'.pt : Int)) ∧ w4.drew.cell? ⟨w2.heap.size, 2, none⟩ = some (.int .i64 S'.mr) := ⟨L.out.cell 0, L.out.cell 1, L.out.cell 2⟩
            go_region_held3 (fun W => W.cell? ⟨w2.heap.size, 0, none⟩ = some (.slice Av nv cv) ∧ W.cell? ⟨w2.heap.size, 1, none⟩ = some (.int .i64 (S'.pt : Int)) ∧ W.cell? ⟨w2.heap.size, 2, none⟩ = some (.int .i64 S'.mr)) (first | with_reducible exact hT2 | with_reducible exact hT1 | with_reducible exact hT0 | fail) (first
              | (go_at_call 39; have tk := tok3; refine (CLN.out _ I.out).mono ?_; rintro e wa ⟨va, rfl, hr, hb⟩; have VA := Lib.hid hr.holds; have LV := Lib.hid (LV.out.touch (Touch.of_below hb)); have L := Lib.hid (L.out.below hb); have I := Lib.hid (I.out.below hb); have hT1 : wa.cell? ⟨w2.heap.size, 0, none⟩ = some (.slice Av nv cv) ∧ wa.cell? ⟨w2.heap.size, 1, none⟩ = some (.int .i64 (S'.pt : Int)) ∧ wa.cell? ⟨w2.heap.size, 2, none⟩ = some (.int .i64 S'.mr) := ⟨L.out.cell 0, L.out.cell 1, L.out.cell 2⟩; have tok4 : True := trivial; clear hr hb tk tok3)
              | (go_at_call 44; have tk := tok4; refine (sameLine_eq _ (S'.pt : Int) S'.mr S'.l _ _ VA.out LV.out.holds HSL.out).mono ?_; rintro e wb ⟨rfl, hb⟩; have L := Lib.hid (L.out.below hb); have I := Lib.hid (I.out.below hb); have hT2 : wb.cell? ⟨w2.heap.size, 0, none⟩ = some (.slice Av nv cv) ∧ wb.cell? ⟨w2.heap.size, 1, none⟩ = some (.int .i64 (S'.pt : Int)) ∧ wb.cell? ⟨w2.heap.size, 2, none⟩ = some (.int .i64 S'.mr) := ⟨L.out.cell 0, L.out.cell 1, L.out.cell 2⟩; clear hb tk tok4))
            all_goals
              go_wp2_with (first
                | (go_at_call 45; refine (CLE.out _ I.out).mono ?_; rintro e w6 ⟨rfl, hb⟩; have I := Lib.hid (I.out.below hb); clear hb)
                | (go_at_call 35; refine (CPT.out _ I.out).mono ?_; rintro e w7 ⟨rfl, rfl⟩)
                | (go_at_call 46; refine (CMR.out _ I.out).mono ?_; rintro e w8 ⟨rfl, rfl⟩))
              go_roundw
              case rel => exact ⟨k + 1, HKN.out, next_val hwk, _, I.out⟩
              case measure => exact measure_lt HKN.out hwk

      by_cases k3 : kk = 3
      · subst k3
        as_aux_lemma =>
        obtain ⟨S', hS'⟩ : ∃ S', S' = applyS S p del ins := ⟨_, rfl⟩
        obtain ⟨code, hcode⟩ : ∃ code, code = applyErr S p del ins := ⟨_, rfl⟩
        have HUN : ¬ code = 0 → S' = S := fun h => by rw [hcode] at h; rw [hS']; exact if_neg h
        have COP0 : Hid (∀ W, StI w W g S → Calls Tryd.prog 36 #[.pointer (some ⟨g, 0, none⟩), editV p (.slice A2 del.length c2) (.slice A3 ins.length c3)] W (OpPost W g S' code)) := Lib.hid fun W h => by rw [hS', hcode]; exact apply_any W g S h.s p del ins _ _ (HD.out.below h.b) (OffR.of HIN.out h.b h.lt) HDL.out HIL.out
        have HSL : Hid (S.l.length ≤ 140737488355328) := Lib.hid (by have := okS.len; omega)
        by_cases hc : code = 0
        · subst hc
          have CLE := Lib.hid fun W (h : StI w W g S') => lenB_any W g _ h.s
          have CPT := Lib.hid fun W (h : StI w W g S') => pointB_any W g _ h.s
          have CMR := Lib.hid fun W (h : StI w W g S') => markB_any W g _ h.s
          have COP := COP0
          clear COP0 HUN hS' hcode okS
          go_wp2_with (first
            | (go_at_call 39; have tk := tok1; refine (CLN.out _ I1.out).mono ?_; rintro e w2 ⟨v, rfl, hr, hb⟩; obtain ⟨Av, nv, cv, rfl⟩ := hr.form3; have hb3 : Below w2.heap.size w2 (w2.alloc (.cells #[.slice Av nv cv, .int .i64 (S.pt : Int), .int .i64 S.mr] 55)) := (Below.refl _ _).alloc (Nat.le_refl _) _; have LV := Lib.hid ((hr.off I1.out.s.lt).touch (Touch.of_below hb3)); have I := Lib.hid ((I1.out.below hb).below hb3); have X := Lib.hid ((X1.out.below hb).below hb3); have L : Hid (LBox (w2.alloc (.cells #[.slice Av nv cv, .int .i64 (S.pt : Int), .int .i64 S.mr] 55)) w2.heap.size #[.slice Av nv cv, .int .i64 (S.pt : Int), .int .i64 S.mr]) := Lib.hid (alloc_new _ _); have HGL := Lib.hid (Nat.lt_of_lt_of_le I1.out.s.lt hb.size); have o0 := X.out.cell 0; have o1 := X.out.cell 1; have o2 := X.out.cell 2; have o3 := X.out.cell 3; have o4 := X.out.cell 4; have o5 := X.out.cell 5; have o6 := X.out.cell 6; have tok2 : True := trivial; clear hr hb hb3 tk tok1)
            | (go_at_call 36; have tk := tok2; refine (COP.out _ I.out).mono ?_; rintro e w4 ⟨rfl, hS, ht⟩; have LV := Lib.hid (LV.out.touch ht); have L := Lib.hid (L.out.touch ht HGL.out); have I := Lib.hid (I.out.touch ht hS); have okT := I.out.s.ok; have g1 : (((S'.l.length : Nat) : Int) > 1024) = False := (by have := okT.len; simp; omega); have g2 : ((1024 : Int) < ((S'.l.length : Nat) : Int)) = False := (by have := okT.len; simp; omega); have g2' : (1024 < S'.l.length) = False := (by have := okT.len; simp; omega); have g3 : (((S'.l.length : Nat) : Int) < ((S'.pt : Nat) : Int)) = False := (by have := okT.pt; simp; omega); have g3' : (S'.l.length < S'.pt) = False := (by have := okT.pt; simp; omega); have g4 : (S'.mr < -1) = False := (by have := okT.mr0; simp; omega); have g5 : (((S'.l.length : Nat) : Int) < S'.mr) = False := (by have := okT.mr; simp; omega); clear okT; have tok3 : True := trivial; clear hS ht tk tok2))
          go_quiet (fail)
          have Dn : Below w4.heap.size w4 (w4.drewN nq) := ⟨rfl, rfl, rfl, Nat.le_refl _, fun _ _ => rfl⟩
          have I := Lib.hid (I.out.below Dn)
          go_wp2_with (first
            | (go_at_call 45; refine (CLE.out _ I.out).mono ?_; rintro e w6 ⟨rfl, hb⟩; have I := Lib.hid (I.out.below hb); clear hb)
            | (go_at_call 35; refine (CPT.out _ I.out).mono ?_; rintro e w7 ⟨rfl, rfl⟩)
            | (go_at_call 46; refine (CMR.out _ I.out).mono ?_; rintro e w8 ⟨rfl, rfl⟩))
          go_roundw
          case rel => exact ⟨k + 1, HKN.out, next_val hwk, _, I.out⟩
          case measure => exact measure_lt HKN.out hwk
        · have hSS := HUN hc
          subst hSS
          have hcs : code = 70 ∨ code = 3 ∨ code = 71 := by
            have hq := apply_codes S' p del ins
            rw [← hcode] at hq
            exact hq.resolve_left hc
          have okT := okS
          have g1 : (((S'.l.length : Nat) : Int) > 1024) = False := by have := okT.len; simp; omega
          have g2 : ((1024 : Int) < ((S'.l.length : Nat) : Int)) = False := by have := okT.len; simp; omega
          have g2' : (1024 < S'.l.length) = False := by have := okT.len; simp; omega
          have g3 : (((S'.l.length : Nat) : Int) < ((S'.pt : Nat) : Int)) = False := by have := okT.pt; simp; omega
          have g3' : (S'.l.length < S'.pt) = False := by have := okT.pt; simp; omega
          have g4 : (S'.mr < -1) = False := by have := okT.mr0; simp; omega
          have g5 : (((S'.l.length : Nat) : Int) < S'.mr) = False := by have := okT.mr; simp; omega
          have CLE := Lib.hid fun W (h : StI w W g S') => lenB_any W g _ h.s
          have CPT := Lib.hid fun W (h : StI w W g S') => pointB_any W g _ h.s
          have CMR := Lib.hid fun W (h : StI w W g S') => markB_any W g _ h.s
          have COP := COP0
          clear COP0 HUN hS' hcode okS okT hc
          rcases hcs with hcs | hcs | hcs
          · subst hcs
            go_wp2_with (first
              | (go_at_call 39; have tk := tok1; refine (CLN.out _ I1.out).mono ?_; rintro e w2 ⟨v, rfl, hr, hb⟩; obtain ⟨Av, nv, cv, rfl⟩ := hr.form3; have hb3 : Below w2.heap.size w2 (w2.alloc (.cells #[.slice Av nv cv, .int .i64 (S'.pt : Int), .int .i64 S'.mr] 55)) := (Below.refl _ _).alloc (Nat.le_refl _) _; have LV := Lib.hid ((hr.off I1.out.s.lt).touch (Touch.of_below hb3)); have I := Lib.hid ((I1.out.below hb).below hb3); have X := Lib.hid ((X1.out.below hb).below hb3); have L : Hid (LBox (w2.alloc (.cells #[.slice Av nv cv, .int .i64 (S'.pt : Int), .int .i64 S'.mr] 55)) w2.heap.size #[.slice Av nv cv, .int .i64 (S'.pt : Int), .int .i64 S'.mr]) := Lib.hid (alloc_new _ _); have HGL := Lib.hid (Nat.lt_of_lt_of_le I1.out.s.lt hb.size); have o0 := X.out.cell 0; have o1 := X.out.cell 1; have o2 := X.out.cell 2; have o3 := X.out.cell 3; have o4 := X.out.cell 4; have o5 := X.out.cell 5; have o6 := X.out.cell 6; have tok2 : True := trivial; clear hr hb hb3 tk tok1)
              | (go_at_call 36; have tk := tok2; refine (COP.out _ I.out).mono ?_; rintro e w4 ⟨rfl, hS, ht⟩; have LV := Lib.hid (LV.out.touch ht); have L := Lib.hid (L.out.touch ht HGL.out); have I := Lib.hid (I.out.touch ht hS); have tok3 : True := trivial; clear hS ht tk tok2))
            have D0 : Below w4.heap.size w4 w4.drew := (Below.refl _ _).drew
            have LV := Lib.hid (LV.out.touch (Touch.of_below D0))
            have L := Lib.hid (L.out.below D0)
            have I := Lib.hid (I.out.below D0)
            have hT0 : w4.drew.cell? ⟨w2.heap.size, 0, none⟩ = some (.slice Av nv cv) ∧ w4.drew.cell? ⟨w2.heap.size, 1, none⟩ = some (.int .i64 (S'.pt : Int)) ∧ w4.drew.cell? ⟨w2.heap.size, 2, none⟩ = some (.int .i64 S'.mr) := ⟨L.out.cell 0, L.out.cell 1, L.out.cell 2⟩
            go_region_held3 (fun W => W.cell? ⟨w2.heap.size, 0, none⟩ = some (.slice Av nv cv) ∧ W.cell? ⟨w2.heap.size, 1, none⟩ = some (.int .i64 (S'.pt : Int)) ∧ W.cell? ⟨w2.heap.size, 2, none⟩ = some (.int .i64 S'.mr)) (first | with_reducible exact hT2 | with_reducible exact hT1 | with_reducible exact hT0 | fail) (first
              | (go_at_call 39; have tk := tok3; refine (CLN.out _ I.out).mono ?_; rintro e wa ⟨va, rfl, hr, hb⟩; have VA := Lib.hid hr.holds; have LV := Lib.hid (LV.out.touch (Touch.of_below hb)); have L := Lib.hid (L.out.below hb); have I := Lib.hid (I.out.below hb); have hT1 : wa.cell? ⟨w2.heap.size, 0, none⟩ = some (.slice Av nv cv) ∧ wa.cell? ⟨w2.heap.size, 1, none⟩ = some (.int .i64 (S'.pt : Int)) ∧ wa.cell? ⟨w2.heap.size, 2, none⟩ = some (.int .i64 S'.mr) := ⟨L.out.cell 0, L.out.cell 1, L.out.cell 2⟩; have tok4 : True := trivial; clear hr hb tk tok3)
              | (go_at_call 44; have tk := tok4; refine (sameLine_eq _ (S'.pt : Int) S'.mr S'.l _ _ VA.out LV.out.holds HSL.out).mono ?_; rintro e wb ⟨rfl, hb⟩; have L := Lib.hid (L.out.below hb); have I := Lib.hid (I.out.below hb); have hT2 : wb.cell? ⟨w2.heap.size, 0, none⟩ = some (.slice Av nv cv) ∧ wb.cell? ⟨w2.heap.size, 1, none⟩ = some (.int .i64 (S'.pt : Int)) ∧ wb.cell? ⟨w2.heap.size, 2, none⟩ = some (.int .i64 S'.mr) := ⟨L.out.cell 0, L.out.cell 1, L.out.cell 2⟩; clear hb tk tok4))
            all_goals
              go_wp2_with (first
                | (go_at_call 45; refine (CLE.out _ I.out).mono ?_; rintro e w6 ⟨rfl, hb⟩; have I := Lib.hid (I.out.below hb); clear hb)
                | (go_at_call 35; refine (CPT.out _ I.out).mono ?_; rintro e w7 ⟨rfl, rfl⟩)
                | (go_at_call 46; refine (CMR.out _ I.out).mono ?_; rintro e w8 ⟨rfl, rfl⟩))
              go_roundw
              case rel => exact ⟨k + 1, HKN.out, next_val hwk, _, I.out⟩
              case measure => exact measure_lt HKN.out hwk
          · subst hcs
            go_wp2_with (first
              | (go_at_call 39; have tk := tok1; refine (CLN.out _ I1.out).mono ?_; rintro e w2 ⟨v, rfl, hr, hb⟩; obtain ⟨Av, nv, cv, rfl⟩ := hr.form3; have hb3 : Below w2.heap.size w2 (w2.alloc (.cells #[.slice Av nv cv, .int .i64 (S'.pt : Int), .int .i64 S'.mr] 55)) := (Below.refl _ _).alloc (Nat.le_refl _) _; have LV := Lib.hid ((hr.off I1.out.s.lt).touch (Touch.of_below hb3)); have I := Lib.hid ((I1.out.below hb).below hb3); have X := Lib.hid ((X1.out.below hb).below hb3); have L : Hid (LBox (w2.alloc (.cells #[.slice Av nv cv, .int .i64 (S'.pt : Int), .int .i64 S'.mr] 55)) w2.heap.size #[.slice Av nv cv, .int .i64 (S'.pt : Int), .int .i64 S'.mr]) := Lib.hid (alloc_new _ _); have HGL := Lib.hid (Nat.lt_of_lt_of_le I1.out.s.lt hb.size); have o0 := X.out.cell 0; have o1 := X.out.cell 1; have o2 := X.out.cell 2; have o3 := X.out.cell 3; have o4 := X.out.cell 4; have o5 := X.out.cell 5; have o6 := X.out.cell 6; have tok2 : True := trivial; clear hr hb hb3 tk tok1)
              | (go_at_call 36; have tk := tok2; refine (COP.out _ I.out).mono ?_; rintro e w4 ⟨rfl, hS, ht⟩; have LV := Lib.hid (LV.out.touch ht); have L := Lib.hid (L.out.touch ht HGL.out); have I := Lib.hid (I.out.touch ht hS); have tok3 : True := trivial; clear hS ht tk tok2))
            have D0 : Below w4.heap.size w4 w4.drew := (Below.refl _ _).drew
            have LV := Lib.hid (LV.out.touch (Touch.of_below D0))
            have L := Lib.hid (L.out.below D0)
            have I := Lib.hid (I.out.below D0)
            have hT0 : w4.drew.cell? ⟨w2.heap.size, 0, none⟩ = some (.slice Av nv cv) ∧ w4.drew.cell? ⟨w2.heap.size, 1, none⟩ = some (.int .i64 (S'.pt : Int)) ∧ w4.drew.cell? ⟨w2.heap.size, 2, none⟩ = some (.int .i64 S'.mr) := ⟨L.out.cell 0, L.out.cell 1, L.out.cell 2⟩
            go_region_held3 (fun W => W.cell? ⟨w2.heap.size, 0, none⟩ = some (.slice Av nv cv) ∧ W.cell? ⟨w2.heap.size, 1, none⟩ = some (.int .i64 (S'.pt : Int)) ∧ W.cell? ⟨w2.heap.size, 2, none⟩ = some (.int .i64 S'.mr)) (first | with_reducible exact hT2 | with_reducible exact hT1 | with_reducible exact hT0 | fail) (first
              | (go_at_call 39; have tk := tok3; refine (CLN.out _ I.out).mono ?_; rintro e wa ⟨va, rfl, hr, hb⟩; have VA := Lib.hid hr.holds; have LV := Lib.hid (LV.out.touch (Touch.of_below hb)); have L := Lib.hid (L.out.below hb); have I := Lib.hid (I.out.below hb); have hT1 : wa.cell? ⟨w2.heap.size, 0, none⟩ = some (.slice Av nv cv) ∧ wa.cell? ⟨w2.heap.size, 1, none⟩ = some (.int .i64 (S'.pt : Int)) ∧ wa.cell? ⟨w2.heap.size, 2, none⟩ = some (.int .i64 S'.mr) := ⟨L.out.cell 0, L.out.cell 1, L.out.cell 2⟩; have tok4 : True := trivial; clear hr hb tk tok3)
              | (go_at_call 44; have tk := tok4; refine (sameLine_eq _ (S'.pt : Int) S'.mr S'.l _ _ VA.out LV.out.holds HSL.out).mono ?_; rintro e wb ⟨rfl, hb⟩; have L := Lib.hid (L.out.below hb); have I := Lib.hid (I.out.below hb); have hT2 : wb.cell? ⟨w2.heap.size, 0, none⟩ = some (.slice Av nv cv) ∧ wb.cell? ⟨w2.heap.size, 1, none⟩ = some (.int .i64 (S'.pt : Int)) ∧ wb.cell? ⟨w2.heap.size, 2, none⟩ = some (.int .i64 S'.mr) := ⟨L.out.cell 0, L.out.cell 1, L.out.cell 2⟩; clear hb tk tok4))
            all_goals
              go_wp2_with (first
                | (go_at_call 45; refine (CLE.out _ I.out).mono ?_; rintro e w6 ⟨rfl, hb⟩; have I := Lib.hid (I.out.below hb); clear hb)
                | (go_at_call 35; refine (CPT.out _ I.out).mono ?_; rintro e w7 ⟨rfl, rfl⟩)
                | (go_at_call 46; refine (CMR.out _ I.out).mono ?_; rintro e w8 ⟨rfl, rfl⟩))
              go_roundw
              case rel => exact ⟨k + 1, HKN.out, next_val hwk, _, I.out⟩
              case measure => exact measure_lt HKN.out hwk
          · subst hcs
            go_wp2_with (first
              | (go_at_call 39; have tk := tok1; refine (CLN.out _ I1.out).mono ?_; rintro e w2 ⟨v, rfl, hr, hb⟩; obtain ⟨Av, nv, cv, rfl⟩ := hr.form3; have hb3 : Below w2.heap.size w2 (w2.alloc (.cells #[.slice Av nv cv, .int .i64 (S'.pt : Int), .int .i64 S'.mr] 55)) := (Below.refl _ _).alloc (Nat.le_refl _) _; have LV := Lib.hid ((hr.off I1.out.s.lt).touch (Touch.of_below hb3)); have I := Lib.hid ((I1.out.below hb).below hb3); have X := Lib.hid ((X1.out.below hb).below hb3); have L : Hid (LBox (w2.alloc (.cells #[.slice Av nv cv, .int .i64 (S'.pt : Int), .int .i64 S'.mr] 55)) w2.heap.size #[.slice Av nv cv, .int .i64 (S'.pt : Int), .int .i64 S'.mr]) := Lib.hid (alloc_new _ _); have HGL := Lib.hid (Nat.lt_of_lt_of_le I1.out.s.lt hb.size); have o0 := X.out.cell 0; have o1 := X.out.cell 1; have o2 := X.out.cell 2; have o3 := X.out.cell 3; have o4 := X.out.cell 4; have o5 := X.out.cell 5; have o6 := X.out.cell 6; have tok2 : True := trivial; clear hr hb hb3 tk tok1)
              | (go_at_call 36; have tk := tok2; refine (COP.out _ I.out).mono ?_; rintro e w4 ⟨rfl, hS, ht⟩; have LV := Lib.hid (LV.out.touch ht); have L := Lib.hid (L.out.touch ht HGL.out); have I := Lib.hid (I.out.touch ht hS); have tok3 : True := trivial; clear hS ht tk tok2))
            have D0 : Below w4.heap.size w4 w4.drew := (Below.refl _ _).drew
            have LV := Lib.hid (LV.out.touch (Touch.of_below D0))
            have L := Lib.hid (L.out.below D0)
            have I := Lib.hid (I.out.below D0)
            have hT0 : w4.drew.cell? ⟨w2.heap.size, 0, none⟩ = some (.slice Av nv cv) ∧ w4.drew.cell? ⟨w2.heap.size, 1, none⟩ = some (.int .i64 (S'.pt : Int)) ∧ w4.drew.cell? ⟨w2.heap.size, 2, none⟩ = some (.int .i64 S'.mr) := ⟨L.out.cell 0, L.out.cell 1, L.out.cell 2⟩
            go_region_held3 (fun W => W.cell? ⟨w2.heap.size, 0, none⟩ = some (.slice Av nv cv) ∧ W.cell? ⟨w2.heap.size, 1, none⟩ = some (.int .i64 (S'.pt : Int)) ∧ W.cell? ⟨w2.heap.size, 2, none⟩ = some (.int .i64 S'.mr)) (first | with_reducible exact hT2 | with_reducible exact hT1 | with_reducible exact hT0 | fail) (first
              | (go_at_call 39; have tk := tok3; refine (CLN.out _ I.out).mono ?_; rintro e wa ⟨va, rfl, hr, hb⟩; have VA := Lib.hid hr.holds; have LV := Lib.hid (LV.out.touch (Touch.of_below hb)); have L := Lib.hid (L.out.below hb); have I := Lib.hid (I.out.below hb); have hT1 : wa.cell? ⟨w2.heap.size, 0, none⟩ = some (.slice Av nv cv) ∧ wa.cell? ⟨w2.heap.size, 1, none⟩ = some (.int .i64 (S'.pt : Int)) ∧ wa.cell? ⟨w2.heap.size, 2, none⟩ = some (.int .i64 S'.mr) := ⟨L.out.cell 0, L.out.cell 1, L.out.cell 2⟩; have tok4 : True := trivial; clear hr hb tk tok3)
              | (go_at_call 44; have tk := tok4; refine (sameLine_eq _ (S'.pt : Int) S'.mr S'.l _ _ VA.out LV.out.holds HSL.out).mono ?_; rintro e wb ⟨rfl, hb⟩; have L := Lib.hid (L.out.below hb); have I := Lib.hid (I.out.below hb); have hT2 : wb.cell? ⟨w2.heap.size, 0, none⟩ = some (.slice Av nv cv) ∧ wb.cell? ⟨w2.heap.size, 1, none⟩ = some (.int .i64 (S'.pt : Int)) ∧ wb.cell? ⟨w2.heap.size, 2, none⟩ = some (.int .i64 S'.mr) := ⟨L.out.cell 0, L.out.cell 1, L.out.cell 2⟩; clear hb tk tok4))
            all_goals
              go_wp2_with (first
                | (go_at_call 45; refine (CLE.out _ I.out).mono ?_; rintro e w6 ⟨rfl, hb⟩; have I := Lib.hid (I.out.below hb); clear hb)
                | (go_at_call 35; refine (CPT.out _ I.out).mono ?_; rintro e w7 ⟨rfl, rfl⟩)
                | (go_at_call 46; refine (CMR.out _ I.out).mono ?_; rintro e w8 ⟨rfl, rfl⟩))
              go_roundw
              case rel => exact ⟨k + 1, HKN.out, next_val hwk, _, I.out⟩
              case measure => exact measure_lt HKN.out hwk

      by_cases k4 : kk = 4
      · subst k4
        as_aux_lemma =>
        obtain ⟨S', hS'⟩ : ∃ S', S' = moveS S a := ⟨_, rfl⟩
        obtain ⟨code, hcode⟩ : ∃ code, code = moveErr S a := ⟨_, rfl⟩
        have HUN : ¬ code = 0 → S' = S := fun h => by rw [hcode] at h; rw [hS']; exact move_same h
        have COP0 : Hid (∀ W, StI w W g S → Calls Tryd.prog 16 #[.pointer (some ⟨g, 0, none⟩), .int .i64 a] W (OpPost W g S' code)) := Lib.hid fun W h => by rw [hS', hcode]; exact moveB_any W g S h.s a
        have HSL : Hid (S.l.length ≤ 140737488355328) := Lib.hid (by have := okS.len; omega)
        by_cases hc : code = 0
        · subst hc
          have CLE := Lib.hid fun W (h : StI w W g S') => lenB_any W g _ h.s
          have CPT := Lib.hid fun W (h : StI w W g S') => pointB_any W g _ h.s
          have CMR := Lib.hid fun W (h : StI w W g S') => markB_any W g _ h.s
          have COP := COP0
          clear COP0 HUN hS' hcode okS
          go_wp2_with (first
            | (go_at_call 39; have tk := tok1; refine (CLN.out _ I1.out).mono ?_; rintro e w2 ⟨v, rfl, hr, hb⟩; obtain ⟨Av, nv, cv, rfl⟩ := hr.form3; have hb3 : Below w2.heap.size w2 (w2.alloc (.cells #[.slice Av nv cv, .int .i64 (S.pt : Int), .int .i64 S.mr] 55)) := (Below.refl _ _).alloc (Nat.le_refl _) _; have LV := Lib.hid ((hr.off I1.out.s.lt).touch (Touch.of_below hb3)); have I := Lib.hid ((I1.out.below hb).below hb3); have X := Lib.hid ((X1.out.below hb).below hb3); have L : Hid (LBox (w2.alloc (.cells #[.slice Av nv cv, .int .i64 (S.pt : Int), .int .i64 S.mr] 55)) w2.heap.size #[.slice Av nv cv, .int .i64 (S.pt : Int), .int .i64 S.mr]) := Lib.hid (alloc_new _ _); have HGL := Lib.hid (Nat.lt_of_lt_of_le I1.out.s.lt hb.size); have o0 := X.out.cell 0; have o1 := X.out.cell 1; have o2 := X.out.cell 2; have o3 := X.out.cell 3; have o4 := X.out.cell 4; have o5 := X.out.cell 5; have o6 := X.out.cell 6; have tok2 : True := trivial; clear hr hb hb3 tk tok1)
            | (go_at_call 16; have tk := tok2; refine (COP.out _ I.out).mono ?_; rintro e w4 ⟨rfl, hS, ht⟩; have LV := Lib.hid (LV.out.touch ht); have L := Lib.hid (L.out.touch ht HGL.out); have I := Lib.hid (I.out.touch ht hS); have okT := I.out.s.ok; have g1 : (((S'.l.length : Nat) : Int) > 1024) = False := (by have := okT.len; simp; omega); have g2 : ((1024 : Int) < ((S'.l.length : Nat) : Int)) = False := (by have := okT.len; simp; omega); have g2' : (1024 < S'.l.length) = False := (by have := okT.len; simp; omega); have g3 : (((S'.l.length : Nat) : Int) < ((S'.pt : Nat) : Int)) = False := (by have := okT.pt; simp; omega); have g3' : (S'.l.length < S'.pt) = False := (by have := okT.pt; simp; omega); have g4 : (S'.mr < -1) = False := (by have := okT.mr0; simp; omega); have g5 : (((S'.l.length : Nat) : Int) < S'.mr) = False := (by have := okT.mr; simp; omega); clear okT; have tok3 : True := trivial; clear hS ht tk tok2))
          go_quiet (fail)
          have Dn : Below w4.heap.size w4 (w4.drewN nq) := ⟨rfl, rfl, rfl, Nat.le_refl _, fun _ _ => rfl⟩
          have I := Lib.hid (I.out.below Dn)
          go_wp2_with (first
            | (go_at_call 45; refine (CLE.out _ I.out).mono ?_; rintro e w6 ⟨rfl, hb⟩; have I := Lib.hid (I.out.below hb); clear hb)
            | (go_at_call 35; refine (CPT.out _ I.out).mono ?_; rintro e w7 ⟨rfl, rfl⟩)
            | (go_at_call 46; refine (CMR.out _ I.out).mono ?_; rintro e w8 ⟨rfl, rfl⟩))
          go_roundw
          case rel => exact ⟨k + 1, HKN.out, next_val hwk, _, I.out⟩
          case measure => exact measure_lt HKN.out hwk
        · have hSS := HUN hc
          subst hSS
          have hcs : code = 70 := by
            have hq := move_codes S' a
            rw [← hcode] at hq
            exact hq.resolve_left hc
          have okT := okS
          have g1 : (((S'.l.length : Nat) : Int) > 1024) = False := by have := okT.len; simp; omega
          have g2 : ((1024 : Int) < ((S'.l.length : Nat) : Int)) = False := by have := okT.len; simp; omega
          have g2' : (1024 < S'.l.length) = False := by have := okT.len; simp; omega
          have g3 : (((S'.l.length : Nat) : Int) < ((S'.pt : Nat) : Int)) = False := by have := okT.pt; simp; omega
          have g3' : (S'.l.length < S'.pt) = False := by have := okT.pt; simp; omega
          have g4 : (S'.mr < -1) = False := by have := okT.mr0; simp; omega
          have g5 : (((S'.l.length : Nat) : Int) < S'.mr) = False := by have := okT.mr; simp; omega
          have CLE := Lib.hid fun W (h : StI w W g S') => lenB_any W g _ h.s
          have CPT := Lib.hid fun W (h : StI w W g S') => pointB_any W g _ h.s
          have CMR := Lib.hid fun W (h : StI w W g S') => markB_any W g _ h.s
          have COP := COP0
          clear COP0 HUN hS' hcode okS okT hc
          rcases hcs with hcs
          · subst hcs
            go_wp2_with (first
              | (go_at_call 39; have tk := tok1; refine (CLN.out _ I1.out).mono ?_; rintro e w2 ⟨v, rfl, hr, hb⟩; obtain ⟨Av, nv, cv, rfl⟩ := hr.form3; have hb3 : Below w2.heap.size w2 (w2.alloc (.cells #[.slice Av nv cv, .int .i64 (S'.pt : Int), .int .i64 S'.mr] 55)) := (Below.refl _ _).alloc (Nat.le_refl _) _; have LV := Lib.hid ((hr.off I1.out.s.lt).touch (Touch.of_below hb3)); have I := Lib.hid ((I1.out.below hb).below hb3); have X := Lib.hid ((X1.out.below hb).below hb3); have L : Hid (LBox (w2.alloc (.cells #[.slice Av nv cv, .int .i64 (S'.pt : Int), .int .i64 S'.mr] 55)) w2.heap.size #[.slice Av nv cv, .int .i64 (S'.pt : Int), .int .i64 S'.mr]) := Lib.hid (alloc_new _ _); have HGL := Lib.hid (Nat.lt_of_lt_of_le I1.out.s.lt hb.size); have o0 := X.out.cell 0; have o1 := X.out.cell 1; have o2 := X.out.cell 2; have o3 := X.out.cell 3; have o4 := X.out.cell 4; have o5 := X.out.cell 5; have o6 := X.out.cell 6; have tok2 : True := trivial; clear hr hb hb3 tk tok1)
              | (go_at_call 16; have tk := tok2; refine (COP.out _ I.out).mono ?_; rintro e w4 ⟨rfl, hS, ht⟩; have LV := Lib.hid (LV.out.touch ht); have L := Lib.hid (L.out.touch ht HGL.out); have I := Lib.hid (I.out.touch ht hS); have tok3 : True := trivial; clear hS ht tk tok2))
            have D0 : Below w4.heap.size w4 w4.drew := (Below.refl _ _).drew
            have LV := Lib.hid (LV.out.touch (Touch.of_below D0))
            have L := Lib.hid (L.out.below D0)
            have I := Lib.hid (I.out.below D0)
            have hT0 : w4.drew.cell? ⟨w2.heap.size, 0, none⟩ = some (.slice Av nv cv) ∧ w4.drew.cell? ⟨w2.heap.size, 1, none⟩ = some (.int .i64 (S'.pt : Int)) ∧ w4.drew.cell? ⟨w2.heap.size, 2, none⟩ = some (.int .i64 S'.mr) := ⟨L.out.cell 0, L.out.cell 1, L.out.cell 2⟩
            go_region_held3 (fun W => W.cell? ⟨w2.heap.size, 0, none⟩ = some (.slice Av nv cv) ∧ W.cell? ⟨w2.heap.size, 1, none⟩ = some (.int .i64 (S'.pt : Int)) ∧ W.cell? ⟨w2.heap.size, 2, none⟩ = some (.int .i64 S'.mr)) (first | with_reducible exact hT2 | with_reducible exact hT1 | with_reducible exact hT0 | fail) (first
              | (go_at_call 39; have tk := tok3; refine (CLN.out _ I.out).mono ?_; rintro e wa ⟨va, rfl, hr, hb⟩; have VA := Lib.hid hr.holds; have LV := Lib.hid (LV.out.touch (Touch.of_below hb)); have L := Lib.hid (L.out.below hb); have I := Lib.hid (I.out.below hb); have hT1 : wa.cell? ⟨w2.heap.size, 0, none⟩ = some (.slice Av nv cv) ∧ wa.cell? ⟨w2.heap.size, 1, none⟩ = some (.int .i64 (S'.pt : Int)) ∧ wa.cell? ⟨w2.heap.size, 2, none⟩ = some (.int .i64 S'.mr) := ⟨L.out.cell 0, L.out.cell 1, L.out.cell 2⟩; have tok4 : True := trivial; clear hr hb tk tok3)
              | (go_at_call 44; have tk := tok4; refine (sameLine_eq _ (S'.pt : Int) S'.mr S'.l _ _ VA.out LV.out.holds HSL.out).mono ?_; rintro e wb ⟨rfl, hb⟩; have L := Lib.hid (L.out.below hb); have I := Lib.hid (I.out.below hb); have hT2 : wb.cell? ⟨w2.heap.size, 0, none⟩ = some (.slice Av nv cv) ∧ wb.cell? ⟨w2.heap.size, 1, none⟩ = some (.int .i64 (S'.pt : Int)) ∧ wb.cell? ⟨w2.heap.size, 2, none⟩ = some (.int .i64 S'.mr) := ⟨L.out.cell 0, L.out.cell 1, L.out.cell 2⟩; clear hb tk tok4))
            all_goals
              go_wp2_with (first
                | (go_at_call 45; refine (CLE.out _ I.out).mono ?_; rintro e w6 ⟨rfl, hb⟩; have I := Lib.hid (I.out.below hb); clear hb)
                | (go_at_call 35; refine (CPT.out _ I.out).mono ?_; rintro e w7 ⟨rfl, rfl⟩)
                | (go_at_call 46; refine (CMR.out _ I.out).mono ?_; rintro e w8 ⟨rfl, rfl⟩))
              go_roundw
              case rel => exact ⟨k + 1, HKN.out, next_val hwk, _, I.out⟩
              case measure => exact measure_lt HKN.out hwk

      by_cases k5 : kk = 5
      · subst k5
        as_aux_lemma =>
        obtain ⟨S', hS'⟩ : ∃ S', S' = markS S a := ⟨_, rfl⟩
        obtain ⟨code, hcode⟩ : ∃ code, code = markErr S a := ⟨_, rfl⟩
        have HUN : ¬ code = 0 → S' = S := fun h => by rw [hcode] at h; rw [hS']; exact mark_same h
        have COP0 : Hid (∀ W, StI w W g S → Calls Tryd.prog 42 #[.pointer (some ⟨g, 0, none⟩), .int .i64 a] W (OpPost W g S' code)) := Lib.hid fun W h => by rw [hS', hcode]; exact setMarkB_any W g S h.s a
        have HSL : Hid (S.l.length ≤ 140737488355328) := Lib.hid (by have := okS.len; omega)
        by_cases hc : code = 0
        · subst hc
          have CLE := Lib.hid fun W (h : StI w W g S') => lenB_any W g _ h.s
          have CPT := Lib.hid fun W (h : StI w W g S') => pointB_any W g _ h.s
          have CMR := Lib.hid fun W (h : StI w W g S') => markB_any W g _ h.s
          have COP := COP0
          clear COP0 HUN hS' hcode okS
          go_wp2_with (first
            | (go_at_call 39; have tk := tok1; refine (CLN.out _ I1.out).mono ?_; rintro e w2 ⟨v, rfl, hr, hb⟩; obtain ⟨Av, nv, cv, rfl⟩ := hr.form3; have hb3 : Below w2.heap.size w2 (w2.alloc (.cells #[.slice Av nv cv, .int .i64 (S.pt : Int), .int .i64 S.mr] 55)) := (Below.refl _ _).alloc (Nat.le_refl _) _; have LV := Lib.hid ((hr.off I1.out.s.lt).touch (Touch.of_below hb3)); have I := Lib.hid ((I1.out.below hb).below hb3); have X := Lib.hid ((X1.out.below hb).below hb3); have L : Hid (LBox (w2.alloc (.cells #[.slice Av nv cv, .int .i64 (S.pt : Int), .int .i64 S.mr] 55)) w2.heap.size #[.slice Av nv cv, .int .i64 (S.pt : Int), .int .i64 S.mr]) := Lib.hid (alloc_new _ _); have HGL := Lib.hid (Nat.lt_of_lt_of_le I1.out.s.lt hb.size); have o0 := X.out.cell 0; have o1 := X.out.cell 1; have o2 := X.out.cell 2; have o3 := X.out.cell 3; have o4 := X.out.cell 4; have o5 := X.out.cell 5; have o6 := X.out.cell 6; have tok2 : True := trivial; clear hr hb hb3 tk tok1)
            | (go_at_call 42; have tk := tok2; refine (COP.out _ I.out).mono ?_; rintro e w4 ⟨rfl, hS, ht⟩; have LV := Lib.hid (LV.out.touch ht); have L := Lib.hid (L.out.touch ht HGL.out); have I := Lib.hid (I.out.touch ht hS); have okT := I.out.s.ok; have g1 : (((S'.l.length : Nat) : Int) > 1024) = False := (by have := okT.len; simp; omega); have g2 : ((1024 : Int) < ((S'.l.length : Nat) : Int)) = False := (by have := okT.len; simp; omega); have g2' : (1024 < S'.l.length) = False := (by have := okT.len; simp; omega); have g3 : (((S'.l.length : Nat) : Int) < ((S'.pt : Nat) : Int)) = False := (by have := okT.pt; simp; omega); have g3' : (S'.l.length < S'.pt) = False := (by have := okT.pt; simp; omega); have g4 : (S'.mr < -1) = False := (by have := okT.mr0; simp; omega); have g5 : (((S'.l.length : Nat) : Int) < S'.mr) = False := (by have := okT.mr; simp; omega); clear okT; have tok3 : True := trivial; clear hS ht tk tok2))
          go_quiet (fail)
          have Dn : Below w4.heap.size w4 (w4.drewN nq) := ⟨rfl, rfl, rfl, Nat.le_refl _, fun _ _ => rfl⟩
          have I := Lib.hid (I.out.below Dn)
          go_wp2_with (first
            | (go_at_call 45; refine (CLE.out _ I.out).mono ?_; rintro e w6 ⟨rfl, hb⟩; have I := Lib.hid (I.out.below hb); clear hb)
            | (go_at_call 35; refine (CPT.out _ I.out).mono ?_; rintro e w7 ⟨rfl, rfl⟩)
            | (go_at_call 46; refine (CMR.out _ I.out).mono ?_; rintro e w8 ⟨rfl, rfl⟩))
          go_roundw
          case rel => exact ⟨k + 1, HKN.out, next_val hwk, _, I.out⟩
          case measure => exact measure_lt HKN.out hwk
        · have hSS := HUN hc
          subst hSS
          have hcs : code = 70 := by
            have hq := mark_codes S' a
            rw [← hcode] at hq
            exact hq.resolve_left hc
          have okT := okS
          have g1 : (((S'.l.length : Nat) : Int) > 1024) = False := by have := okT.len; simp; omega
          have g2 : ((1024 : Int) < ((S'.l.length : Nat) : Int)) = False := by have := okT.len; simp; omega
          have g2' : (1024 < S'.l.length) = False := by have := okT.len; simp; omega
          have g3 : (((S'.l.length : Nat) : Int) < ((S'.pt : Nat) : Int)) = False := by have := okT.pt; simp; omega
          have g3' : (S'.l.length < S'.pt) = False := by have := okT.pt; simp; omega
          have g4 : (S'.mr < -1) = False := by have := okT.mr0; simp; omega
          have g5 : (((S'.l.length : Nat) : Int) < S'.mr) = False := by have := okT.mr; simp; omega
          have CLE := Lib.hid fun W (h : StI w W g S') => lenB_any W g _ h.s
          have CPT := Lib.hid fun W (h : StI w W g S') => pointB_any W g _ h.s
          have CMR := Lib.hid fun W (h : StI w W g S') => markB_any W g _ h.s
          have COP := COP0
          clear COP0 HUN hS' hcode okS okT hc
          rcases hcs with hcs
          · subst hcs
            go_wp2_with (first
              | (go_at_call 39; have tk := tok1; refine (CLN.out _ I1.out).mono ?_; rintro e w2 ⟨v, rfl, hr, hb⟩; obtain ⟨Av, nv, cv, rfl⟩ := hr.form3; have hb3 : Below w2.heap.size w2 (w2.alloc (.cells #[.slice Av nv cv, .int .i64 (S'.pt : Int), .int .i64 S'.mr] 55)) := (Below.refl _ _).alloc (Nat.le_refl _) _; have LV := Lib.hid ((hr.off I1.out.s.lt).touch (Touch.of_below hb3)); have I := Lib.hid ((I1.out.below hb).below hb3); have X := Lib.hid ((X1.out.below hb).below hb3); have L : Hid (LBox (w2.alloc (.cells #[.slice Av nv cv, .int .i64 (S'.pt : Int), .int .i64 S'.mr] 55)) w2.heap.size #[.slice Av nv cv, .int .i64 (S'.pt : Int), .int .i64 S'.mr]) := Lib.hid (alloc_new _ _); have HGL := Lib.hid (Nat.lt_of_lt_of_le I1.out.s.lt hb.size); have o0 := X.out.cell 0; have o1 := X.out.cell 1; have o2 := X.out.cell 2; have o3 := X.out.cell 3; have o4 := X.out.cell 4; have o5 := X.out.cell 5; have o6 := X.out.cell 6; have tok2 : True := trivial; clear hr hb hb3 tk tok1)
              | (go_at_call 42; have tk := tok2; refine (COP.out _ I.out).mono ?_; rintro e w4 ⟨rfl, hS, ht⟩; have LV := Lib.hid (LV.out.touch ht); have L := Lib.hid (L.out.touch ht HGL.out); have I := Lib.hid (I.out.touch ht hS); have tok3 : True := trivial; clear hS ht tk tok2))
            have D0 : Below w4.heap.size w4 w4.drew := (Below.refl _ _).drew
            have LV := Lib.hid (LV.out.touch (Touch.of_below D0))
            have L := Lib.hid (L.out.below D0)
            have I := Lib.hid (I.out.below D0)
            have hT0 : w4.drew.cell? ⟨w2.heap.size, 0, none⟩ = some (.slice Av nv cv) ∧ w4.drew.cell? ⟨w2.heap.size, 1, none⟩ = some (.int .i64 (S'.pt : Int)) ∧ w4.drew.cell? ⟨w2.heap.size, 2, none⟩ = some (.int .i64 S'.mr) := ⟨L.out.cell 0, L.out.cell 1, L.out.cell 2⟩
            go_region_held3 (fun W => W.cell? ⟨w2.heap.size, 0, none⟩ = some (.slice Av nv cv) ∧ W.cell? ⟨w2.heap.size, 1, none⟩ = some (.int .i64 (S'.pt : Int)) ∧ W.cell? ⟨w2.heap.size, 2, none⟩ = some (.int .i64 S'.mr)) (first | with_reducible exact hT2 | with_reducible exact hT1 | with_reducible exact hT0 | fail) (first
              | (go_at_call 39; have tk := tok3; refine (CLN.out _ I.out).mono ?_; rintro e wa ⟨va, rfl, hr, hb⟩; have VA := Lib.hid hr.holds; have LV := Lib.hid (LV.out.touch (Touch.of_below hb)); have L := Lib.hid (L.out.below hb); have I := Lib.hid (I.out.below hb); have hT1 : wa.cell? ⟨w2.heap.size, 0, none⟩ = some (.slice Av nv cv) ∧ wa.cell? ⟨w2.heap.size, 1, none⟩ = some (.int .i64 (S'.pt : Int)) ∧ wa.cell? ⟨w2.heap.size, 2, none⟩ = some (.int .i64 S'.mr) := ⟨L.out.cell 0, L.out.cell 1, L.out.cell 2⟩; have tok4 : True := trivial; clear hr hb tk tok3)
              | (go_at_call 44; have tk := tok4; refine (sameLine_eq _ (S'.pt : Int) S'.mr S'.l _ _ VA.out LV.out.holds HSL.out).mono ?_; rintro e wb ⟨rfl, hb⟩; have L := Lib.hid (L.out.below hb); have I := Lib.hid (I.out.below hb); have hT2 : wb.cell? ⟨w2.heap.size, 0, none⟩ = some (.slice Av nv cv) ∧ wb.cell? ⟨w2.heap.size, 1, none⟩ = some (.int .i64 (S'.pt : Int)) ∧ wb.cell? ⟨w2.heap.size, 2, none⟩ = some (.int .i64 S'.mr) := ⟨L.out.cell 0, L.out.cell 1, L.out.cell 2⟩; clear hb tk tok4))
            all_goals
              go_wp2_with (first
                | (go_at_call 45; refine (CLE.out _ I.out).mono ?_; rintro e w6 ⟨rfl, hb⟩; have I := Lib.hid (I.out.below hb); clear hb)
                | (go_at_call 35; refine (CPT.out _ I.out).mono ?_; rintro e w7 ⟨rfl, rfl⟩)
                | (go_at_call 46; refine (CMR.out _ I.out).mono ?_; rintro e w8 ⟨rfl, rfl⟩))
              go_roundw
              case rel => exact ⟨k + 1, HKN.out, next_val hwk, _, I.out⟩
              case measure => exact measure_lt HKN.out hwk

      by_cases k6 : kk = 6
      · subst k6
        as_aux_lemma =>
        obtain ⟨S', hS'⟩ : ∃ S', S' = swapS S := ⟨_, rfl⟩
        obtain ⟨code, hcode⟩ : ∃ code, code = swapErr S := ⟨_, rfl⟩
        have HUN : ¬ code = 0 → S' = S := fun h => by rw [hcode] at h; rw [hS']; exact swap_same h
        have COP0 : Hid (∀ W, StI w W g S → Calls Tryd.prog 43 #[.pointer (some ⟨g, 0, none⟩)] W (OpPost W g S' code)) := Lib.hid fun W h => by rw [hS', hcode]; exact swapB_any W g S h.s
        have HSL : Hid (S.l.length ≤ 140737488355328) := Lib.hid (by have := okS.len; omega)
        by_cases hc : code = 0
        · subst hc
          have CLE := Lib.hid fun W (h : StI w W g S') => lenB_any W g _ h.s
          have CPT := Lib.hid fun W (h : StI w W g S') => pointB_any W g _ h.s
          have CMR := Lib.hid fun W (h : StI w W g S') => markB_any W g _ h.s
          have COP := COP0
          clear COP0 HUN hS' hcode okS
          go_wp2_with (first
            | (go_at_call 39; have tk := tok1; refine (CLN.out _ I1.out).mono ?_; rintro e w2 ⟨v, rfl, hr, hb⟩; obtain ⟨Av, nv, cv, rfl⟩ := hr.form3; have hb3 : Below w2.heap.size w2 (w2.alloc (.cells #[.slice Av nv cv, .int .i64 (S.pt : Int), .int .i64 S.mr] 55)) := (Below.refl _ _).alloc (Nat.le_refl _) _; have LV := Lib.hid ((hr.off I1.out.s.lt).touch (Touch.of_below hb3)); have I := Lib.hid ((I1.out.below hb).below hb3); have X := Lib.hid ((X1.out.below hb).below hb3); have L : Hid (LBox (w2.alloc (.cells #[.slice Av nv cv, .int .i64 (S.pt : Int), .int .i64 S.mr] 55)) w2.heap.size #[.slice Av nv cv, .int .i64 (S.pt : Int), .int .i64 S.mr]) := Lib.hid (alloc_new _ _); have HGL := Lib.hid (Nat.lt_of_lt_of_le I1.out.s.lt hb.size); have o0 := X.out.cell 0; have o1 := X.out.cell 1; have o2 := X.out.cell 2; have o3 := X.out.cell 3; have o4 := X.out.cell 4; have o5 := X.out.cell 5; have o6 := X.out.cell 6; have tok2 : True := trivial; clear hr hb hb3 tk tok1)
            | (go_at_call 43; have tk := tok2; refine (COP.out _ I.out).mono ?_; rintro e w4 ⟨rfl, hS, ht⟩; have LV := Lib.hid (LV.out.touch ht); have L := Lib.hid (L.out.touch ht HGL.out); have I := Lib.hid (I.out.touch ht hS); have okT := I.out.s.ok; have g1 : (((S'.l.length : Nat) : Int) > 1024) = False := (by have := okT.len; simp; omega); have g2 : ((1024 : Int) < ((S'.l.length : Nat) : Int)) = False := (by have := okT.len; simp; omega); have g2' : (1024 < S'.l.length) = False := (by have := okT.len; simp; omega); have g3 : (((S'.l.length : Nat) : Int) < ((S'.pt : Nat) : Int)) = False := (by have := okT.pt; simp; omega); have g3' : (S'.l.length < S'.pt) = False := (by have := okT.pt; simp; omega); have g4 : (S'.mr < -1) = False := (by have := okT.mr0; simp; omega); have g5 : (((S'.l.length : Nat) : Int) < S'.mr) = False := (by have := okT.mr; simp; omega); clear okT; have tok3 : True := trivial; clear hS ht tk tok2))
          go_quiet (fail)
          have Dn : Below w4.heap.size w4 (w4.drewN nq) := ⟨rfl, rfl, rfl, Nat.le_refl _, fun _ _ => rfl⟩
          have I := Lib.hid (I.out.below Dn)
          go_wp2_with (first
            | (go_at_call 45; refine (CLE.out _ I.out).mono ?_; rintro e w6 ⟨rfl, hb⟩; have I := Lib.hid (I.out.below hb); clear hb)
            | (go_at_call 35; refine (CPT.out _ I.out).mono ?_; rintro e w7 ⟨rfl, rfl⟩)
            | (go_at_call 46; refine (CMR.out _ I.out).mono ?_; rintro e w8 ⟨rfl, rfl⟩))
          go_roundw
          case rel => exact ⟨k + 1, HKN.out, next_val hwk, _, I.out⟩
          case measure => exact measure_lt HKN.out hwk
        · have hSS := HUN hc
          subst hSS
          have hcs : code = 6 := by
            have hq := swap_codes S'
            rw [← hcode] at hq
            exact hq.resolve_left hc
          have okT := okS
          have g1 : (((S'.l.length : Nat) : Int) > 1024) = False := by have := okT.len; simp; omega
          have g2 : ((1024 : Int) < ((S'.l.length : Nat) : Int)) = False := by have := okT.len; simp; omega
          have g2' : (1024 < S'.l.length) = False := by have := okT.len; simp; omega
          have g3 : (((S'.l.length : Nat) : Int) < ((S'.pt : Nat) : Int)) = False := by have := okT.pt; simp; omega
          have g3' : (S'.l.length < S'.pt) = False := by have := okT.pt; simp; omega
          have g4 : (S'.mr < -1) = False := by have := okT.mr0; simp; omega
          have g5 : (((S'.l.length : Nat) : Int) < S'.mr) = False := by have := okT.mr; simp; omega
          have CLE := Lib.hid fun W (h : StI w W g S') => lenB_any W g _ h.s
          have CPT := Lib.hid fun W (h : StI w W g S') => pointB_any W g _ h.s
          have CMR := Lib.hid fun W (h : StI w W g S') => markB_any W g _ h.s
          have COP := COP0
          clear COP0 HUN hS' hcode okS okT hc
          rcases hcs with hcs
          · subst hcs
            go_wp2_with (first
              | (go_at_call 39; have tk := tok1; refine (CLN.out _ I1.out).mono ?_; rintro e w2 ⟨v, rfl, hr, hb⟩; obtain ⟨Av, nv, cv, rfl⟩ := hr.form3; have hb3 : Below w2.heap.size w2 (w2.alloc (.cells #[.slice Av nv cv, .int .i64 (S'.pt : Int), .int .i64 S'.mr] 55)) := (Below.refl _ _).alloc (Nat.le_refl _) _; have LV := Lib.hid ((hr.off I1.out.s.lt).touch (Touch.of_below hb3)); have I := Lib.hid ((I1.out.below hb).below hb3); have X := Lib.hid ((X1.out.below hb).below hb3); have L : Hid (LBox (w2.alloc (.cells #[.slice Av nv cv, .int .i64 (S'.pt : Int), .int .i64 S'.mr] 55)) w2.heap.size #[.slice Av nv cv, .int .i64 (S'.pt : Int), .int .i64 S'.mr]) := Lib.hid (alloc_new _ _); have HGL := Lib.hid (Nat.lt_of_lt_of_le I1.out.s.lt hb.size); have o0 := X.out.cell 0; have o1 := X.out.cell 1; have o2 := X.out.cell 2; have o3 := X.out.cell 3; have o4 := X.out.cell 4; have o5 := X.out.cell 5; have o6 := X.out.cell 6; have tok2 : True := trivial; clear hr hb hb3 tk tok1)
              | (go_at_call 43; have tk := tok2; refine (COP.out _ I.out).mono ?_; rintro e w4 ⟨rfl, hS, ht⟩; have LV := Lib.hid (LV.out.touch ht); have L := Lib.hid (L.out.touch ht HGL.out); have I := Lib.hid (I.out.touch ht hS); have tok3 : True := trivial; clear hS ht tk tok2))
            have D0 : Below w4.heap.size w4 w4.drew := (Below.refl _ _).drew
            have LV := Lib.hid (LV.out.touch (Touch.of_below D0))
            have L := Lib.hid (L.out.below D0)
            have I := Lib.hid (I.out.below D0)
            have hT0 : w4.drew.cell? ⟨w2.heap.size, 0, none⟩ = some (.slice Av nv cv) ∧ w4.drew.cell? ⟨w2.heap.size, 1, none⟩ = some (.int .i64 (S'.pt : Int)) ∧ w4.drew.cell? ⟨w2.heap.size, 2, none⟩ = some (.int .i64 S'.mr) := ⟨L.out.cell 0, L.out.cell 1, L.out.cell 2⟩
            go_region_held3 (fun W => W.cell? ⟨w2.heap.size, 0, none⟩ = some (.slice Av nv cv) ∧ W.cell? ⟨w2.heap.size, 1, none⟩ = some (.int .i64 (S'.pt : Int)) ∧ W.cell? ⟨w2.heap.size, 2, none⟩ = some (.int .i64 S'.mr)) (first | with_reducible exact hT2 | with_reducible exact hT1 | with_reducible exact hT0 | fail) (first
              | (go_at_call 39; have tk := tok3; refine (CLN.out _ I.out).mono ?_; rintro e wa ⟨va, rfl, hr, hb⟩; have VA := Lib.hid hr.holds; have LV := Lib.hid (LV.out.touch (Touch.of_below hb)); have L := Lib.hid (L.out.below hb); have I := Lib.hid (I.out.below hb); have hT1 : wa.cell? ⟨w2.heap.size, 0, none⟩ = some (.slice Av nv cv) ∧ wa.cell? ⟨w2.heap.size, 1, none⟩ = some (.int .i64 (S'.pt : Int)) ∧ wa.cell? ⟨w2.heap.size, 2, none⟩ = some (.int .i64 S'.mr) := ⟨L.out.cell 0, L.out.cell 1, L.out.cell 2⟩; have tok4 : True := trivial; clear hr hb tk tok3)
              | (go_at_call 44; have tk := tok4; refine (sameLine_eq _ (S'.pt : Int) S'.mr S'.l _ _ VA.out LV.out.holds HSL.out).mono ?_; rintro e wb ⟨rfl, hb⟩; have L := Lib.hid (L.out.below hb); have I := Lib.hid (I.out.below hb); have hT2 : wb.cell? ⟨w2.heap.size, 0, none⟩ = some (.slice Av nv cv) ∧ wb.cell? ⟨w2.heap.size, 1, none⟩ = some (.int .i64 (S'.pt : Int)) ∧ wb.cell? ⟨w2.heap.size, 2, none⟩ = some (.int .i64 S'.mr) := ⟨L.out.cell 0, L.out.cell 1, L.out.cell 2⟩; clear hb tk tok4))
            all_goals
              go_wp2_with (first
                | (go_at_call 45; refine (CLE.out _ I.out).mono ?_; rintro e w6 ⟨rfl, hb⟩; have I := Lib.hid (I.out.below hb); clear hb)
                | (go_at_call 35; refine (CPT.out _ I.out).mono ?_; rintro e w7 ⟨rfl, rfl⟩)
                | (go_at_call 46; refine (CMR.out _ I.out).mono ?_; rintro e w8 ⟨rfl, rfl⟩))
              go_roundw
              case rel => exact ⟨k + 1, HKN.out, next_val hwk, _, I.out⟩
              case measure => exact measure_lt HKN.out hwk

      · as_aux_lemma =>
        have z0 : (kk == 0) = false := by simpa using k0
        have y0 : (kk = 0) = False := by simpa using k0
        have z1 : (kk == 1) = false := by simpa using k1
        have y1 : (kk = 1) = False := by simpa using k1
        have z2 : (kk == 2) = false := by simpa using k2
        have y2 : (kk = 2) = False := by simpa using k2
        have z3 : (kk == 3) = false := by simpa using k3
        have y3 : (kk = 3) = False := by simpa using k3
        have z4 : (kk == 4) = false := by simpa using k4
        have y4 : (kk = 4) = False := by simpa using k4
        have z5 : (kk == 5) = false := by simpa using k5
        have y5 : (kk = 5) = False := by simpa using k5
        have z6 : (kk == 6) = false := by simpa using k6
        have y6 : (kk = 6) = False := by simpa using k6
        have okT := okS
        have g1 : (((S.l.length : Nat) : Int) > 1024) = False := by have := okT.len; simp; omega
        have g2 : ((1024 : Int) < ((S.l.length : Nat) : Int)) = False := by have := okT.len; simp; omega
        have g2' : (1024 < S.l.length) = False := by have := okT.len; simp; omega
        have g3 : (((S.l.length : Nat) : Int) < ((S.pt : Nat) : Int)) = False := by have := okT.pt; simp; omega
        have g3' : (S.l.length < S.pt) = False := by have := okT.pt; simp; omega
        have g4 : (S.mr < -1) = False := by have := okT.mr0; simp; omega
        have g5 : (((S.l.length : Nat) : Int) < S.mr) = False := by have := okT.mr; simp; omega
        have CLE := Lib.hid fun W (h : StI w W g S) => lenB_any W g _ h.s
        have CPT := Lib.hid fun W (h : StI w W g S) => pointB_any W g _ h.s
        have CMR := Lib.hid fun W (h : StI w W g S) => markB_any W g _ h.s
        clear okS okT k0 k1 k2 k3 k4 k5 k6
        go_wp2_with (first
          | (go_at_call 39; have tk := tok1; refine (CLN.out _ I1.out).mono ?_; rintro e w2 ⟨v, rfl, hr, hb⟩; obtain ⟨Av, nv, cv, rfl⟩ := hr.form3; have hb3 : Below w2.heap.size w2 (w2.alloc (.cells #[.slice Av nv cv, .int .i64 (S.pt : Int), .int .i64 S.mr] 55)) := (Below.refl _ _).alloc (Nat.le_refl _) _; have LV := Lib.hid ((hr.off I1.out.s.lt).touch (Touch.of_below hb3)); have I := Lib.hid ((I1.out.below hb).below hb3); have X := Lib.hid ((X1.out.below hb).below hb3); have L : Hid (LBox (w2.alloc (.cells #[.slice Av nv cv, .int .i64 (S.pt : Int), .int .i64 S.mr] 55)) w2.heap.size #[.slice Av nv cv, .int .i64 (S.pt : Int), .int .i64 S.mr]) := Lib.hid (alloc_new _ _); have HGL := Lib.hid (Nat.lt_of_lt_of_le I1.out.s.lt hb.size); have o0 := X.out.cell 0; have o1 := X.out.cell 1; have o2 := X.out.cell 2; have o3 := X.out.cell 3; have o4 := X.out.cell 4; have o5 := X.out.cell 5; have o6 := X.out.cell 6; have tok2 : True := trivial; clear hr hb hb3 tk tok1))
        go_quiet (fail)
        have Dn : Below (w2.alloc (.cells #[.slice Av nv cv, .int .i64 (S.pt : Int), .int .i64 S.mr] 55)).heap.size (w2.alloc (.cells #[.slice Av nv cv, .int .i64 (S.pt : Int), .int .i64 S.mr] 55)) ((w2.alloc (.cells #[.slice Av nv cv, .int .i64 (S.pt : Int), .int .i64 S.mr] 55)).drewN nq) := ⟨rfl, rfl, rfl, Nat.le_refl _, fun _ _ => rfl⟩
        have I := Lib.hid (I.out.below Dn)
        go_wp2_with (first
          | (go_at_call 45; refine (CLE.out _ I.out).mono ?_; rintro e w6 ⟨rfl, hb⟩; have I := Lib.hid (I.out.below hb); clear hb)
          | (go_at_call 35; refine (CPT.out _ I.out).mono ?_; rintro e w7 ⟨rfl, rfl⟩)
          | (go_at_call 46; refine (CMR.out _ I.out).mono ?_; rintro e w8 ⟨rfl, rfl⟩))
        go_roundw
        case rel => exact ⟨k + 1, HKN.out, next_val hwk, _, I.out⟩
        case measure => exact measure_lt HKN.out hwk

    · obtain rfl : k = n := by omega
      have i2 : ((k : Int) < (k : Int)) = False := by simp
      have I := Lib.hid hI
      clear hlt hk hI
      go_wp2
      go_ret
      exact ⟨rfl, I.out.b⟩
theorem stays_any (w : World) (hT : WidTab w) (l : List Int) (lv : Value) (hl : Holds1 w lv (runeVals l)) (hlen : l.length ≤ 35184372088832) (os : List OpB) (sv : Value) (hs : ScriptB w sv os) : Calls Tryd.prog 6 #[lv, sv] w fun e w' => e = .returned (.bool true) ∧ Below w.heap.size w w' := by
  obtain ⟨A0, c0, rfl, _⟩ := id hl
  rw [runeVals_length] at hl ⊢
  by_cases hl2 : l.length ≤ 1024
  · obtain ⟨A, cap, rfl, _⟩ := id hs.cells
    exact stays_new w hT l A0 c0 hl hl2 os _ _ hs
  · exact stays_long w hT l A0 c0 hl hlen _ hl2
end Go.Proofs.YtepbhmebidmnbaaDoor
