/-
  Replace, where it does what is asked, and where it refuses.
-/
import Derived.Test.YtepbhmebidmnbaaDoorBfBuf
namespace Go.Proofs.YtepbhmebidmnbaaDoor
open Go.RowKit Go.Shelf Go.Lib
attribute [local go_sem] Oper.semAt_some

abbrev editV (p : Int) (d i : Value) : Value := .agg #[.int .i64 p, d, i]
abbrev edit0 : Array Value := #[.int .i64 0, .slice none 0 0, .slice none 0 0]
def RRow (w : World) (B : Nat) (v : Value) (l : List Int) : Prop := w.ownsRow B 21 1 v l.length (runeVals l)
theorem own_kind {w : World} {base size n : Nat} {e : TypeId} {v : Value} {xs : List Value} (h : w.ownsRow base e size v n xs) {k : Nat} (hk : v.ownBlock = some k) : ∃ cur, w.heap[k]? = some (.cells cur e (0, 0)) := by
  rcases h.2 with ⟨rfl, _⟩ | ⟨g, cap, cur, rfl, _, hh, _⟩
  · cases hk
  · simp [Value.ownBlock] at hk
    subst hk
    exact ⟨cur, hh⟩
theorem RRow.form {w : World} {B : Nat} {v : Value} {l : List Int} (h : RRow w B v l) : ∃ A c, v = .slice A l.length c := by
  obtain ⟨A, c, e, _⟩ := own_form h
  exact ⟨A, c, e⟩
theorem RRow.form3 {w : World} {B : Nat} {v : Value} {l : List Int} (h : RRow w B v l) : ∃ A n c, v = .slice A n c := by
  obtain ⟨A, c, e, _⟩ := own_form h
  exact ⟨A, _, c, e⟩
theorem RRow.holds {w : World} {B : Nat} {v : Value} {l : List Int} (h : RRow w B v l) : Holds1 w v (runeVals l) := Holds1.of_own h
theorem RRow.less {w : World} {B B' : Nat} {v : Value} {l : List Int} (h : RRow w B v l) (hB : B' ≤ B) : RRow w B' v l := own_less h hB
theorem RRow.touch {w w' : World} {B g : Nat} {v : Value} {l : List Int} (h : RRow w B v l) (ht : Touch (Only g) w w') (hg : g < B) : RRow w' B v l := own_touch h ht fun k hk => by simp only [Only] at hk; omega
theorem RRow.below {w w' : World} {B : Nat} {v : Value} {l : List Int} (h : RRow w B v l) (hb : Below w.heap.size w w') : RRow w' B v l := own_below h hb
theorem RRow.off {w : World} {B g : Nat} {v : Value} {l : List Int} (h : RRow w B v l) (hg : g < B) : OffR w g v l := fun _ hW => (h.touch hW hg).holds
theorem RRow.nil (w : World) (B : Nat) : RRow w B (.slice none 0 0) [] := World.ownsRow_nil _ _ _ _
/-- an edit in a box of its own -/
def EBox (W : World) (r : Nat) (v : Array Value) : Prop := W.heap[r]? = some (.cells v 33 (0, 0))
theorem EBox.lt {W : World} {r : Nat} {v : Array Value} (h : EBox W r v) : r < W.heap.size := (Array.getElem?_eq_some_iff.1 h).1
theorem EBox.below {W W' : World} {r : Nat} {v : Array Value} (h : EBox W r v) (hb : Below W.heap.size W W') : EBox W' r v := (hb.block r h.lt).trans h
theorem EBox.touch {W W' : World} {r g : Nat} {v : Array Value} (h : EBox W r v) (ht : Touch (Only g) W W') (hr : g < r) : EBox W' r v := (ht.block r h.lt (fun e => by simp only [Only] at e; omega)).trans h
theorem EBox.cell {W : World} {r : Nat} {v : Array Value} (h : EBox W r v) (k : Nat) : W.cell? ⟨r, k, none⟩ = v[k]? := cell_of_row W r k _ _ _ h
theorem EBox.frozen {W : World} {r : Nat} {v : Array Value} (h : EBox W r v) (k : Nat) : W.frozen? ⟨r, k, none⟩ = false := frozen_of_row W r k _ _ h
theorem EBox.set {W : World} {r : Nat} {a b c x y z : Value} (h : EBox W r #[a, b, c]) : EBox (((W.setCell ⟨r, 0, none⟩ x).setCell ⟨r, 1, none⟩ y).setCell ⟨r, 2, none⟩ z) r #[x, y, z] :=
  heap_setCell_same _ r 2 _ _ _ (heap_setCell_same _ r 1 _ _ _ (heap_setCell_same _ r 0 _ _ _ h))
theorem touch_three (g : Nat) (w W : World) (r : Nat) (hr : w.heap.size ≤ r) (x y z : Value) (h : Touch (Only g) w W) : Touch (Only g) w (((W.setCell ⟨r, 0, none⟩ x).setCell ⟨r, 1, none⟩ y).setCell ⟨r, 2, none⟩ z) := by
  refine ⟨h.os, h.tape, h.output, ?_, fun k hk ht => ?_⟩
  · have := h.size; simp [World.setCell]; exact this
  · have hne : ∀ o, k ≠ (⟨r, o, none⟩ : Addr).block := fun o e => by simp at e; omega
    rw [Below.heap_setCell _ _ _ k (hne 2), Below.heap_setCell _ _ _ k (hne 1), Below.heap_setCell _ _ _ k (hne 0)]
    exact h.block k hk ht
/-- the answer's edit lies in a box of its own -/
theorem ret_edit {fn : Func} {Q : Ending → World → Prop} {a : Act} {W : World} {p u : Tmp} {cs : Array Value} {g : Nat} {t : TypeId} {fr : Nat × Nat} (h : fn.results = #[.cell p 33, .tmp u]) (hd : a.defers = []) (hp : a.tmps.getD p undef = .pointer (some ⟨g, 0, none⟩))
    (hg : W.heap[g]? = some (.cells cs t fr)) (h3 : cs.size = 3) (v : Value) (hu : a.tmps.getD u undef = v) (hR : Q (.returned (.tuple #[.agg cs, v])) W) : bodyPost Tryd.prog fn Q .ret a W := by
  refine bodyPost_ret (v := .tuple #[.agg cs, v]) ?_ hd hR
  have hp' : a.tmps[p]?.getD undef = .pointer (some ⟨g, 0, none⟩) := by simpa using hp
  have hu' : a.tmps[u]?.getD undef = v := by simpa using hu
  simp [results, h, hp', hu', asAddr, run_loadVar_row W g t 33 cs fr _ hg Tryd.underlying33 rfl (by rw [h3]; kernel_rfl)]
def ReplPost (w : World) (g : Nat) (S : BS) (a b : Nat) (x : List Int) (e : Ending) (w' : World) : Prop :=
  ∃ dv iv, e = .returned (.tuple #[editV a dv iv, .int .i64 0]) ∧ RRow w' w.heap.size dv (partP S.l a b) ∧ RRow w' w.heap.size iv x ∧ BufAt w' g (replP S a b x) ∧ Touch (Only g) w w'
def replErr (S : BS) (a b : Int) (n : Nat) : Int := if ¬ (0 ≤ a ∧ a ≤ b ∧ b ≤ S.l.length) then 70 else if 1024 < (S.l.length : Int) - (b - a) + n then 3 else 0

set_option maxRecDepth 1000000 in
set_option maxHeartbeats 4000000 in
theorem replace_ok (w : World) (g : Nat) (S : BS) (h : BufAt w g S) {a b : Nat} (hab : a ≤ b) (hb : b ≤ S.l.length) (x : List Int) (v : Value) (hx : OffR w g v x) (hl : S.l.length - (b - a) + x.length ≤ 1024) :
    Calls Tryd.prog 15 #[.pointer (some ⟨g, 0, none⟩), .int .i64 (a : Int), .int .i64 (b : Int), v] w (ReplPost w g S a b x) := by
  obtain ⟨A, c, rfl⟩ := hx.form
  obtain ⟨R, ok, hR, rfl, okS⟩ := h
  have hlen : R.S.l.length = R.u + R.v := gapLine_length ok.len ok.sum
  rw [hlen] at hb hl
  have hgl := hR.lt
  obtain ⟨n, en⟩ : ∃ n, n = R.u + R.v := ⟨_, rfl⟩
  have hs := ok.sum
  have CU : Hid (∀ W, BRAt W g R → Calls Tryd.prog 50 #[.pointer (some ⟨g, 0, none⟩)] W fun e w' => e = .returned (.bool true) ∧ W = w') := Lib.hid fun W hW => usable_any W g R hW ok
  have CH : Hid (∀ W, BRAt W g R → ∀ k : Nat, k ≤ n → Calls Tryd.prog 51 #[.pointer (some ⟨g, 0, none⟩), .int .i64 (k : Int)] W fun e w' => e = .returned (.bool true) ∧ Below W.heap.size W w') := Lib.hid fun W hW k hk => by
    have := has_any W g R hW ok (k : Int)
    rwa [show decide (0 ≤ (k : Int) ∧ (k : Int) ≤ ((R.u + R.v : Nat) : Int)) = true by simp; omega] at this
  have CL : Hid (∀ W, BRAt W g R → Calls Tryd.prog 52 #[.pointer (some ⟨g, 0, none⟩)] W fun e w' => e = .returned (.int .i64 (n : Int)) ∧ Below W.heap.size W w') := Lib.hid fun W hW => by rw [en]; exact length_any W g R hW ok
  have CP : Hid (∀ W, BRAt W g R → Calls Tryd.prog 53 #[.pointer (some ⟨g, 0, none⟩), .int .i64 (a : Int), .int .i64 (b : Int)] W fun e w' => ∃ v, e = .returned v ∧ RRow w' W.heap.size v (partP R.S.l a b) ∧ Below W.heap.size W w') := Lib.hid fun W hW => (part_any W g R hW ok hab hb).mono (by
    rintro e w' ⟨v, rfl, h1, h2⟩
    exact ⟨v, rfl, by unfold RRow; rw [partP_length hab (by rw [hlen]; exact hb)]; exact h1, h2⟩)
  have CC : Hid (∀ W, Holds1 W (.slice A x.length c) (runeVals x) → Calls Tryd.prog 54 #[.slice A x.length c] W fun e w' => ∃ v', e = .returned v' ∧ RRow w' W.heap.size v' x ∧ Below W.heap.size W w') := Lib.hid fun W hW => cloneR_any W _ x hW (by omega)
  have CR : Hid (∀ W, BRAt W g R → OffR W g (.slice A x.length c) x → Calls Tryd.prog 55 #[.pointer (some ⟨g, 0, none⟩), .int .i64 (a : Int), .int .i64 (b : Int), .slice A x.length c] W fun e w' => e = .returned (.tuple #[]) ∧ (∃ R', BROk R' ∧ BRAt w' g R' ∧ gapLine R'.A R'.u R'.v = R.S.l.take a ++ (x ++ R.S.l.drop b) ∧ R'.pt = R.pt ∧ R'.mr = R.mr) ∧ Touch (Only g) W w') := Lib.hid fun W hW hx => replaceG_any W g R hW ok hab hb x A c hx hl
  have CF : Hid (∀ W R', BRAt W g R' → BROk R' → R'.pt = R.pt → R'.mr = R.mr → Calls Tryd.prog 56 #[.pointer (some ⟨g, 0, none⟩), .int .i64 (a : Int), .int .i64 (b : Int), .int .i64 ((x.length : Nat) : Int)] W fun e w' => e = .returned (.tuple #[]) ∧ BRAt w' g { R' with pt := pointP R.pt a b x.length, mr := markP R.mr a b x.length } ∧ Touch (Only g) W w') := Lib.hid fun W R' h1 h2 h3 h4 => by
    have h5 : R.pt ≤ _ := okS.pt
    have h6 : R.mr ≤ _ := okS.mr
    rw [hlen] at h5 h6
    have := follow_any W g R' h1 h2 hab (n := x.length) (by omega) (by omega) (by rw [h3]; omega) (by rw [h4]; exact okS.mr0) (by rw [h4]; omega)
    rw [h3, h4] at this
    exact this
  have HFIN : Hid (∀ W R', BRAt W g { R' with pt := pointP R.pt a b x.length, mr := markP R.mr a b x.length } → BROk R' → gapLine R'.A R'.u R'.v = R.S.l.take a ++ (x ++ R.S.l.drop b) → BufAt W g (replP R.S a b x)) := Lib.hid fun W R' h1 h2 h3 =>
    ⟨{ R' with pt := pointP R.pt a b x.length, mr := markP R.mr a b x.length }, ⟨h2.len, h2.sum⟩, h1, by show BS.mk (gapLine R'.A R'.u R'.v) _ _ = _; rw [h3]; rfl, replP_ok okS hab (by rw [hlen]; exact hb) (by rw [hlen]; exact hl)⟩
  have hB0 : Below w.heap.size w (w.alloc (.cells edit0 33)) := (Below.refl _ _).alloc (Nat.le_refl _) _
  have T : Hid (Touch (Only g) w (w.alloc (.cells edit0 33))) := Lib.hid (Touch.of_below hB0)
  have H : Hid (BRAt (w.alloc (.cells edit0 33)) g R) := Lib.hid (hR.below hB0)
  have HG := Lib.hid hgl
  have HX := Lib.hid hx
  have HN : Hid (a ≤ n ∧ b ≤ n) := Lib.hid ⟨by omega, by omega⟩
  have j0 : ((b : Int) < (a : Int)) = False := by simp; omega
  have j1 : IntKind.i64.wrap ((b : Int) - (a : Int)) = ((b - a : Nat) : Int) := by rw [IntWalk.i64_in _ (by omega)]; omega
  have j2 : IntKind.i64.wrap ((n : Int) - ((b - a : Nat) : Int)) = ((n - (b - a) : Nat) : Int) := by rw [IntWalk.i64_in _ (by omega)]; omega
  have j3 : IntKind.i64.wrap (((n - (b - a) : Nat) : Int) + ((x.length : Nat) : Int)) = ((n - (b - a) + x.length : Nat) : Int) := by rw [IntWalk.i64_in _ (by omega)]; omega
  have j4 : (((n - (b - a) + x.length : Nat) : Int) > 1024) = False := by simp; omega
  generalize n - (b - a) + x.length = q2 at *
  generalize n - (b - a) = q1 at *
  generalize b - a = q0 at *
  clear en hs hb hl hlen hab okS hx hR ok hB0 hgl
  have X : Hid (EBox (w.alloc (.cells edit0 33)) w.heap.size edit0) := Lib.hid (alloc_new _ _)
  generalize hw1 : w.alloc (.cells edit0 33) = w1 at *
  have HW1 := Lib.hid hw1
  clear hw1
  go_enter Tryd.func15, Tryd.ntmps15
  go_wp2_with fail
  rw [HW1.out]
  go_wp2_with (first
    | (go_at_call 50; refine (CU.out _ H.out).mono ?_; rintro e w2 ⟨rfl, rfl⟩)
    | (go_at_call 51; first | (with_reducible refine (CH.out _ H.out a HN.out.1).mono ?_; rintro e w2 ⟨rfl, hb⟩; have H := Lib.hid (H.out.below hb); have T := Lib.hid (T.out.trans (Touch.of_below hb)); have X := Lib.hid (X.out.below hb); clear hb) | (with_reducible refine (CH.out _ H.out b HN.out.2).mono ?_; rintro e w2 ⟨rfl, hb⟩; have H := Lib.hid (H.out.below hb); have T := Lib.hid (T.out.trans (Touch.of_below hb)); have X := Lib.hid (X.out.below hb); clear hb))
    | (go_at_call 52; refine (CL.out _ H.out).mono ?_; rintro e w2 ⟨rfl, hb⟩; have H := Lib.hid (H.out.below hb); have T := Lib.hid (T.out.trans (Touch.of_below hb)); have X := Lib.hid (X.out.below hb); clear hb)
    | (go_at_call 53; refine (CP.out _ H.out).mono ?_; rintro e w2 ⟨dv, rfl, hr, hb⟩; obtain ⟨Ad, nd, cd, rfl⟩ := hr.form3; have D := Lib.hid (hr.less T.out.size); have H := Lib.hid (H.out.below hb); have T := Lib.hid (T.out.trans (Touch.of_below hb)); have X := Lib.hid (X.out.below hb); clear hr hb)
    | (go_at_call 54; refine (CC.out _ (HX.out.touch T.out).holds).mono ?_; rintro e w3 ⟨iv, rfl, hr, hb⟩; obtain ⟨Ai, ni, ci, rfl⟩ := hr.form3; have I := Lib.hid (hr.less T.out.size); have D := Lib.hid (D.out.below hb); have H := Lib.hid (H.out.below hb); have T := Lib.hid (T.out.trans (Touch.of_below hb)); have X := Lib.hid (X.out.below hb); have hb4 : Below w3.heap.size w3 (w3.alloc (.cells #[.int .i64 (a : Int), .slice Ad nd cd, .slice Ai ni ci] 33)) := (Below.refl _ _).alloc (Nat.le_refl _) _; have I := Lib.hid (I.out.below hb4); have D := Lib.hid (D.out.below hb4); have H := Lib.hid (H.out.below hb4); have HS := Lib.hid (Nat.lt_of_lt_of_le HG.out T.out.size); have T := Lib.hid (T.out.trans (Touch.of_below hb4)); have X := Lib.hid (X.out.below hb4); have E : Hid (EBox (w3.alloc (.cells #[.int .i64 (a : Int), .slice Ad nd cd, .slice Ai ni ci] 33)) w3.heap.size #[.int .i64 (a : Int), .slice Ad nd cd, .slice Ai ni ci]) := Lib.hid (alloc_new _ _); clear hr hb hb4)
    | (go_at_call 55; refine (CR.out _ H.out (HX.out.touch T.out)).mono ?_; rintro e w4 ⟨rfl, ⟨R', okR, hR, hg, hp, hm⟩, ht⟩; have I := Lib.hid (I.out.touch ht HG.out); have D := Lib.hid (D.out.touch ht HG.out); have T := Lib.hid (T.out.trans ht); have X := Lib.hid (X.out.touch ht HG.out); have E := Lib.hid (E.out.touch ht HS.out); have H2 := Lib.hid hR; have HQ : Hid (BROk R' ∧ gapLine R'.A R'.u R'.v = R.S.l.take a ++ (x ++ R.S.l.drop b) ∧ R'.pt = R.pt ∧ R'.mr = R.mr) := Lib.hid ⟨okR, hg, hp, hm⟩; clear ht hR okR hg hp hm)
    | (go_at_call 56; refine (CF.out _ R' H2.out HQ.out.1 HQ.out.2.2.1 HQ.out.2.2.2).mono ?_; rintro e w5 ⟨rfl, hR, ht⟩; have I := Lib.hid (I.out.touch ht HG.out); have D := Lib.hid (D.out.touch ht HG.out); have T := Lib.hid (T.out.trans ht); have X := Lib.hid (X.out.touch ht HG.out); have E := Lib.hid (E.out.touch ht HS.out); have F := Lib.hid (HFIN.out _ R' hR HQ.out.1 HQ.out.2.1); have e0 := E.out.cell 0; have e1 := E.out.cell 1; have e2 := E.out.cell 2; have x0 := X.out.cell 0; have x1 := X.out.cell 1; have x2 := X.out.cell 2; have y0 := X.out.frozen 0; have y1 := X.out.frozen 1; have y2 := X.out.frozen 2; clear ht hR))
  refine ret_edit rfl rfl rfl X.out.set rfl (.int .i64 0) rfl ?_
  have hr0 : ∀ {v : Value} {l : List Int}, RRow w5 w.heap.size v l → (∀ k, v.ownBlock = some k → k ≠ w.heap.size) → RRow (((w5.setCell ⟨w.heap.size, 0, none⟩ (.int .i64 (a : Int))).setCell ⟨w.heap.size, 1, none⟩ (.slice Ad nd cd)).setCell ⟨w.heap.size, 2, none⟩ (.slice Ai ni ci)) w.heap.size v l := fun h hk => own_same h fun k hkk => by
    have := hk k hkk
    have hne : ∀ o, k ≠ (⟨w.heap.size, o, none⟩ : Addr).block := fun o e => this e
    rw [Below.heap_setCell _ _ _ k (hne 2), Below.heap_setCell _ _ _ k (hne 1), Below.heap_setCell _ _ _ k (hne 0)]
  have hno : ∀ {v : Value} {l : List Int}, RRow w5 w.heap.size v l → ∀ k, v.ownBlock = some k → k ≠ w.heap.size := fun {v l} h k hk e => by
    subst e
    obtain ⟨cur, hh⟩ := own_kind h hk
    have := X.out
    unfold EBox at this
    rw [hh] at this
    injection this with this
    injection this with _ ht
    cases ht
  refine ⟨_, _, rfl, hr0 D.out (hno D.out), hr0 I.out (hno I.out), F.out.same ?_, touch_three g w w5 w.heap.size (Nat.le_refl _) _ _ _ T.out⟩
  have hne : ∀ o, g ≠ (⟨w.heap.size, o, none⟩ : Addr).block := fun o e => by have := HG.out; simp at e; omega
  rw [Below.heap_setCell _ _ _ g (hne 2), Below.heap_setCell _ _ _ g (hne 1), Below.heap_setCell _ _ _ g (hne 0)]
end Go.Proofs.YtepbhmebidmnbaaDoor
