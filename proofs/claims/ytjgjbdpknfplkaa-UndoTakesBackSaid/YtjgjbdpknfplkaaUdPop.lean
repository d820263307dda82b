/-
  The last group taken off: pop.
-/
import Derived.Test.YtjgjbdpknfplkaaUdRow
namespace Go.Proofs.Ytjgjbdpknfplkaa
open Go.RowKit Go.Shelf Go.Lib
attribute [local go_sem] Oper.semAt_some

theorem Touch.then {T : Nat → Prop} {a b c : World} (h : Touch T a b) (k : Below a.heap.size b c) : Touch T a c :=
  ⟨k.os.trans h.os, k.tape.trans h.tape, k.output.trans h.output, Nat.le_trans h.size k.size, fun i hi ht => (k.block i hi).trans (h.block i hi ht)⟩
/-- a function that makes an edit out of an edit, in rows of its own -/
def Maps (f : FuncId) (tr : Ed → Ed) : Prop :=
  ∀ (W : World) (e : Ed) (dv iv : Value), Holds1 W dv (runeVals e.d) → Holds1 W iv (runeVals e.i) → EdOk e → Calls Try.prog f #[editV e.p dv iv] W fun e' W' => ∃ A n c A' n' c', e' = .returned (editV (tr e).p (.slice A n c) (.slice A' n' c')) ∧ RRow W' W.heap.size (.slice A n c) (tr e).d ∧ RRow W' W.heap.size (.slice A' n' c') (tr e).i ∧ Below W.heap.size W W'
theorem maps_inverse : Maps 16 Ed.inv := fun W e dv iv h1 h2 ok => by
  refine (inverse_any W e.p e.d e.i dv iv h1 h2 ok.d ok.i).mono ?_
  rintro e' w' ⟨u1, u2, rfl, h1, h2, h3⟩
  obtain ⟨A, n, c, rfl⟩ := h1.form3
  obtain ⟨A', n', c', rfl⟩ := h2.form3
  exact ⟨A, n, c, A', n', c', rfl, h1, h2, h3⟩
theorem maps_same : Maps 59 id := fun W e dv iv h1 h2 ok => by
  refine (same_edit W e.p e.d e.i dv iv h1 h2 ok.d ok.i).mono ?_
  rintro e' w' ⟨u1, u2, rfl, h1, h2, h3⟩
  obtain ⟨A, n, c, rfl⟩ := h1.form3
  obtain ⟨A', n', c', rfl⟩ := h2.form3
  exact ⟨A, n, c, A', n', c', rfl, h1, h2, h3⟩
/-- the groups while the last one is being taken off -/
def restG (g0 : List Ed) (r : List (List Ed)) (k : Nat) : List (List Ed) := if k < g0.length then g0.drop k :: r else r
theorem restG_full {g0 : List Ed} {r : List (List Ed)} (h : Full (g0 :: r)) (k : Nat) : Full (restG g0 r k) := by
  unfold restG
  split
  · intro x hx
    rcases List.mem_cons.1 hx with rfl | hx
    · intro e
      have := congrArg List.length e
      simp at this
      omega
    · exact (full_cons h).2 x hx
  · exact (full_cons h).2
theorem restG_num (g0 : List Ed) (r : List (List Ed)) (k : Nat) : numbered (restG g0 r k) = (g0.drop k).map (fun e => (e, r.length + 1)) ++ numbered r := by
  unfold restG
  split
  · rfl
  · rw [List.drop_eq_nil_of_le (by omega)]
    rfl
theorem restG_next {g0 : List Ed} {r : List (List Ed)} {k : Nat} (h : k < g0.length) : numbered (restG g0 r k) = (g0[k], r.length + 1) :: numbered (restG g0 r (k + 1)) := by
  rw [restG_num, restG_num, List.drop_eq_getElem_cons h]
  rfl
theorem restG_len {g0 : List Ed} {r : List (List Ed)} {k : Nat} : ((restG g0 r k).length : Int) = if k < g0.length then ((r.length + 1 : Nat) : Int) else (r.length : Int) := by
  unfold restG
  split <;> rfl
/-- k edits of the last group have been taken off -/
structure PopI (K : Nat → Prop) (mk : Option Addr → Array Value) (t : TypeId) (w : World) (g : Nat) (g0 : List Ed) (r : List (List Ed)) (tr : Ed → Ed) (v : Value) (wr : World) (k : Nat) (p : Option Addr) : Prop where
  le : k ≤ g0.length
  row : ERow wr w.heap.size v ((g0.take k).map tr)
  head : wr.heap[g]? = some (.cells (mk p) t (0, 0))
  at' : GAt K wr g (restG g0 r k) p
  touch : Touch (Only g) w wr
def PopPost (K : Nat → Prop) (mk : Option Addr → Array Value) (t : TypeId) (w : World) (g : Nat) (g0 : List Ed) (r : List (List Ed)) (tr : Ed → Ed) (e : Ending) (w' : World) : Prop :=
  ∃ A n c q, e = .returned (.slice A n c) ∧ ERow w' w.heap.size (.slice A n c) (g0.map tr) ∧ w'.heap[g]? = some (.cells (mk q) t (0, 0)) ∧ GAt K w' g r q ∧ Touch (Only g) w w'
def lenV : Value → Nat
  | .slice _ n _ => n
  | _ => 0
section
variable {K : Nat → Prop}
/-- one more edit is off -/
theorem PopI.next {mk : Option Addr → Array Value} {t : TypeId} {w : World} {g : Nat} {g0 : List Ed} {r : List (List Ed)} {tr : Ed → Ed} {wr W : World} {v v' : Value} {k : Nat} {p q : Option Addr} (hmk : ∀ p q, (mk p).setIfInBounds 0 (.pointer q) = mk q) (hmk0 : ∀ p, (mk p)[0]? = some (.pointer p))
    (hI : PopI K mk t w g g0 r tr v wr k p) (hk : k < g0.length) (hch : Chain K wr q (numbered (restG g0 r (k + 1)))) (hb : Below w.heap.size wr W) (hg : g < w.heap.size) (hinw : ∀ k, K k → k < w.heap.size) (hrow : ERow W w.heap.size v' ((g0.take k).map tr ++ [tr g0[k]])) (hfull : Full (g0 :: r)) :
    PopI K mk t w g g0 r tr v' (W.setCell ⟨g, 0, none⟩ (.pointer q)) (k + 1) q := by
  have ht : Touch (Only g) W (W.setCell ⟨g, 0, none⟩ (.pointer q)) := only_set W g 0 _
  have hh : (W.setCell ⟨g, 0, none⟩ (.pointer q)).heap[g]? = some (.cells (mk q) t (0, 0)) := by
    rw [heap_setCell_same W g 0 _ _ _ ((hb.block g hg).trans hI.head), hmk]
  refine ⟨hk, ?_, hh, ⟨?_, ?_, restG_full hfull _, ?_, ?_, hI.at'.off, ?_⟩, (hI.touch.then hb).trans ht⟩
  · rw [List.take_succ_eq_append_getElem hk, List.map_append]
    exact hrow.touch ht fun j hj => by simp only [Only] at hj; omega
  · rw [cell_of_row _ g 0 _ _ _ hh]
    exact hmk0 q
  · refine (hch.to ⟨hb.size, fun j hj _ => hb.block j (hinw j hj)⟩).own hI.at'.off ht
  · have := hI.at'.many
    rw [restG_next hk] at this
    simp at this
    omega
  · exact Nat.lt_of_lt_of_le hg (Nat.le_trans hI.touch.size (Nat.le_trans hb.size ht.size))
  · intro j hj
    exact Nat.lt_of_lt_of_le (hinw j hj) (Nat.le_trans hI.touch.size (Nat.le_trans hb.size ht.size))
set_option maxRecDepth 1000000 in
set_option maxHeartbeats 4000000 in
theorem pop_any (mk : Option Addr → Array Value) (t : TypeId) (hmk : ∀ p q, (mk p).setIfInBounds 0 (.pointer q) = mk q) (hmk0 : ∀ p, (mk p)[0]? = some (.pointer p)) (w : World) (g : Nat) (g0 : List Ed) (r : List (List Ed)) (p : Option Addr) (hr : w.heap[g]? = some (.cells (mk p) t (0, 0))) (h : GAt K w g (g0 :: r) p) (f : FuncId) (ef : ∀ args W, (callFunc f args).run Try.prog W = .ok (.enter f args) W) (tr : Ed → Ed) (hf : Maps f tr) :
    Calls Try.prog 57 #[.pointer (some ⟨g, 0, none⟩), .func (.func f) #[] #[]] w (PopPost K mk t w g g0 r tr) := by
  have hfull := h.full
  have hm := h.many
  rw [numbered_length, many_cons] at hm
  have hr1 : r.length ≤ 16384 := by
    have := full_length (full_cons hfull).2
    rw [numbered_length] at this
    omega
  have hne : 0 < g0.length := List.length_pos_iff.2 (full_cons hfull).1
  have hi0 : restG g0 r 0 = g0 :: r := by unfold restG; rw [if_pos hne, List.drop_zero]
  have hend : restG g0 r g0.length = r := by unfold restG; rw [if_neg (by omega)]
  have HI0 : Hid (PopI K mk t w g g0 r tr (.slice none 0 0) w 0 p) := Lib.hid ⟨Nat.zero_le _, ERow.nil _ _, hr, by rw [hi0]; exact h, Touch.refl _ _⟩
  have HC0 := Lib.hid (count_any K w g (g0 :: r) p h)
  have HC := Lib.hid fun (W : World) (k : Nat) (p : Option Addr) (v : Value) (hI : PopI K mk t w g g0 r tr v W k p) => count_any K W g (restG g0 r k) p hI.at'
  have HINW := Lib.hid h.inw
  have HG := Lib.hid h.lt
  have HFULL := Lib.hid hfull
  have HM := Lib.hid hm
  have HEND := Lib.hid hend
  have HMK := Lib.hid (And.intro hmk hmk0)
  have HF := Lib.hid hf
  have HR := Lib.hid hr1
  clear hr h hf hfull hm hne hi0 hend hmk hmk0 hr1
  have e0 : ((g0 :: r).length : Int) = ((r.length + 1 : Nat) : Int) := rfl
  rw [e0] at HC0
  clear e0
  generalize hL : r.length + 1 = L at *
  have HL := Lib.hid hL
  clear hL
  go_enter Try.func57, Try.ntmps57
  go_wp2_with (first
    | (go_at_call 56; refine (HC0.out).mono ?_; rintro e w1 ⟨rfl, rfl⟩))
  go_loopw [5] (fun v wr => ∃ k q, PopI K mk t w g g0 r tr v wr k q) (fun v _ => g0.length - lenV v)
  case atStart => exact ⟨0, p, HI0.out⟩
  case round =>
    obtain ⟨k, q, hI⟩ := hrel
    obtain ⟨A, c, hv⟩ := hI.row.form
    subst hv
    have HC1 := HC.out _ k q _ hI
    rw [restG_len] at HC1
    by_cases hk : k < g0.length
    · rw [if_pos hk, HL.out] at HC1
      have HC2 := Lib.hid HC1
      clear HC1
      obtain ⟨b, r', dv, iv, rfl, hKb, hbl, hh, ⟨hd, hi, ok⟩, hch⟩ := hI.at'.head (restG_next hk)
      have c0 := cell_of_row wr b 0 _ _ _ hh
      have c1 := cell_of_row wr b 1 _ _ _ hh
      have c2 := cell_of_row wr b 2 _ _ _ hh
      have hg0 := hI.at'.cell
      have HX := Lib.hid fun (W : World) (v' : Value) (hb : Below w.heap.size wr W) (hrow : ERow W w.heap.size v' ((g0.take k).map tr ++ [tr g0[k]])) => PopI.next HMK.out.1 HMK.out.2 hI hk hch hb HG.out HINW.out hrow HFULL.out
      have HGC : Hid (∀ W, Below w.heap.size wr W → W.cell? ⟨g, 0, none⟩ = some (.pointer (some ⟨b, 0, none⟩)) ∧ W.cell? ⟨b, 3, none⟩ = some (.pointer r') ∧ W.frozen? ⟨g, 0, none⟩ = false) := Lib.hid fun W hb =>
        ⟨(World.cell?_of_block (w := wr) (w' := W) (a := ⟨g, 0, none⟩) (hb.block g HG.out)).trans hg0,
         (World.cell?_of_block (w := wr) (w' := W) (a := ⟨b, 3, none⟩) (hb.block b (HINW.out b hKb))).trans (cell_of_row wr b 3 _ _ _ hh),
         frozen_of_row W g 0 _ _ ((hb.block g HG.out).trans hI.head)⟩
      have CF := Lib.hid (HF.out wr g0[k] dv iv hd.now hi.now ok)
      have ER := Lib.hid hI.row
      have HSZ : Hid (w.heap.size ≤ wr.heap.size) := Lib.hid hI.touch.size
      have HK : Hid (k < g0.length) := Lib.hid hk
      have HLN : Hid (((g0.take k).map tr).length = k) := Lib.hid (by rw [List.length_map, List.length_take]; omega)
      obtain ⟨A1, n1, hdv⟩ := hd.form
      obtain ⟨A2, n2, hiv⟩ := hi.form
      subst hdv hiv
      clear hI hch hh hKb hbl hd hi ok
      generalize hx : g0[k] = x at *
      clear hx
      generalize x.d.length = m1 at *
      generalize x.i.length = m2 at *
      generalize hel : (g0.take k).map tr = el at *
      clear hel hk
      generalize hn : el.length = n at *
      have HN := Lib.hid hn
      clear hn
      have i1 : ((L : Int) == (L : Int)) = true := by simp
      go_wp2_with (first
        | (go_at_call 56; refine (HC2.out).mono ?_; rintro e w1 ⟨rfl, rfl⟩)
        | (with_reducible refine (CF.out).mono ?_; rintro e w2 ⟨Au, nu, cu, Av, nv, cv, rfl, hr1, hr2, hb⟩; have R1 := Lib.hid (hr1.less HSZ.out); have R2 := Lib.hid (hr2.less HSZ.out); have B2 := Lib.hid hb; clear hr1 hr2 hb)
        | (at_builtin; refine wpList_append_ed (by rfl) _ _ (by rfl) w.heap.size _ el (by rfl) ((ER.out.below B2.out).below ((Below.refl _ _).alloc (Nat.le_refl _) _)) (tr x) _ _ (R1.out.below ((Below.refl _ _).alloc (Nat.le_refl _) _)) (R2.out.below ((Below.refl _ _).alloc (Nat.le_refl _) _)) (by rfl) (alloc_new _ _) (by rfl) (by have := HN.out; have := HM.out; have := HK.out; have := HLN.out; omega) (Nat.le_trans HSZ.out (Nat.le_trans B2.out.size (by simp))) ?_; intro v4 w4 hr4 hb4; obtain ⟨A4, c4, rfl⟩ := hr4.form; have B4 : Hid (Below w.heap.size wr w4) := Lib.hid ((B2.out.mono HSZ.out).trans (((Below.refl _ _).alloc (Nat.le_trans HSZ.out B2.out.size) _).trans hb4)); have E4 := Lib.hid hr4; have HN4 : Hid ((el ++ [tr x]).length = k + 1) := Lib.hid (by have := HN.out; have := HLN.out; simp; omega); generalize (el ++ [tr x]).length = n4 at *; have q0 := (HGC.out _ B4.out).1; have q1 := (HGC.out _ B4.out).2.1; have q2 := (HGC.out _ B4.out).2.2; clear hr4 hb4))
      go_roundw
      case rel => exact ⟨k + 1, r', HX.out _ _ B4.out E4.out⟩
      case measure =>
        have h1 := HN4.out
        have h2 := HN.out
        have h3 := HLN.out
        have h4 := HK.out
        simp only [lenV]
        omega
    · rw [if_neg hk] at HC1
      have HC2 := Lib.hid HC1
      clear HC1
      obtain rfl : k = g0.length := by have := hI.le; omega
      have HJ := Lib.hid hI
      have i1 : ((r.length : Int) == (L : Int)) = false := by have := HL.out; simp; omega
      have i2 : ((r.length : Int) = (L : Int)) = False := by have := HL.out; simp; omega
      have i3 : (r.length = L) = False := by have := HL.out; simp; omega
      clear hI hk
      go_wp2_with (first
        | (go_at_call 56; refine (HC2.out).mono ?_; rintro e w1 ⟨rfl, rfl⟩))
      go_ret
      have hrow := HJ.out.row
      have hat := HJ.out.at'
      rw [List.take_length] at hrow
      rw [List.length_map] at hrow
      rw [HEND.out] at hat
      exact ⟨_, _, _, q, rfl, hrow, HJ.out.head, hat, HJ.out.touch⟩
end
end Go.Proofs.Ytjgjbdpknfplkaa
