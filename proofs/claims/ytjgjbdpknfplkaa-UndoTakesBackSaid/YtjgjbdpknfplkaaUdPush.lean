/-
  An edit added to a list: push, Add.
-/
import Derived.Test.YtjgjbdpknfplkaaUdList
namespace Go.Proofs.Ytjgjbdpknfplkaa
open Go.RowKit Go.Shelf Go.Lib
attribute [local go_sem] Oper.semAt_some

def pushG (gs : List (List Ed)) (e : Ed) : Bool → List (List Ed)
  | true => match gs with
    | [] => [[e]]
    | h :: r => (e :: h) :: r
  | false => [e] :: gs
def numG (gs : List (List Ed)) (j : Bool) : Nat := if j = true then gs.length else gs.length + 1
theorem numbered_push {gs : List (List Ed)} {e : Ed} {j : Bool} (hj : j = true → gs ≠ []) : numbered (pushG gs e j) = (e, numG gs j) :: numbered gs := by
  cases j with
  | false => rfl
  | true =>
    cases gs with
    | nil => exact absurd rfl (hj rfl)
    | cons h r => rfl
theorem full_push {gs : List (List Ed)} {e : Ed} {j : Bool} (h : Full gs) : Full (pushG gs e j) := by
  intro g hg
  cases j with
  | false =>
    simp [pushG] at hg
    rcases hg with rfl | hg
    · simp
    · exact h g hg
  | true =>
    cases gs with
    | nil => simp [pushG] at hg; subst hg; simp
    | cons x r =>
      simp [pushG] at hg
      rcases hg with rfl | hg
      · simp
      · exact h g (by simp [hg])
theorem push_ne {gs : List (List Ed)} {e : Ed} {j : Bool} : pushG gs e j ≠ [] := by
  cases j with
  | false => simp [pushG]
  | true => cases gs <;> simp [pushG]
theorem push_many {gs : List (List Ed)} {e : Ed} {j : Bool} : many (pushG gs e j) = many gs + 1 := by
  unfold many
  cases j with
  | false => simp [pushG]; first | done | omega
  | true => cases gs <;> simp [pushG] <;> omega
/-- the old blocks of K, and what is new since w -/
def More (K : Nat → Prop) (w w' : World) : Nat → Prop := fun k => K k ∨ (w.heap.size ≤ k ∧ k < w'.heap.size)
section
variable {K : Nat → Prop}
theorem chain_push {w W : World} {S : LS} {p : Option Addr} {g : Nat} (hg : GAt K w g S.gs p) (hb : Below w.heap.size w W) {e : Ed} {j : Bool} (hj : j = true → S.gs ≠ []) {dv iv : Value} (ok : EdOk e) (hd : RRow W w.heap.size dv e.d) (hi : RRow W w.heap.size iv e.i) (hlt : (numbered S.gs).length < 16384)
    {r : Array Value} (hrow : r = #[.int .i64 e.p, dv, iv, .pointer p, .int .i64 (((numbered S.gs).length + 1 : Nat) : Int), .int .i64 (numG S.gs j : Int)]) {w' : World} (hw : w' = (W.alloc (.cells r 88)).setCell ⟨g, 0, none⟩ (.pointer (some ⟨W.heap.size, 0, none⟩)))
    (hr : w.heap[g]? = some (.cells (lrow S p) 73 (0, 0))) (okS : LOk S) :
    LAt (More K w w') w' g ⟨pushG S.gs e j, S.opn, S.joins⟩ ∧ Touch (Only g) w w' := by
  have hgl := hg.lt
  have hsz := hb.size
  have hb2 : Below W.heap.size W (W.alloc (.cells r 88)) := (Below.refl _ _).alloc (Nat.le_refl _) _
  have ht : Touch (Only g) w w' := by
    rw [hw]
    exact (Touch.of_below (hb.trans (hb2.mono hsz))).trans (only_set _ g 0 _)
  have hn : (W.alloc (.cells r 88)).heap[W.heap.size]? = some (.cells r 88 (0, 0)) := alloc_new _ _
  have hs' : w'.heap.size = W.heap.size + 1 := by rw [hw]; simp [World.setCell]
  have hne : ∀ {k}, k ≠ g → w'.heap[k]? = (W.alloc (.cells r 88)).heap[k]? := fun {k} hk => by rw [hw]; exact Below.heap_setCell _ _ _ k hk
  have hrow' : w'.heap[g]? = some (.cells (lrow ⟨pushG S.gs e j, S.opn, S.joins⟩ (some ⟨W.heap.size, 0, none⟩)) 73 (0, 0)) := by
    rw [hw]
    exact heap_setCell_same _ g 0 _ _ _ (((hb2.block g (Nat.lt_of_lt_of_le hgl hsz)).trans (hb.block g hgl)).trans hr)
  have hag : Agree (More K w w') W w' := ⟨by omega, fun k hk hkl => by
    have hkg : k ≠ g := by
      rintro rfl
      rcases hk with hk | ⟨hk, _⟩
      · exact hg.off hk
      · omega
    rw [hne hkg]
    exact hb2.block k hkl⟩
  refine ⟨⟨⟨_, hrow', ⟨cell_of_row w' g 0 _ _ _ hrow', ?_, full_push hg.full, by rw [numbered_push hj, List.length_cons]; omega, Nat.lt_of_lt_of_le hgl ht.size, ?_, ?_⟩⟩, ⟨fun _ => push_ne, okS.open'⟩⟩, ht⟩
  · rw [numbered_push hj]
    refine ⟨W.heap.size, p, dv, iv, rfl, .inr ⟨hsz, by omega⟩, by omega, ?_, ⟨?_, ?_, ok⟩, (hg.chain.own hg.off ht).mono fun k hk => .inl hk⟩
    · rw [hne (by omega), hn, hrow]
    · exact (RIn.own hd fun k h1 h2 => .inr ⟨h1, by omega⟩).to hag
    · exact (RIn.own hi fun k h1 h2 => .inr ⟨h1, by omega⟩).to hag
  · rintro (hk | ⟨hk, _⟩)
    · exact hg.off hk
    · omega
  · rintro k (hk | ⟨_, hk⟩)
    · exact Nat.lt_of_lt_of_le (hg.inw k hk) ht.size
    · exact hk
def APost (K : Nat → Prop) (w : World) (g : Nat) (v : Value) (S : LS) (e : Ending) (w' : World) : Prop := e = .returned v ∧ LAt (More K w w') w' g S ∧ Touch (Only g) w w'
set_option maxRecDepth 1000000 in
set_option maxHeartbeats 4000000 in
theorem push_any (w : World) (g : Nat) (S : LS) (h : LAt K w g S) (e : Ed) (dv iv : Value) (hd : Holds1 w dv (runeVals e.d)) (hi : Holds1 w iv (runeVals e.i)) (ok : EdOk e) (hm : many S.gs < 16384) (j : Bool) (hj : j = true → S.gs ≠ []) :
    Calls Try.prog 53 #[.pointer (some ⟨g, 0, none⟩), editV e.p dv iv, .bool j] w (APost K w g (.tuple #[]) ⟨pushG S.gs e j, S.opn, S.joins⟩) := by
  obtain ⟨p, hc, hg, hr⟩ := h.parts
  obtain ⟨A1, c1, e1, _⟩ := id hd
  obtain ⟨A2, c2, e2, _⟩ := id hi
  rw [← numbered_length] at hm
  obtain ⟨w1, hw1⟩ : ∃ w1, w1 = w.alloc (.cells #[.int .i64 e.p, dv, iv] 24) := ⟨_, rfl⟩
  have b1 : Below w.heap.size w w1 := by rw [hw1]; exact (Below.refl _ _).alloc (Nat.le_refl _) _
  have X : Hid (EBox w1 w.heap.size #[.int .i64 e.p, dv, iv]) := Lib.hid (by rw [hw1]; exact alloc_new _ _)
  have GG : Hid (GAt K w1 g S.gs p) := Lib.hid ((h.below b1).ex.elim fun p' hp => by
    have e0 := hp.1.symm.trans ((b1.block g hg.lt).trans hr)
    injection e0 with e0
    injection e0 with e0
    simp [lrow] at e0
    rw [e0] at hp
    exact hp.2)
  have CC : Hid (∀ W, Below w.heap.size w W → Calls Try.prog 56 #[.pointer (some ⟨g, 0, none⟩)] W fun e w' => e = .returned (.int .i64 (S.gs.length : Int)) ∧ W = w') := Lib.hid fun W hb => by
    have h2 := hg.chain.to (Agree.of_below hb)
    exact count_any K W g S.gs p ⟨(hb.cell (p := ⟨g, 0, none⟩) hg.lt).trans hg.cell, h2, hg.full, hg.many, Nat.lt_of_lt_of_le hg.lt hb.size, hg.off, fun k hk => Nat.lt_of_lt_of_le (hg.inw k hk) hb.size⟩
  have CE : Hid (∀ W, Below w.heap.size w W → Calls Try.prog 52 #[.pointer (some ⟨g, 0, none⟩)] W fun e w' => e = .returned (.int .i64 ((numbered S.gs).length : Int)) ∧ W = w') := Lib.hid fun W hb => by
    have h2 := hg.chain.to (Agree.of_below hb)
    exact edits_any K W g S.gs p ⟨(hb.cell (p := ⟨g, 0, none⟩) hg.lt).trans hg.cell, h2, hg.full, hg.many, Nat.lt_of_lt_of_le hg.lt hb.size, hg.off, fun k hk => Nat.lt_of_lt_of_le (hg.inw k hk) hb.size⟩
  have CS : Hid (∀ W, Below w.heap.size w W → Calls Try.prog 59 #[editV e.p dv iv] W fun e' w' => ∃ A n c A' n' c', e' = .returned (editV e.p (.slice A n c) (.slice A' n' c')) ∧ RRow w' w.heap.size (.slice A n c) e.d ∧ RRow w' w.heap.size (.slice A' n' c') e.i ∧ Below W.heap.size W w') := Lib.hid fun W hb => by
    refine (same_edit W e.p e.d e.i dv iv (hd.below hb) (hi.below hb) ok.d ok.i).mono ?_
    rintro e' w' ⟨u1, u2, rfl, h1, h2, h3⟩
    obtain ⟨A, n, c, rfl⟩ := h1.form3
    obtain ⟨A', n', c', rfl⟩ := h2.form3
    exact ⟨A, n, c, A', n', c', rfl, h1.less hb.size, h2.less hb.size, h3⟩
  have HF := Lib.hid fun (W : World) (hb : Below w.heap.size w W) {u1 u2 : Value} (h1 : RRow W w.heap.size u1 e.d) (h2 : RRow W w.heap.size u2 e.i) {r : Array Value} (hrow : r = #[.int .i64 e.p, u1, u2, .pointer p, .int .i64 (((numbered S.gs).length + 1 : Nat) : Int), .int .i64 (numG S.gs j : Int)]) => chain_push hg hb hj ok h1 h2 hm hrow rfl hr h.ok
  have GL := Lib.hid hg.lt
  have GF : Hid (∀ W, Below w.heap.size w W → W.cell? ⟨g, 0, none⟩ = some (.pointer p) ∧ W.frozen? ⟨g, 0, none⟩ = false) := Lib.hid fun W hb => ⟨(hb.cell (p := ⟨g, 0, none⟩) hg.lt).trans hg.cell, frozen_of_row W g 0 _ _ ((hb.block g hg.lt).trans hr)⟩
  have B := Lib.hid b1
  have HN : Hid ((numbered S.gs).length < 16384 ∧ S.gs.length ≤ (numbered S.gs).length) := Lib.hid ⟨hm, full_length hg.full⟩
  have hwn : wrap64 (((numbered S.gs).length : Int) + 1) = (((numbered S.gs).length + 1 : Nat) : Int) := by unfold wrap64; omega
  have hwm : wrap64 ((S.gs.length : Int) + 1) = ((S.gs.length + 1 : Nat) : Int) := by have := HN.out; unfold wrap64; omega
  have HW1 := Lib.hid hw1
  have x0 := X.out.cell 0
  have x1 := X.out.cell 1
  have x2 := X.out.cell 2
  clear h hc hg hr b1 hw1 hd hi ok hm hj GG
  subst e1 e2
  generalize (runeVals e.d).length = n1 at *
  generalize (runeVals e.i).length = n2 at *
  obtain ⟨gs, opn, joins⟩ := S
  dsimp only at *
  have HT : Hid (∀ W, Below w1.heap.size w1 W → W.cell? ⟨w.heap.size, 0, none⟩ = some (.int .i64 e.p) ∧ W.cell? ⟨w.heap.size, 1, none⟩ = some (.slice A1 n1 c1) ∧ W.cell? ⟨w.heap.size, 2, none⟩ = some (.slice A2 n2 c2)) := Lib.hid fun W hb =>
    ⟨(X.out.below hb).cell 0, (X.out.below hb).cell 1, (X.out.below hb).cell 2⟩
  have D : Hid (Below w1.heap.size w1 w1.drew) := Lib.hid (Below.refl _ _).drew
  have hT0 := HT.out _ D.out
  have g0 := (GF.out _ (B.out.trans (D.out.mono B.out.size))).1
  have HX : Hid (w.heap.size ≠ g) := Lib.hid fun e => Nat.lt_irrefl _ (Nat.lt_of_lt_of_le GL.out (Nat.le_of_eq e))
  have HU : Hid (∀ (W : World) (u : Value), Below w1.heap.size w1 W → (W.setCell ⟨g, 0, none⟩ u).cell? ⟨w.heap.size, 0, none⟩ = some (.int .i64 e.p) ∧ (W.setCell ⟨g, 0, none⟩ u).cell? ⟨w.heap.size, 1, none⟩ = some (.slice A1 n1 c1) ∧ (W.setCell ⟨g, 0, none⟩ u).cell? ⟨w.heap.size, 2, none⟩ = some (.slice A2 n2 c2)) := Lib.hid fun W u hb => by
    have hX := X.out.below hb
    have hX2 : EBox (W.setCell ⟨g, 0, none⟩ u) w.heap.size #[.int .i64 e.p, .slice A1 n1 c1, .slice A2 n2 c2] := (Below.heap_setCell W ⟨g, 0, none⟩ u _ HX.out).trans hX
    exact ⟨hX2.cell 0, hX2.cell 1, hX2.cell 2⟩
  have hwi : IntKind.i64.wrap (((numbered gs).length : Int) + 1) = (((numbered gs).length + 1 : Nat) : Int) := by rw [IntWalk.i64_in _ (by have := HN.out; omega)]; rfl
  cases j with
  | true =>
    have HNG : Hid (numG gs true = gs.length) := Lib.hid rfl
    rw [HNG.out] at HF
    generalize (numbered gs).length + 1 = m1 at *
    generalize (numbered gs).length = m0 at *
    generalize gs.length = k0 at *
    clear hwm
    go_enter Try.func53, Try.ntmps53
    go_wp2_with fail
    rw [← HW1.out]
    go_wp2_with (first
      | (go_at_call 56; refine (CC.out _ B.out).mono ?_; rintro e w1 ⟨rfl, rfl⟩))
    go_region_with (first
      | (go_at_call 59; refine (CS.out _ (B.out.trans (D.out.mono B.out.size))).mono ?_; rintro e w2 ⟨Au, nu, cu, Av, nv, cv, rfl, hr1, hr2, hb⟩; have R1 := Lib.hid hr1; have R2 := Lib.hid hr2; have D := Lib.hid (D.out.trans (hb.mono D.out.size)); have hT1 := HT.out _ D.out; have g1 := (GF.out _ (B.out.trans (D.out.mono B.out.size))).1; have gA := fun o => (GF.out (w2.alloc o) (B.out.trans ((D.out.alloc D.out.size o).mono B.out.size))).1; have hU1 := fun o u => HU.out (w2.alloc o) u (D.out.alloc D.out.size o); have hA1 := fun o => HT.out (w2.alloc o) (D.out.alloc D.out.size o); have hF1 := fun o => (GF.out (w2.alloc o) (B.out.trans ((D.out.alloc D.out.size o).mono B.out.size))).2; clear hr1 hr2 hb)
      | (go_at_call 52; refine (CE.out _ (B.out.trans (D.out.mono B.out.size))).mono ?_; rintro e w3 ⟨rfl, rfl⟩))
    all_goals
      go_wp2
      go_end0
      obtain ⟨hl, ht⟩ := HF.out _ (B.out.trans (D.out.mono B.out.size)) R1.out R2.out rfl
      exact ⟨rfl, hl, ht⟩
  | false =>
    have HNG : Hid (numG gs false = gs.length + 1) := Lib.hid rfl
    rw [HNG.out] at HF
    generalize (numbered gs).length + 1 = m1 at *
    generalize (numbered gs).length = m0 at *
    generalize gs.length + 1 = k1 at *
    generalize gs.length = k0 at *
    go_enter Try.func53, Try.ntmps53
    go_wp2_with fail
    rw [← HW1.out]
    go_wp2_with (first
      | (go_at_call 56; refine (CC.out _ B.out).mono ?_; rintro e w1 ⟨rfl, rfl⟩))
    go_region_with (first
      | (go_at_call 59; refine (CS.out _ (B.out.trans (D.out.mono B.out.size))).mono ?_; rintro e w2 ⟨Au, nu, cu, Av, nv, cv, rfl, hr1, hr2, hb⟩; have R1 := Lib.hid hr1; have R2 := Lib.hid hr2; have D := Lib.hid (D.out.trans (hb.mono D.out.size)); have hT1 := HT.out _ D.out; have g1 := (GF.out _ (B.out.trans (D.out.mono B.out.size))).1; have gA := fun o => (GF.out (w2.alloc o) (B.out.trans ((D.out.alloc D.out.size o).mono B.out.size))).1; have hU1 := fun o u => HU.out (w2.alloc o) u (D.out.alloc D.out.size o); have hA1 := fun o => HT.out (w2.alloc o) (D.out.alloc D.out.size o); have hF1 := fun o => (GF.out (w2.alloc o) (B.out.trans ((D.out.alloc D.out.size o).mono B.out.size))).2; clear hr1 hr2 hb)
      | (go_at_call 52; refine (CE.out _ (B.out.trans (D.out.mono B.out.size))).mono ?_; rintro e w3 ⟨rfl, rfl⟩))
    all_goals
      go_wp2
      go_end0
      obtain ⟨hl, ht⟩ := HF.out _ (B.out.trans (D.out.mono B.out.size)) R1.out R2.out rfl
      exact ⟨rfl, hl, ht⟩
end
end Go.Proofs.Ytjgjbdpknfplkaa
