/-
  Undo and Revert.
-/
import Derived.Test.YtjgjbdpknfplkaaUdPop
namespace Go.Proofs.Ytjgjbdpknfplkaa
open Go.RowKit Go.Shelf Go.Lib
attribute [local go_sem] Oper.semAt_some

section
variable {K : Nat → Prop}
theorem enters_inverse : ∀ args W, (callFunc 16 args).run Try.prog W = .ok (.enter 16 args) W := enters_of Try.func16 (by kernel_rfl) rfl
theorem enters_same : ∀ args W, (callFunc 59 args).run Try.prog W = .ok (.enter 59 args) W := enters_of Try.func59 (by kernel_rfl) rfl
/-- a list's last group taken off -/
theorem pop_list (w : World) (g : Nat) (g0 : List Ed) (r : List (List Ed)) (h : LAt K w g ⟨g0 :: r, 0, false⟩) : Calls Try.prog 57 #[.pointer (some ⟨g, 0, none⟩), .func (.func 16) #[] #[]] w fun e w' =>
    ∃ A n c, e = .returned (.slice A n c) ∧ ERow w' w.heap.size (.slice A n c) (g0.map Ed.inv) ∧ LAt K w' g ⟨r, 0, false⟩ ∧ Touch (Only g) w w' := by
  obtain ⟨p, _, hg, hr⟩ := h.parts
  refine (pop_any (fun p => lrow ⟨[], 0, false⟩ p) 73 (fun _ _ => rfl) (fun _ => rfl) w g g0 r p hr hg _ enters_inverse Ed.inv maps_inverse).mono ?_
  rintro e w' ⟨A, n, c, q, rfl, h1, h2, h3, h4⟩
  exact ⟨A, n, c, rfl, h1, ⟨⟨q, h2, h3⟩, ⟨(fun h => by cases h), by simp⟩⟩, h4⟩
set_option maxRecDepth 1000000 in
theorem undo_none (w : World) (g : Nat) (S : LS) (h : LAt K w g S) (hS : S.gs = []) : Calls Try.prog 25 #[.pointer (some ⟨g, 0, none⟩)] w fun e w' => e = .returned (.tuple #[.slice none 0 0, .int .i64 6]) ∧ w = w' := by
  obtain ⟨p, _, hg, _⟩ := h.parts
  have CU := Lib.hid (usable_any w g S h)
  have CC := count_any K w g S.gs p hg
  rw [hS] at CC
  have CC := Lib.hid CC
  clear h hg hS
  go_enter Try.func25, Try.ntmps25
  go_wp2_with (first
    | (go_at_call 51; refine (CU.out).mono ?_; rintro e w1 ⟨rfl, rfl⟩)
    | (go_at_call 56; refine (CC.out).mono ?_; rintro e w1 ⟨rfl, rfl⟩))
  go_ret2
  exact ⟨rfl, rfl⟩
set_option maxRecDepth 1000000 in
set_option maxHeartbeats 4000000 in
theorem undo_some (w : World) (g : Nat) (S : LS) (h : LAt K w g S) (g0 : List Ed) (r : List (List Ed)) (hS : S.gs = g0 :: r) : Calls Try.prog 25 #[.pointer (some ⟨g, 0, none⟩)] w fun e w' =>
    ∃ A n c, e = .returned (.tuple #[.slice A n c, .int .i64 0]) ∧ ERow w' w.heap.size (.slice A n c) (g0.map Ed.inv) ∧ LAt K w' g ⟨r, 0, false⟩ ∧ Touch (Only g) w w' := by
  obtain ⟨p, _, hg, _⟩ := h.parts
  have CU := Lib.hid (usable_any w g S h)
  have CL := Lib.hid (closeAll_any w g S h)
  have CC := Lib.hid (count_any K w g S.gs p hg)
  rw [hS] at CC CL
  have CP := Lib.hid fun (W : World) (hW : LAt K W g ⟨g0 :: r, 0, false⟩) => pop_list W g g0 r hW
  have i1 : (((g0 :: r).length : Int) == 0) = false := by simp; omega
  have i2 : (((g0 :: r).length : Int) = 0) = False := by simp; omega
  have i3 : ((g0 :: r).length = 0) = False := by simp
  clear h hg hS
  generalize (g0 :: r).length = n at *
  go_enter Try.func25, Try.ntmps25
  go_wp2_with (first
    | (go_at_call 51; refine (CU.out).mono ?_; rintro e w1 ⟨rfl, rfl⟩)
    | (go_at_call 56; refine (CC.out).mono ?_; rintro e w1 ⟨rfl, rfl⟩)
    | (go_at_call 54; refine (CL.out).mono ?_; rintro e w2 ⟨rfl, hl, ht⟩; have L2 := Lib.hid hl; have T2 := Lib.hid ht; clear hl ht)
    | (go_at_call 57; refine (CP.out _ L2.out).mono ?_; rintro e w3 ⟨A3, n3, c3, rfl, hr, hl, ht⟩; have E3 := Lib.hid (hr.less T2.out.size); have L3 := Lib.hid hl; have T3 := Lib.hid (T2.out.trans ht); clear hr hl ht))
  go_ret2
  exact ⟨_, _, _, rfl, E3.out, L3.out, T3.out⟩
/-- k groups are off -/
structure RevI (K : Nat → Prop) (w : World) (g : Nat) (gs : List (List Ed)) (v : Value) (wr : World) (k : Nat) : Prop where
  le : k ≤ gs.length
  row : ERow wr w.heap.size v ((gs.take k).flatten.map Ed.inv)
  at' : LAt K wr g ⟨gs.drop k, 0, false⟩
  touch : Touch (Only g) w wr
theorem flat_take (gs : List (List Ed)) (k : Nat) : (gs.take k).flatten.length ≤ many gs := by
  unfold many
  induction gs generalizing k with
  | nil => simp
  | cons x xs ih =>
    cases k with
    | zero => simp
    | succ k => simp only [List.take_succ_cons, List.flatten_cons, List.length_append]; have := ih k; omega
theorem flat_next {gs : List (List Ed)} {k : Nat} (h : k < gs.length) : (gs.take (k + 1)).flatten = (gs.take k).flatten ++ gs[k] := by
  rw [List.take_succ_eq_append_getElem h, List.flatten_append, List.flatten_cons, List.flatten_nil, List.append_nil]
set_option maxRecDepth 1000000 in
set_option maxHeartbeats 4000000 in
theorem revert_any (w : World) (g : Nat) (S : LS) (h : LAt K w g S) : Calls Try.prog 28 #[.pointer (some ⟨g, 0, none⟩)] w fun e w' =>
    ∃ A n c, e = .returned (.slice A n c) ∧ ERow w' w.heap.size (.slice A n c) (S.gs.flatten.map Ed.inv) ∧ LAt K w' g ⟨[], 0, false⟩ ∧ Touch (Only g) w w' := by
  have CU := Lib.hid (usable_any w g S h)
  have CL := Lib.hid (closeAll_any w g S h)
  have HM := Lib.hid h.many
  have HG := Lib.hid h.lt
  have HINW := Lib.hid h.inw
  have HLEN : Hid (S.gs.length ≤ 16384) := Lib.hid (by have := full_length h.full; rw [numbered_length] at this; have := h.many; omega)
  have HN : Hid (∀ k, ((S.gs.drop k).length : Int) = ((S.gs.length - k : Nat) : Int)) := Lib.hid fun k => by rw [List.length_drop]
  clear h
  obtain ⟨gs, opn, joins⟩ := S
  dsimp only at *
  have CC : Hid (∀ W k v, RevI K w g gs v W k → Calls Try.prog 56 #[.pointer (some ⟨g, 0, none⟩)] W fun e w' => e = .returned (.int .i64 ((gs.length - k : Nat) : Int)) ∧ W = w') := Lib.hid fun W k v hI => by
    obtain ⟨p, _, hg, _⟩ := hI.at'.parts
    have := count_any K W g _ p hg
    rw [HN.out] at this
    exact this
  go_enter Try.func28, Try.ntmps28
  go_wp2_with (first
    | (go_at_call 51; refine (CU.out).mono ?_; rintro e w1 ⟨rfl, rfl⟩)
    | (go_at_call 54; refine (CL.out).mono ?_; rintro e w2 ⟨rfl, hl, ht⟩; have L2 := Lib.hid hl; have T2 := Lib.hid ht; clear hl ht))
  go_loopw [3] (fun v wr => ∃ k, RevI K w g gs v wr k) (fun v _ => many gs - lenV v)
  case atStart => exact ⟨0, Nat.zero_le _, ERow.nil _ _, L2.out, T2.out⟩
  case round =>
    obtain ⟨k, hI⟩ := hrel
    obtain ⟨A, c, hv⟩ := hI.row.form
    subst hv
    have HC1 := CC.out _ k _ hI
    by_cases hk : k < gs.length
    · have hdrop : gs.drop k = gs[k] :: gs.drop (k + 1) := List.drop_eq_getElem_cons hk
      have hat := hI.at'
      have hfull := (full_cons (g := gs[k]) (r := gs.drop (k + 1)) (by rw [← hdrop]; exact hat.full)).1
      rw [hdrop] at hat
      have CP := Lib.hid (pop_list wr g _ _ hat)
      have ER := Lib.hid hI.row
      have HSZ : Hid (w.heap.size ≤ wr.heap.size) := Lib.hid hI.touch.size
      have HX := Lib.hid fun (W : World) (v : Value) (hr : ERow W w.heap.size v ((gs.take k).flatten.map Ed.inv ++ gs[k].map Ed.inv)) (hl : LAt K W g ⟨gs.drop (k + 1), 0, false⟩) (ht : Touch (Only g) w W) => show RevI K w g gs v W (k + 1) from ⟨hk, by rw [flat_next hk, List.map_append]; exact hr, hl, ht⟩
      have HT := Lib.hid hI.touch
      have HLT : Hid (((gs.take k).flatten.map Ed.inv).length + (gs[k].map Ed.inv).length ≤ many gs ∧ 0 < (gs[k].map Ed.inv).length) := Lib.hid (by
        have h1 := flat_take gs (k + 1)
        have h2 := List.length_pos_iff.2 hfull
        rw [flat_next hk, List.length_append] at h1
        rw [List.length_map, List.length_map]
        omega)
      have HC2 := Lib.hid HC1
      have i1 : (((gs.length - k : Nat) : Int) > 0) = True := by simp; omega
      have i2 : ((0 : Int) < ((gs.length - k : Nat) : Int)) = True := by simp; omega
      have i3 : (0 < gs.length - k) = True := by simp; omega
      clear HC1 hI hat hdrop hfull HN CC
      generalize gs.length - k = nk at *
      generalize gs.drop (k + 1) = gd at *
      generalize gs[k].map Ed.inv = gi at *
      generalize (gs.take k).flatten.map Ed.inv = el at *
      clear hk
      generalize hn : el.length = n at *
      have HNN := Lib.hid hn
      clear hn
      go_wp2_with (first
        | (go_at_call 56; refine (HC2.out).mono ?_; rintro e w1 ⟨rfl, rfl⟩)
        | (go_at_call 57; refine (CP.out).mono ?_; rintro e w3 ⟨A3, n3, c3, rfl, hr, hl, ht⟩; have R3 := Lib.hid hr; have L3 := Lib.hid hl; have T3 := Lib.hid ht; clear hr hl ht)
        | (at_builtin; refine wpList_append_eds (by rfl) _ _ (by rfl) w.heap.size _ _ _ el gi (by rfl) (ER.out.touch T3.out fun j hj => by have := HG.out; simp only [Only] at hj; omega) (by rfl) R3.out HSZ.out (by have := HLT.out; have := HM.out; have := HNN.out; omega) (Nat.le_trans HSZ.out T3.out.size) ?_; intro v4 w4 hr4 hb4; obtain ⟨A4, c4, rfl⟩ := hr4.form; have E4 := Lib.hid hr4; have T5 := Lib.hid ((HT.out.trans T3.out).then hb4); have L4 := Lib.hid (L3.out.to ⟨hb4.size, fun j hj _ => hb4.block j (hj.elim (fun h => HINW.out j h) (fun h => h ▸ HG.out))⟩); have HN4 : Hid ((el ++ gi).length = n + gi.length) := Lib.hid (by rw [List.length_append, HNN.out]); generalize (el ++ gi).length = n4 at *; clear hr4 hb4))
      go_roundw
      case rel => exact ⟨k + 1, HX.out _ _ E4.out L4.out T5.out⟩
      case measure =>
        have h1 := HN4.out
        have h2 := HLT.out
        have h3 := HNN.out
        simp only [lenV]
        omega
    · obtain rfl : k = gs.length := by have := hI.le; omega
      rw [Nat.sub_self] at HC1
      have HC2 := Lib.hid HC1
      have HJ := Lib.hid hI
      clear HC1 hI hk HN CC
      generalize ((gs.take gs.length).flatten.map Ed.inv).length = n at *
      go_wp2_with (first
        | (go_at_call 56; refine (HC2.out).mono ?_; rintro e w1 ⟨rfl, rfl⟩))
      go_ret
      have hrow := HJ.out.row
      have hat := HJ.out.at'
      rw [List.take_length] at hrow
      rw [List.drop_length] at hat
      exact ⟨_, _, _, rfl, hrow, hat, HJ.out.touch⟩
end
end Go.Proofs.Ytjgjbdpknfplkaa
