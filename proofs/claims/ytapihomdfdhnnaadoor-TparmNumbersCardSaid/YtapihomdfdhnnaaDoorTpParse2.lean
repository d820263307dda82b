/-
  What parse, New and Check of package tparm return.
-/
import Derived.Test.YtapihomdfdhnnaaDoorTpParse
namespace Go.Proofs.YtapihomdfdhnnaaDoor
open Go.RowKit Go.Shelf Go.Lib
attribute [local go_sem] Oper.semAt_some

theorem item_row_two {wr w1 : World} {B : Nat} {v : Value} {l : List ItemD} (h : ItemRow wr B v l) (hb : Below wr.heap.size wr w1) (o1 o2 : Obj) : ItemRow ((w1.alloc o1).alloc o2) B v l :=
  own_same h fun j hj => by
    have hlt := (own_lt h j hj).2
    have hs := hb.size
    rw [Below.heap_alloc _ _ _ (by simp; omega), Below.heap_alloc _ _ _ (by omega), hb.block j hlt]
theorem row_own {W : World} {B : Nat} {v : Value} {l : List ItemD} (h : ItemRow W B v l) : ∀ k, v.ownBlock = some k → B ≤ k := fun k hk => (own_lt h k hk).1
theorem ParseI.next {w wr w1 w' : World} {s : List UInt8} {p n : Nat} {l : List ItemD} {it : ItemD} {v v' : Value} {o1 o2 : Obj} (hrow : ItemRow wr w.heap.size v l) (hbel : Below w.heap.size w wr) (hlp : l.length ≤ p) (heq : parseP s = match restP s p with | .ok r => .ok (l ++ r) | .error q => .error q)
    (hlt : p < s.length) (hn : n ≤ s.length - p) (h0 : 0 < n) (hs : restP s p = match restP s (p + n) with | .ok r => .ok ({ it with pos := p } :: r) | .error q => .error q) (hb1 : Below wr.heap.size wr w1)
    (hr : ItemRow w' w.heap.size v' (l ++ [{ it with pos := p }])) (hg : ((w1.alloc o1).alloc o2).grownBy w' v.ownBlock) : ParseI w s v' (.int .i64 ((p : Int) + (n : Int))) w' := by
  refine ⟨p + n, _, by simp, by omega, by simp; omega, hr, ?_, ?_⟩
  · have hw1 : Below w.heap.size w w1 := hbel.trans (hb1.mono hbel.size)
    have hw2 : Below w.heap.size w ((w1.alloc o1).alloc o2) := (hw1.alloc hw1.size o1).alloc (by have := hw1.size; simp; omega) o2
    exact hw2.trans (grown_below hg (by have := hw1.size; simp; omega) (row_own hrow))
  · rw [heq, hs]
    cases restP s (p + n) with
    | ok r => simp
    | error q => rfl
set_option maxRecDepth 100000 in
set_option maxHeartbeats 4000000 in
theorem parse_any (s : List UInt8) (hl : s.length ≤ 4096) (w : World) : Calls Tryd.prog 12 #[str s] w (ParsePost w s) := by
  have HST := Lib.hid (ParseI.start w s)
  have HL := Lib.hid hl
  clear hl
  go_enter Tryd.func12, Tryd.ntmps12
  go_wp2_with fail
  go_loopw [5, 6] (fun u a W => ParseI w s u a W) (fun _ a _ => s.length - (RowKit.intOf a).toNat)
  case atStart => exact HST.out
  case round =>
    obtain ⟨p, l, rfl, hp, hlp, hrow, hbel, heq⟩ := hrel
    obtain ⟨A, cap, rfl⟩ := hrow.form
    have HR := Lib.hid (And.intro hrow (And.intro hbel (And.intro hlp heq)))
    have HP := Lib.hid hp
    clear hrow hbel hlp heq
    by_cases hlt : p < s.length
    · have hi1 : (p : Int) < (s.length : Int) := by omega
      have hi2 : (0 : Int) ≤ (p : Int) := by omega
      have hi3 : (0 : Int) ≤ (p : Int) ∧ (p : Int) ≤ (s.length : Int) := by omega
      have hi4 : (p : Int) ≤ 4096 := by have := HL.out; omega
      have hx := drop_str s p
      have CF := Lib.hid (fun W => first_any (s.drop p) (by have := HL.out; rw [List.length_drop]; omega) W)
      have hn := firstP_len (s.drop p)
      rw [List.length_drop] at hn
      have HB0 := Lib.hid (@restP_bad s p hlt)
      have HS0 := Lib.hid (@restP_step s p hlt)
      have HLT := Lib.hid hlt
      unfold FirstPost at CF
      generalize firstP (s.drop p) = r at *
      obtain ⟨it, n⟩ := r
      by_cases h0 : n = 0
      · subst h0
        have HB := Lib.hid (HB0.out rfl)
        clear hlt hn hp
        go_wp2_with (go_at_call 27; (with_reducible refine (CF.out _).mono ?_); rintro e w1 ⟨rfl, hb1⟩; have HB1 := Lib.hid hb1; clear hb1)
        refine bodyPost_ret (v := .tuple #[.slice none 0 0, .int .i64 p, .int .i64 40]) (by simp [results, Tryd.results12, go_sem]) rfl ⟨(HR.out.2.1.trans (HB1.out.mono HR.out.2.1.size)).alloc (by have := HR.out.2.1.size; have := HB1.out.size; omega) _, ?_⟩
        rw [HR.out.2.2.2, HB.out]
      · have hq : ((n : Int) == 0) = false := by simp; omega
        have hn2 : (n : Int) ≤ 4096 := by have := HL.out; simp only at hn; omega
        have HN := Lib.hid hn
        have HS := Lib.hid (HS0.out h0)
        have HN0 := Lib.hid h0
        clear hlt hn hp h0 HS0 HB0
        go_wp2_with (first
          | (go_at_call 27; (with_reducible refine (CF.out _).mono ?_); rintro e w1 ⟨rfl, hb1⟩; have HB1 := Lib.hid hb1; clear hb1)
          | (at_builtin; refine wpList_append_item (by rfl) (.tmp 25) (.tmp 27) (by rfl) w.heap.size (.slice A l.length cap) l (by rfl) (item_row_two HR.out.1 HB1.out _ _) { it with pos := p } (by rfl) (alloc_two w1 _ _) (by rfl) (by have := HR.out.2.2.1; have := HP.out; have := HL.out; omega) (by have := HR.out.2.1.size; have := HB1.out.size; simp; omega) ?_; intro v' w' hr' hg' hv'; have HG := Lib.hid (And.intro hr' hg'); clear hr' hg' hv'))
        have ⟨g1, g2⟩ := HG.out
        exact ⟨ParseI.next HR.out.1 HR.out.2.1 HR.out.2.2.1 HR.out.2.2.2 HLT.out HN.out (Nat.pos_of_ne_zero HN0.out) HS.out HB1.out g1 g2, by have := HLT.out; have := HN0.out; simp [RowKit.intOf]; omega⟩
    · have hi1 : ¬ (p : Int) < (s.length : Int) := by omega
      have HLT := Lib.hid hlt
      clear hlt hp
      go_wp2_with fail
      refine bodyPost_ret (v := .tuple #[.slice A l.length cap, .int .i64 0, .int .i64 0]) (by simp [results, Tryd.results12, go_sem]) rfl ⟨HR.out.2.1, ?_⟩
      rw [HR.out.2.2.2, restP_end (Nat.le_of_not_lt HLT.out)]
      simp only [List.append_nil]
      exact ⟨_, rfl, HR.out.1, by have := HR.out.2.2.1; have := HP.out; omega⟩

/-- what Check says of a string -/
def checkS (s : List UInt8) : Int × Int := if 4096 < s.length then (0, 3) else match parseP s with | .ok _ => (0, 0) | .error q => ((q : Int), 40)
/-- a capability in its block -/
structure CapAt (W : World) (B cb : Nat) (v : Value) (s : List UInt8) : Prop where
  box : W.heap[cb]? = some (.cells #[.bool true, v, .int .i64 (checkS s).1, .int .i64 (checkS s).2] 41 (0, 0))
  base : B ≤ cb
  items : ∀ l, s.length ≤ 4096 → parseP s = .ok l → ItemRow W B v l ∧ v.ownBlock ≠ some cb ∧ l.length ≤ s.length
theorem CapAt.lt {W : World} {B cb : Nat} {v : Value} {s : List UInt8} (h : CapAt W B cb v s) : cb < W.heap.size := (Array.getElem?_eq_some_iff.1 h.box).1
theorem CapAt.below {W W' : World} {B cb : Nat} {v : Value} {s : List UInt8} (h : CapAt W B cb v s) (hb : Below W.heap.size W W') : CapAt W' B cb v s :=
  ⟨(hb.block _ h.lt).trans h.box, h.base, fun l h1 h2 => ⟨own_same (h.items l h1 h2).1 fun j hj => hb.block j (own_lt (h.items l h1 h2).1 j hj).2, (h.items l h1 h2).2⟩⟩
theorem own_mono {w : World} {base base' size n : Nat} {e : TypeId} {v : Value} {xs : List Value} (h : w.ownsRow base e size v n xs) (hb : base' ≤ base) : w.ownsRow base' e size v n xs := by
  obtain ⟨h1, h2⟩ := h
  refine ⟨h1, ?_⟩
  rcases h2 with h2 | ⟨g, cap, cur, hv, hg, r⟩
  · exact .inl h2
  · exact .inr ⟨g, cap, cur, hv, Nat.le_trans hb hg, r⟩
theorem cap_set {W : World} {n : Nat} {o1 o2 o3 : Value} (h : W.heap[n]? = some (.cells #[.bool true, o1, o2, o3] 41 (0, 0))) (v1 v2 v3 : Value) : (((W.setCell ⟨n, 1, none⟩ v1).setCell ⟨n, 2, none⟩ v2).setCell ⟨n, 3, none⟩ v3).heap[n]? = some (.cells #[.bool true, v1, v2, v3] 41 (0, 0)) := by
  have h1 := heap_setCell_same _ n 1 _ _ v1 h
  have e1 : (#[.bool true, o1, o2, o3] : Array Value).setIfInBounds 1 v1 = #[.bool true, v1, o2, o3] := rfl
  rw [e1] at h1
  have h2 := heap_setCell_same _ n 2 _ _ v2 h1
  have e2 : (#[.bool true, v1, o2, o3] : Array Value).setIfInBounds 2 v2 = #[.bool true, v1, v2, o3] := rfl
  rw [e2] at h2
  have h3 := heap_setCell_same _ n 3 _ _ v3 h2
  exact h3
theorem setBelow {w w1 : World} {o : Obj} (hb : Below (w.alloc o).heap.size (w.alloc o) w1) (v1 v2 v3 : Value) : Below w.heap.size w (((w1.setCell ⟨w.heap.size, 1, none⟩ v1).setCell ⟨w.heap.size, 2, none⟩ v2).setCell ⟨w.heap.size, 3, none⟩ v3) :=
  (((below_of hb).setCell (by simp) _).setCell (by simp) _).setCell (by simp) _
def NewPost (w : World) (s : List UInt8) (e : Ending) (w' : World) : Prop := ∃ cb v, e = .returned (.pointer (some ⟨cb, 0, none⟩)) ∧ CapAt w' w.heap.size cb v s ∧ Below w.heap.size w w'
set_option maxRecDepth 100000 in
set_option maxHeartbeats 4000000 in
theorem new_any (s : List UInt8) (w : World) : Calls Tryd.prog 5 #[str s] w (NewPost w s) := by
  by_cases hl : 4096 < s.length
  · have hC := Lib.hid (show checkS s = (0, 3) by unfold checkS; rw [if_pos hl])
    have i1 : (4096 : Int) < (s.length : Int) := by omega
    have HL := Lib.hid hl
    clear hl
    go_enter Tryd.func5, Tryd.ntmps5
    go_wp2_with fail
    go_ret
    refine ⟨w.heap.size, .slice none 0 0, rfl, ⟨?_, Nat.le_refl _, fun l h => absurd h (by have := HL.out; omega)⟩, (Below.refl _ _).alloc (Nat.le_refl _) _⟩
    rw [hC.out]
    exact alloc_new _ _
  · have i1 : ¬ (4096 : Int) < (s.length : Int) := by omega
    have CP := Lib.hid (fun W => parse_any s (by omega) W)
    have HL := Lib.hid hl
    unfold ParsePost at CP
    have hC : checkS s = match parseP s with | .ok _ => (0, 0) | .error q => ((q : Int), 40) := by unfold checkS; rw [if_neg hl]
    clear hl
    cases hp : parseP s with
    | ok l =>
      rw [hp] at CP hC
      have HC := Lib.hid hC
      have HPP := Lib.hid hp
      clear hC hp
      go_enter Tryd.func5, Tryd.ntmps5
      go_wp2_with (go_at_call 12; (with_reducible refine (CP.out _).mono ?_); rintro e w1 ⟨hb1, v, rfl, hr1, hl1⟩; obtain ⟨A, cap, rfl⟩ := hr1.form; have hbx := box_of hb1; have r1 := cell_of_row w1 _ 1 _ _ _ hbx; have r2 := cell_of_row w1 _ 2 _ _ _ hbx; have r3 := cell_of_row w1 _ 3 _ _ _ hbx; have hfr := fun i => frozen_of_row w1 _ i _ _ hbx; have H1 := Lib.hid (And.intro hbx (And.intro hb1 (And.intro hr1 hl1))); clear hbx hb1 hr1 hl1)
      go_ret
      have hb1 := H1.out.2.1
      have hT := setBelow hb1 (.slice A l.length cap) (.int .i64 0) (.int .i64 0)
      refine ⟨w.heap.size, .slice A l.length cap, rfl, ⟨?_, Nat.le_refl _, fun l' h1 h2 => ?_⟩, hT⟩
      · rw [HC.out]
        exact cap_set H1.out.1 _ _ _
      · obtain rfl : l' = l := by rw [HPP.out] at h2; injection h2 with h2; exact h2.symm
        have hrow := H1.out.2.2.1
        have hne : ∀ k, (Value.slice A l'.length cap).ownBlock = some k → k ≠ w.heap.size := fun k hk e => by have := row_own hrow k hk; simp at this; omega
        refine ⟨own_same (own_mono hrow (by simp)) fun j hj => ?_, fun e => hne _ e rfl, H1.out.2.2.2⟩
        rw [Below.heap_setCell _ _ _ _ (hne j hj), Below.heap_setCell _ _ _ _ (hne j hj), Below.heap_setCell _ _ _ _ (hne j hj)]
    | error q =>
      rw [hp] at CP hC
      have HC := Lib.hid hC
      have HPP := Lib.hid hp
      clear hC hp
      go_enter Tryd.func5, Tryd.ntmps5
      go_wp2_with (go_at_call 12; (with_reducible refine (CP.out _).mono ?_); rintro e w1 ⟨hb1, rfl⟩; have hbx := box_of hb1; have r1 := cell_of_row w1 _ 1 _ _ _ hbx; have r2 := cell_of_row w1 _ 2 _ _ _ hbx; have r3 := cell_of_row w1 _ 3 _ _ _ hbx; have hfr := fun i => frozen_of_row w1 _ i _ _ hbx; have H1 := Lib.hid (And.intro hbx hb1); clear hbx hb1)
      go_ret
      have hb1 := H1.out.2
      have hT := setBelow hb1 (.slice none 0 0) (.int .i64 (q : Int)) (.int .i64 40)
      refine ⟨w.heap.size, .slice none 0 0, rfl, ⟨?_, Nat.le_refl _, fun l' h1 h2 => by rw [HPP.out] at h2; cases h2⟩, hT⟩
      rw [HC.out]
      exact cap_set H1.out.1 _ _ _
end Go.Proofs.YtapihomdfdhnnaaDoor
