/-
  The document's From.
-/
import Derived.Test.YtknekldnipdpeaaKrRefJ
namespace Go.Proofs.Ytknekldnipdpeaa
open Go.RowKit Go.Shelf Go.Lib
attribute [local go_sem] Oper.semAt_some

/-- a row under way: slices of runes of the call's own -/
def MRow (W : World) (B : Nat) (v : Value) (es : List (List Int)) : Prop :=
  ∃ xs : List Value, W.ownsRow B 30 1 v es.length xs ∧ ∀ (i : Nat) (l : List Int), es[i]? = some l → ∃ x, xs[i]? = some x ∧ RRow W B x l ∧ l.length ≤ 1024
theorem MRow.below {W W' : World} {B : Nat} {v : Value} {es : List (List Int)} (h : MRow W B v es) (hb : Below W.heap.size W W') : MRow W' B v es := by
  obtain ⟨xs, h1, h2⟩ := h
  refine ⟨xs, own_below h1 hb, fun i l hi => ?_⟩
  obtain ⟨x, h3, h4, h5⟩ := h2 i l hi
  exact ⟨x, h3, h4.below hb, h5⟩
theorem MRow.form {W : World} {B : Nat} {v : Value} {es : List (List Int)} (h : MRow W B v es) : ∃ A c, v = .slice A es.length c := by
  obtain ⟨xs, h1, _⟩ := h
  obtain ⟨A, c, e, _⟩ := own_form h1
  exact ⟨A, c, e⟩
theorem MRow.nil (W : World) (B : Nat) : MRow W B (.slice none 0 0) [] := ⟨[], World.ownsRow_nil _ _ _ _, fun i l hi => by simp at hi⟩
/-- one more -/
theorem MRow.snoc {W W' : World} {B : Nat} {v v' x : Value} {es : List (List Int)} {l : List Int} {xs : List Value} {m : Nat} (h1 : W.ownsRow B 30 1 v es.length xs) (h2 : ∀ (i : Nat) (l : List Int), es[i]? = some l → ∃ x, xs[i]? = some x ∧ RRow W B x l ∧ l.length ≤ 1024)
    (hx : RRow W B x l) (hl : l.length ≤ 1024) (hm : m = es.length + 1) (hrow : W'.ownsRow B 30 1 v' m (xs ++ [x])) (hg : W.grownBy W' v.ownBlock) : MRow W' B v' (es ++ [l]) := by
  have hlen : (es ++ [l]).length = m := by rw [List.length_append]; simp; omega
  have keep : ∀ {y : Value} {z : List Int}, RRow W B y z → RRow W' B y z := fun {y z} hr => own_same hr fun k hk => hg.block k (own_lt hr k hk).2 fun e => by
    obtain ⟨c1, e1⟩ := own_kind hr hk
    obtain ⟨c2, e2⟩ := own_kind h1 e.symm
    rw [e1] at e2
    injection e2 with e2
    injection e2 with _ e2
    exact absurd e2 (by decide)
  have hxl : xs.length = es.length := by simpa using h1.1
  refine ⟨xs ++ [x], by rw [hlen]; exact hrow, fun i z hi => ?_⟩
  by_cases hlt : i < es.length
  · rw [List.getElem?_append_left hlt] at hi
    obtain ⟨y, h3, h4, h5⟩ := h2 i z hi
    exact ⟨y, by rw [List.getElem?_append_left (by omega)]; exact h3, keep h4, h5⟩
  · have hi' : i = es.length := by
      have := (List.getElem?_eq_some_iff.1 hi).1
      rw [List.length_append] at this
      simp at this
      omega
    subst hi'
    rw [List.getElem?_append_right (Nat.le_refl _), Nat.sub_self] at hi
    simp at hi
    subst hi
    exact ⟨x, by rw [List.getElem?_append_right (by omega), hxl, Nat.sub_self]; rfl, keep hx, hl⟩
theorem built_src {w : World} (x : Value) : Src (w.alloc (.cells #[x] 30)) 1 (some ⟨w.heap.size, 0, none⟩) 1 1 [x] := own_srcs (built_own x (Nat.le_refl _))
theorem MRow.lrow {W : World} {B : Nat} {v : Value} {es : List (List Int)} (h : MRow W B v es) : LRow (fun k => B ≤ k ∧ k < W.heap.size) W v es := by
  obtain ⟨xs, h1, h2⟩ := h
  refine ⟨xs, own_less h1 (Nat.zero_le _), fun k hk => own_lt h1 k hk, fun i l hi => ?_⟩
  obtain ⟨x, h3, h4, h5⟩ := h2 i l hi
  exact ⟨x, h3, RIn.own h4 fun k a b => ⟨a, b⟩, h5⟩
set_option maxRecDepth 1000000 in
theorem wfrom_many (w : World) (A : Option Addr) (n c : Nat) (h : 60 < n) : Calls Try.prog 21 #[.slice A n c] w fun e w' => e = .returned (.tuple #[.pointer none, .int .i64 3]) ∧ w = w' := by
  have i1 : ((n : Int) > 60) = True := eq_true (by omega)
  have i2 : ((60 : Int) < (n : Int)) = True := eq_true (by omega)
  have i3 : (60 < n) = True := eq_true h
  clear h
  go_enter Try.func21, Try.ntmps21
  go_wp2
  go_ret2
  exact ⟨rfl, rfl⟩
/-- what the document's From answers -/
def WFrom (w : World) (ls : List (List Int)) (e : Ending) (w' : World) : Prop :=
  (¬ fromOk ls ∧ e = .returned (.tuple #[.pointer none, .int .i64 3]) ∧ Below w.heap.size w w') ∨
  (fromOk ls ∧ ∃ r K, e = .returned (.tuple #[.pointer (some ⟨r, 0, none⟩), .int .i64 0]) ∧ WAt K w' r ⟨ls, 0⟩ ∧ (∀ k, K k → w.heap.size ≤ k) ∧ w.heap.size ≤ r ∧ Below w.heap.size w w')
set_option maxRecDepth 1000000 in
set_option maxHeartbeats 8000000 in
theorem wfrom_any (w : World) (ls : List (List Int)) (A : Option Addr) (n c : Nat) (h : Mat w (.slice A n c) ls) : Calls Try.prog 21 #[.slice A n c] w (WFrom w ls) := by
  have hn : n = ls.length := by
    obtain ⟨A', c', e⟩ := h.form
    injection e
  by_cases h60 : 60 < n
  · refine (wfrom_many w A n c h60).mono ?_
    rintro e w' ⟨rfl, rfl⟩
    exact .inl ⟨fun hok => by have := hok.1; omega, rfl, Below.refl _ _⟩
  · have i1 : ((n : Int) > 60) = False := eq_false (by omega)
    have i2 : ((60 : Int) < (n : Int)) = False := eq_false (by omega)
    have i3 : (60 < n) = False := eq_false h60
    have HM := Lib.hid h
    have HN := Lib.hid hn
    have H60 := Lib.hid h60
    clear h hn h60
    go_enter Try.func21, Try.ntmps21
    go_wp2
    go_loopw [4, 5] (fun ov i wr => ∃ k : Nat, k ≤ n ∧ i = .int .i64 (k : Int) ∧ MRow wr w.heap.size ov (ls.take k) ∧ Below w.heap.size w wr ∧ (ls.take k).any longB = false) (fun _ i _ => n - (RowKit.intOf i).toNat)
    case atStart => exact ⟨0, Nat.zero_le _, rfl, MRow.nil _ _, Below.refl _ _, rfl⟩
    case round =>
      obtain ⟨k, hk, rfl, hr, hb, ha⟩ := hrel
      obtain ⟨xs, hr1, hr2⟩ := hr
      obtain ⟨Ao, co, rfl, _⟩ := own_form hr1
      by_cases hlt : k < n
      · have hkl : k < ls.length := by rw [← HN.out]; exact hlt
        obtain ⟨x, hx⟩ : ∃ x, ls[k]? = some x := ⟨_, List.getElem?_eq_getElem hkl⟩
        have htk : ls.take (k + 1) = ls.take k ++ [x] := by rw [List.take_add_one, hx]; rfl
        obtain ⟨bb, off, A2, c2, hA, hbl, hcell0, hh, hx1⟩ := HM.out.at hx
        subst hA
        have hcell := (hb.cell (p := ⟨bb, off + k, none⟩) hbl).trans hcell0
        have j1 : (0 : Int) ≤ (k : Int) := by omega
        have j2 : ((k : Int) < (n : Int)) = True := eq_true (by omega)
        have hwk : wrap64 ((k : Int) + 1) = (k : Int) + 1 := by have := H60.out; unfold wrap64; omega
        have HLT := Lib.hid hlt
        have hkt : (ls.take k).length = k := by rw [List.length_take]; omega
        by_cases hlong : 1024 < x.length
        · have s1 : ((x.length : Int) > 1024) = True := eq_true (by omega)
          have s2 : ((1024 : Int) < (x.length : Int)) = True := eq_true (by omega)
          have s3 : (1024 < x.length) = True := eq_true hlong
          have HNO : Hid (¬ fromOk ls) := Lib.hid (by
            rintro ⟨_, h2⟩
            have := List.any_eq_false.1 h2 x (List.mem_of_getElem? hx)
            simp [longB] at this
            omega)
          have HB := Lib.hid hb
          clear hk hr1 hr2 hb ha hlt hkl hx htk hbl hcell0 hh hx1 hkt hlong
          generalize x.length = xl at *
          generalize (ls.take k).length = kl at *
          go_wp2
          go_ret2
          exact .inl ⟨HNO.out, rfl, HB.out⟩
        · have s1 : ((x.length : Int) > 1024) = False := eq_false (by omega)
          have s2 : ((1024 : Int) < (x.length : Int)) = False := eq_false (by omega)
          have s3 : (1024 < x.length) = False := eq_false hlong
          have CC := Lib.hid (copy_any wr x (.slice A2 x.length c2) (hh.below hb) (by omega))
          have HR1 := Lib.hid hr1
          have HR2 := Lib.hid hr2
          have HB := Lib.hid hb
          have HT := Lib.hid htk
          have HXL : Hid (x.length ≤ 1024) := Lib.hid (by omega)
          have HANY : Hid ((ls.take (k + 1)).any longB = false) := Lib.hid (by
            rw [htk, List.any_append, ha]
            have : longB x = false := decide_eq_false hlong
            simp [this])
          have HKT := Lib.hid hkt
          clear hk hr1 hr2 hb ha hlt hkl hx htk hbl hcell0 hh hx1 hlong
          generalize hxl : x.length = xl at *
          have HXE := Lib.hid hxl
          rw [hkt]
          clear hkt hxl
          go_wp2_with (first
            | (go_at_call 31; refine (CC.out).mono ?_; rintro e w1 ⟨A3, c3, rfl, hrow, hb1⟩; have hba : Below w1.heap.size w1 (w1.alloc (.cells #[.slice A3 xl c3] 30)) := (Below.refl _ _).alloc (Nat.le_refl _) _; have ROW : Hid (RRow (w1.alloc (.cells #[.slice A3 xl c3] 30)) w.heap.size (.slice A3 xl c3) x) := Lib.hid (own_below (own_less hrow HB.out.size) hba); have O1 := Lib.hid (own_below (own_below HR1.out hb1) hba); have BB := Lib.hid (HB.out.trans ((hb1.trans (hba.mono hb1.size)).mono HB.out.size)); have O2 := Lib.hid (show ∀ (i : Nat) (l : List Int), (ls.take k)[i]? = some l → ∃ x, xs[i]? = some x ∧ RRow (w1.alloc (.cells #[.slice A3 xl c3] 30)) w.heap.size x l ∧ l.length ≤ 1024 from fun i l hi => by obtain ⟨y, g1, g2, g3⟩ := HR2.out i l hi; exact ⟨y, g1, (g2.below hb1).below hba, g3⟩); clear hrow hb1 hba)
            | (at_builtin; refine wpList_append_rows (by rfl) _ _ (by rfl) w.heap.size (.slice Ao k co) k xs (by rfl) (by have := O1.out; rwa [HKT.out] at this) (some ⟨w1.heap.size, 0, none⟩) 1 1 [.slice A3 xl c3] (by rfl) (built_src _) (by intro u hu; simp at hu; subst hu; rfl) (by have := H60.out; have := HLT.out; omega) BB.out.size ?_; rintro A' n' c' w2 hn' hrow2 hb2 hg2 ho2; have M2 : Hid (MRow w2 w.heap.size (.slice A' n' c') (ls.take k ++ [x])) := Lib.hid (MRow.snoc (by have := O1.out; rw [HKT.out] at this ⊢; exact this) O2.out ROW.out (by rw [HXE.out]; have := HXL.out; omega) (by rw [HKT.out]; exact hn') hrow2 hg2); have B2 := Lib.hid (BB.out.trans hb2); clear hrow2 hb2 hg2 ho2 hn'))
          go_roundw
          case rel => exact ⟨k + 1, HLT.out, next_val hwk, by rw [HT.out]; exact M2.out, B2.out, HANY.out⟩
          case measure => exact measure_lt HLT.out hwk
      · obtain rfl : k = n := by omega
        have i2 : ((k : Int) < (k : Int)) = False := by simp
        have htk : ls.take k = ls := List.take_of_length_le (by rw [HN.out]; exact Nat.le_refl _)
        rw [htk] at ha hr1 hr2
        rw [htk]
        have HM2 : Hid (MRow wr w.heap.size (.slice Ao ls.length co) ls) := Lib.hid ⟨xs, hr1, hr2⟩
        have HB := Lib.hid hb
        have HA : Hid (fromOk ls) := Lib.hid ⟨by have := HN.out; have := H60.out; omega, ha⟩
        clear hk hr1 hr2 hb ha hlt htk
        generalize ls.length = kl at *
        go_wp2
        go_ret2
        have hL := HM2.out.lrow
        have hnew := alloc_new wr (.cells #[.slice Ao kl co, .int .i64 0] 28)
        have hbn : Below wr.heap.size wr (wr.alloc (.cells #[.slice Ao kl co, .int .i64 0] 28)) := (Below.refl _ _).alloc (Nat.le_refl _) _
        refine .inr ⟨HA.out, wr.heap.size, _, rfl, ⟨⟨_, hnew, hL.to (Agree.of_below hbn)⟩, HA.out.1, ?_, (Array.getElem?_eq_some_iff.1 hnew).1, fun hk => by omega, fun k hk => Nat.lt_of_lt_of_le hk.2 hbn.size⟩, fun k hk => hk.1, HB.out.size, HB.out.trans (hbn.mono HB.out.size)⟩
        rcases Nat.eq_zero_or_pos ls.length with h0 | h0
        · exact .inr ⟨rfl, List.eq_nil_of_length_eq_zero h0⟩
        · exact .inl h0
end Go.Proofs.Ytknekldnipdpeaa
