/-
  What a history that no call made answers.
-/
import Derived.Test.YtojhppcnpjajaaaHlClone
namespace Go.Proofs.Ytojhppcnpjajaaa
open Go.RowKit Go.Shelf Go.Lib
attribute [local go_sem] Oper.semAt_some

/-- a history that no call made -/
def NoneP (w : World) (q : Option Addr) : Prop := q = none ∨ ∃ z, q = some ⟨z, 0, none⟩ ∧ w.cell? ⟨z, 3, none⟩ = some (.bool false) ∧ z < w.heap.size
theorem NoneP.below {w w' : World} {q : Option Addr} (h : NoneP w q) (hb : Below w.heap.size w w') : NoneP w' q := by
  rcases h with h | ⟨z, h1, h2, h3⟩
  · exact .inl h
  · exact .inr ⟨z, h1, (hb.cell (p := ⟨z, 3, none⟩) h3).trans h2, Nat.lt_of_lt_of_le h3 hb.size⟩
set_option maxRecDepth 1000000 in
theorem usable_n (w : World) (q : Option Addr) (h : NoneP w q) : Calls Try.prog 51 #[.pointer q] w fun e w' => e = .returned (.bool false) ∧ w = w' := by
  rcases h with rfl | ⟨z, rfl, c1, _⟩
  all_goals
    go_enter Try.func51, Try.ntmps51
    go_wp2
    go_ret
    exact ⟨rfl, rfl⟩
set_option maxRecDepth 1000000 in
theorem kept_n (w : World) (q : Option Addr) (h : NoneP w q) : Calls Try.prog 50 #[.pointer q] w fun e w' => e = .returned (.agg #[.slice none 0 0, .int .i64 0, .int .i64 0]) ∧ Below w.heap.size w w' := by
  have hb := (Below.refl w.heap.size w).alloc (Nat.le_refl _) (.cells #[.slice none 0 0, .int .i64 0, .int .i64 0] 85)
  have CU := Lib.hid (usable_n _ q (h.below hb))
  clear h hb
  go_enter Try.func50, Try.ntmps50
  go_wp2_with (go_at_call 51; refine (CU.out).mono ?_; rintro e w1 ⟨rfl, rfl⟩)
  refine bodyPost_ret (v := .agg #[.slice none 0 0, .int .i64 0, .int .i64 0]) (by simp [results, Try.results50, go_sem]) rfl ⟨rfl, ?_⟩
  exact (Below.refl w.heap.size w).alloc (Nat.le_refl _) _
set_option maxRecDepth 1000000 in
theorem len_n (w : World) (q : Option Addr) (h : NoneP w q) : Calls Try.prog 15 #[.pointer q] w fun e w' => e = .returned (.int .i64 0) ∧ Below w.heap.size w w' := by
  have CK := Lib.hid (kept_n w q h)
  have hfl := fun W => lines_list W none 0 0 0 0
  clear h
  go_enter Try.func15, Try.ntmps15
  go_wp2_with (go_at_call 50; refine (CK.out).mono ?_; rintro e w1 ⟨rfl, hb⟩; have HB := Lib.hid hb; clear hb)
  go_ret
  exact ⟨rfl, HB.out⟩
set_option maxRecDepth 1000000 in
theorem base_n (w : World) (q : Option Addr) (h : NoneP w q) : Calls Try.prog 16 #[.pointer q] w fun e w' => e = .returned (.int .i64 0) ∧ Below w.heap.size w w' := by
  have CK := Lib.hid (kept_n w q h)
  have hfl := fun W => lines_base W (.slice none 0 0) 0 0
  clear h
  go_enter Try.func16, Try.ntmps16
  go_wp2_with (go_at_call 50; refine (CK.out).mono ?_; rintro e w1 ⟨rfl, hb⟩; have HB := Lib.hid hb; clear hb)
  go_ret
  exact ⟨rfl, HB.out⟩
set_option maxRecDepth 1000000 in
theorem most_n (w : World) (q : Option Addr) (h : NoneP w q) : Calls Try.prog 40 #[.pointer q] w fun e w' => e = .returned (.int .i64 0) ∧ Below w.heap.size w w' := by
  have CK := Lib.hid (kept_n w q h)
  have hfl := fun W => lines_most W (.slice none 0 0) 0 0
  clear h
  go_enter Try.func40, Try.ntmps40
  go_wp2_with (go_at_call 50; refine (CK.out).mono ?_; rintro e w1 ⟨rfl, hb⟩; have HB := Lib.hid hb; clear hb)
  go_ret
  exact ⟨rfl, HB.out⟩
set_option maxRecDepth 1000000 in
theorem At_n (w : World) (q : Option Addr) (h : NoneP w q) (i : Int) : Calls Try.prog 31 #[.pointer q, .int .i64 i] w fun e w' => e = .returned (.tuple #[.agg #[.string ⟨#[]⟩, .int .i64 0], .bool false]) ∧ Below w.heap.size w w' := by
  have hb0 := ((Below.refl w.heap.size w).alloc (Nat.le_refl _) (.cells #[.string ⟨#[]⟩, .int .i64 0] 69))
  have HB0 := Lib.hid hb0
  have CK := Lib.hid (kept_n _ q (h.below hb0))
  have hp : ∀ z : Int, plc ([] : List HL).length z = false := fun z => by unfold plc; simp
  have CA : Hid (∀ W, Calls Try.prog 61 #[.agg #[.slice none 0 0, .int .i64 0, .int .i64 0], .int .i64 i] W fun e w' => e = .returned (.tuple #[.agg #[.string ⟨#[]⟩, .int .i64 0], .bool false]) ∧ Below W.heap.size W w') := Lib.hid fun W => by
    have := at_any W none 0 0 0 0 i [] (HH.nil W)
    rw [lineAt_none (hp _), hp _] at this
    exact this
  clear h hb0 hp
  go_enter Try.func31, Try.ntmps31
  go_wp2_with (first
    | (go_at_call 50; refine (CK.out).mono ?_; rintro e w1 ⟨rfl, hb⟩; have HB1 := Lib.hid (HB0.out.trans (hb.mono HB0.out.size)); obtain ⟨hbc, hbf⟩ := bcell hb; have hz : w.heap.size < w1.heap.size := by { have := hb.size; simp at this; omega }; clear hb)
    | (go_at_call 61; refine (CA.out _).mono ?_; rintro e w2 ⟨rfl, hb⟩; have HB2 := Lib.hid (HB1.out.trans (hb.mono HB1.out.size)); obtain ⟨hbc2, hbf2⟩ := bcell hb; clear hb))
  refine bodyPost_ret (v := .tuple #[.agg #[.string ⟨#[]⟩, .int .i64 0], .bool false]) (by simp [results, Try.results31, go_sem, hbc, hbc2, hz]) rfl ⟨rfl, ?_⟩
  exact (HB2.out.setCell (Nat.le_refl _) _).setCell (Nat.le_refl _) _
set_option maxRecDepth 1000000 in
theorem Number_n (w : World) (q : Option Addr) (h : NoneP w q) (i : Int) (hi : -9223372036854775808 ≤ i ∧ i ≤ 9223372036854775807) : Calls Try.prog 29 #[.pointer q, .int .i64 i] w fun e w' => e = .returned (.tuple #[.agg #[.string ⟨#[]⟩, .int .i64 0], .bool false]) ∧ Below w.heap.size w w' := by
  have hb0 := ((Below.refl w.heap.size w).alloc (Nat.le_refl _) (.cells #[.string ⟨#[]⟩, .int .i64 0] 69))
  have HB0 := Lib.hid hb0
  have CK := Lib.hid (kept_n _ q (h.below hb0))
  have hp : ∀ z : Int, plc ([] : List HL).length z = false := fun z => by unfold plc; simp
  have CA : Hid (∀ W, Calls Try.prog 60 #[.agg #[.slice none 0 0, .int .i64 0, .int .i64 0], .int .i64 i] W fun e w' => e = .returned (.tuple #[.agg #[.string ⟨#[]⟩, .int .i64 0], .bool false]) ∧ Below W.heap.size W w') := Lib.hid fun W => by
    have := num_any W none 0 0 0 0 i [] (HH.nil W) (by simp) (by omega) hi
    rw [lineAt_none (hp _), hp _] at this
    exact this
  clear h hb0 hp hi
  go_enter Try.func29, Try.ntmps29
  go_wp2_with (first
    | (go_at_call 50; refine (CK.out).mono ?_; rintro e w1 ⟨rfl, hb⟩; have HB1 := Lib.hid (HB0.out.trans (hb.mono HB0.out.size)); obtain ⟨hbc, hbf⟩ := bcell hb; have hz : w.heap.size < w1.heap.size := by { have := hb.size; simp at this; omega }; clear hb)
    | (go_at_call 60; refine (CA.out _).mono ?_; rintro e w2 ⟨rfl, hb⟩; have HB2 := Lib.hid (HB1.out.trans (hb.mono HB1.out.size)); obtain ⟨hbc2, hbf2⟩ := bcell hb; clear hb))
  refine bodyPost_ret (v := .tuple #[.agg #[.string ⟨#[]⟩, .int .i64 0], .bool false]) (by simp [results, Try.results29, go_sem, hbc, hbc2, hz]) rfl ⟨rfl, ?_⟩
  exact (HB2.out.setCell (Nat.le_refl _) _).setCell (Nat.le_refl _) _
set_option maxRecDepth 1000000 in
theorem add_n (w : World) (q : Option Addr) (h : NoneP w q) (u : Value) : Calls Try.prog 20 #[.pointer q, u] w fun e w' => e = .returned (.int .i64 2) ∧ w = w' := by
  have CU := Lib.hid (usable_n w q h)
  clear h
  go_enter Try.func20, Try.ntmps20
  go_wp2_with (go_at_call 51; refine (CU.out).mono ?_; rintro e w1 ⟨rfl, rfl⟩)
  go_ret
  exact ⟨rfl, rfl⟩
set_option maxRecDepth 1000000 in
theorem stifle_n (w : World) (q : Option Addr) (h : NoneP w q) (u : Value) : Calls Try.prog 39 #[.pointer q, u] w fun e w' => e = .returned (.int .i64 2) ∧ w = w' := by
  have CU := Lib.hid (usable_n w q h)
  clear h
  go_enter Try.func39, Try.ntmps39
  go_wp2_with (go_at_call 51; refine (CU.out).mono ?_; rintro e w1 ⟨rfl, rfl⟩)
  go_ret
  exact ⟨rfl, rfl⟩
set_option maxRecDepth 1000000 in
theorem clone_n (w : World) (q : Option Addr) (h : NoneP w q) : Calls Try.prog 41 #[.pointer q] w fun e w' => e = .returned (.pointer none) ∧ w = w' := by
  have CU := Lib.hid (usable_n w q h)
  clear h
  go_enter Try.func41, Try.ntmps41
  go_wp2_with (go_at_call 51; refine (CU.out).mono ?_; rintro e w1 ⟨rfl, rfl⟩)
  go_ret
  exact ⟨rfl, rfl⟩
set_option maxRecDepth 1000000 in
theorem newWalk_n (w : World) (q : Option Addr) (h : NoneP w q) : Calls Try.prog 18 #[.pointer q] w fun e w' => e = .returned (.tuple #[.pointer none, .int .i64 2]) ∧ w = w' := by
  have CU := Lib.hid (usable_n w q h)
  clear h
  go_enter Try.func18, Try.ntmps18
  go_wp2_with (go_at_call 51; refine (CU.out).mono ?_; rintro e w1 ⟨rfl, rfl⟩)
  go_ret2
  exact ⟨rfl, rfl⟩
set_option maxRecDepth 1000000 in
theorem replace_n (w : World) (q : Option Addr) (h : NoneP w q) (i s t : Value) : Calls Try.prog 36 #[.pointer q, i, .agg #[s, t]] w fun e w' => e = .returned (.tuple #[.agg #[.string ⟨#[]⟩, .int .i64 0], .int .i64 2]) ∧ Below w.heap.size w w' := by
  have hb0 := ((Below.refl w.heap.size w).alloc (Nat.le_refl _) (.cells #[s, t] 69)).alloc (by simp) (.cells #[.string ⟨#[]⟩, .int .i64 0] 69)
  have CU := Lib.hid (usable_n _ q (h.below hb0))
  have HB0 := Lib.hid hb0
  clear h hb0
  go_enter Try.func36, Try.ntmps36
  go_wp2_with (go_at_call 51; refine (CU.out).mono ?_; rintro e w1 ⟨rfl, rfl⟩)
  refine bodyPost_ret (v := .tuple #[.agg #[.string ⟨#[]⟩, .int .i64 0], .int .i64 2]) (by simp [results, Try.results36, go_sem]) rfl ⟨rfl, HB0.out⟩
set_option maxRecDepth 1000000 in
theorem remove_n (w : World) (q : Option Addr) (h : NoneP w q) (i : Value) : Calls Try.prog 38 #[.pointer q, i] w fun e w' => e = .returned (.tuple #[.agg #[.string ⟨#[]⟩, .int .i64 0], .int .i64 2]) ∧ Below w.heap.size w w' := by
  have hb0 := (Below.refl w.heap.size w).alloc (Nat.le_refl _) (.cells #[.string ⟨#[]⟩, .int .i64 0] 69)
  have CU := Lib.hid (usable_n _ q (h.below hb0))
  have HB0 := Lib.hid hb0
  clear h hb0
  go_enter Try.func38, Try.ntmps38
  go_wp2_with (go_at_call 51; refine (CU.out).mono ?_; rintro e w1 ⟨rfl, rfl⟩)
  refine bodyPost_ret (v := .tuple #[.agg #[.string ⟨#[]⟩, .int .i64 0], .int .i64 2]) (by simp [results, Try.results38, go_sem]) rfl ⟨rfl, HB0.out⟩
set_option maxRecDepth 1000000 in
theorem all_n (w : World) (q : Option Addr) (h : NoneP w q) : Calls Try.prog 28 #[.pointer q] w (AllPost w []) := by
  have CK := Lib.hid (kept_n w q h)
  have CC := Lib.hid fun W => copied_any W _ [] 0 0 (HH.nil W) (by simp)
  have CF := Lib.hid fun W A c (hs : HSeg W (.slice A ([] : List HL).length c) []) => from_any W _ [] 0 0 0 false hs
  clear h
  go_enter Try.func28, Try.ntmps28
  go_wp2_with (first
    | (go_at_call 50; refine (CK.out).mono ?_; rintro e w1 ⟨rfl, hb⟩; have HB := Lib.hid hb; clear hb)
    | (go_at_call 59; refine (CC.out _).mono ?_; rintro e w2 ⟨A1, c1, rfl, h1, hb, h3⟩; have H1 := Lib.hid h1; have HB2 := Lib.hid (HB.out.trans (hb.mono HB.out.size)); have H3 := Lib.hid fun k hk => Nat.le_trans HB.out.size (h3 k hk); clear h1 hb h3)
    | (go_at_call 52; refine (CF.out _ _ _ H1.out).mono ?_; rintro e w3 ⟨rfl, hi, hb⟩; have HI := Lib.hid hi; have HB3 := Lib.hid (HB2.out.trans (hb.mono HB2.out.size)); clear hi hb))
  go_ret
  refine ⟨_, _, rfl, HI.out, HB3.out, ?_⟩
  have := HB2.out.size
  rintro k (rfl | rfl | rfl | hk)
  · exact this
  · omega
  · omega
  · exact H3.out k hk
end Go.Proofs.Ytojhppcnpjajaaa
