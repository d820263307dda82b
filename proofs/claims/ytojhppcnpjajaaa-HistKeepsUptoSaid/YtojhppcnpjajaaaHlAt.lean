/-
  What Len, Base, Most, At, Number, has, at, numbered answer.
-/
import Derived.Test.YtojhppcnpjajaaaHlRep
namespace Go.Proofs.Ytojhppcnpjajaaa
open Go.RowKit Go.Shelf Go.Lib
attribute [local go_sem] Oper.semAt_some

theorem lines_list (W : World) (A : Option Addr) (n c : Nat) (b m : Int) : (Instr.field 85 (.agg #[.slice A n c, .int .i64 b, .int .i64 m]) 0).run Try.prog W = .ok (.slice A n c) W := by kernel_rfl
theorem lines_base (W : World) (v : Value) (b m : Int) : (Instr.field 85 (.agg #[v, .int .i64 b, .int .i64 m]) 1).run Try.prog W = .ok (.int .i64 b) W := by kernel_rfl
theorem lines_most (W : World) (v : Value) (b m : Int) : (Instr.field 85 (.agg #[v, .int .i64 b, .int .i64 m]) 2).run Try.prog W = .ok (.int .i64 m) W := by kernel_rfl
section
variable (w : World) (g : Nat) (v : Value) (S : HS) (h : LAt w g v S)
include h
set_option maxRecDepth 1000000 in
theorem len_any : Calls Try.prog 15 #[.pointer (some ⟨g, 0, none⟩)] w fun e w' => e = .returned (.int .i64 (S.ls.length : Int)) ∧ Below w.heap.size w w' := by
  obtain ⟨A, c, rfl⟩ := h.form
  have CK := Lib.hid (kept_any w g _ S h)
  have hfl := fun W => lines_list W A S.ls.length c S.base S.most
  clear h
  go_enter Try.func15, Try.ntmps15
  go_wp2_with (go_at_call 50; refine (CK.out).mono ?_; rintro e w1 ⟨rfl, hb⟩; have HB := Lib.hid hb; clear hb)
  go_ret
  exact ⟨rfl, HB.out⟩
set_option maxRecDepth 1000000 in
theorem base_any : Calls Try.prog 16 #[.pointer (some ⟨g, 0, none⟩)] w fun e w' => e = .returned (.int .i64 S.base) ∧ Below w.heap.size w w' := by
  have CK := Lib.hid (kept_any w g _ S h)
  have hfl := fun W => lines_base W v S.base S.most
  clear h
  go_enter Try.func16, Try.ntmps16
  go_wp2_with (go_at_call 50; refine (CK.out).mono ?_; rintro e w1 ⟨rfl, hb⟩; have HB := Lib.hid hb; clear hb)
  go_ret
  exact ⟨rfl, HB.out⟩
set_option maxRecDepth 1000000 in
theorem most_any : Calls Try.prog 40 #[.pointer (some ⟨g, 0, none⟩)] w fun e w' => e = .returned (.int .i64 (S.most : Int)) ∧ Below w.heap.size w w' := by
  have CK := Lib.hid (kept_any w g _ S h)
  have hfl := fun W => lines_most W v S.base S.most
  clear h
  go_enter Try.func40, Try.ntmps40
  go_wp2_with (go_at_call 50; refine (CK.out).mono ?_; rintro e w1 ⟨rfl, hb⟩; have HB := Lib.hid hb; clear hb)
  go_ret
  exact ⟨rfl, HB.out⟩
end
set_option maxRecDepth 1000000 in
theorem has_any (w : World) (A : Option Addr) (n c : Nat) (b m i : Int) : Calls Try.prog 74 #[.agg #[.slice A n c, .int .i64 b, .int .i64 m], .int .i64 i] w fun e w' => e = .returned (.bool (plc n i)) ∧ Below w.heap.size w w' := by
  by_cases h0 : 0 ≤ i
  · have i0 : decide (0 ≤ i) = true := decide_eq_true h0
    have e : plc n i = decide (i < (n : Int)) := by unfold plc; simp [h0]
    rw [e]
    clear e
    go_enter Try.func74, Try.ntmps74
    go_wp2
    go_ret
    exact ⟨rfl, (Below.refl w.heap.size w).alloc (Nat.le_refl _) _⟩
  · have i0 : decide (0 ≤ i) = false := decide_eq_false h0
    have e : plc n i = false := by unfold plc; simp [h0]
    rw [e]
    clear e
    go_enter Try.func74, Try.ntmps74
    go_wp2
    go_ret
    exact ⟨rfl, (Below.refl w.heap.size w).alloc (Nat.le_refl _) _⟩
/-- no line -/
abbrev zl : HL := (⟨#[]⟩, 0)
abbrev hlV (x : HL) : Value := .agg #[.string x.1, .int .i64 x.2]
/-- the line at a place, or the zero line -/
def lineAt (l : List HL) (i : Int) : HL := if plc l.length i then l.getD i.toNat zl else zl
theorem plc_iff {n : Nat} {i : Int} : plc n i = true ↔ 0 ≤ i ∧ i < (n : Int) := by simp [plc]
theorem lineAt_none {l : List HL} {i : Int} (h : plc l.length i = false) : lineAt l i = zl := by unfold lineAt; rw [h]; rfl
theorem lineAt_some {l : List HL} {k : Nat} (h : k < l.length) : lineAt l (k : Int) = l[k] := by
  unfold lineAt
  rw [if_pos (plc_iff.2 (by omega))]
  simp [h]
/-- has parts it: there is no such place, or there is -/
theorem plc_cases (n : Nat) (i : Int) : plc n i = false ∨ ∃ k : Nat, i = (k : Int) ∧ k < n ∧ plc n (k : Int) = true := by
  cases h : plc n i with
  | false => exact .inl rfl
  | true =>
    have := plc_iff.1 h
    exact .inr ⟨i.toNat, by omega, by omega, by rw [← h]; congr 1; omega⟩
set_option maxRecDepth 1000000 in
theorem at_any (w : World) (A : Option Addr) (n c : Nat) (b m i : Int) (l : List HL) (hv : HH w (.slice A n c) l) : Calls Try.prog 61 #[.agg #[.slice A n c, .int .i64 b, .int .i64 m], .int .i64 i] w fun e w' => e = .returned (.tuple #[hlV (lineAt l i), .bool (plc l.length i)]) ∧ Below w.heap.size w w' := by
  obtain rfl := hv.len
  have hb0 := ((Below.refl w.heap.size w).alloc (Nat.le_refl _) (.cells #[.slice A l.length c, .int .i64 b, .int .i64 m] 85)).alloc (by simp) (.cells #[.string ⟨#[]⟩, .int .i64 0] 69)
  have HB0 := Lib.hid hb0
  have CH := Lib.hid fun W => has_any W A l.length c b m i
  rcases plc_cases l.length i with hp | ⟨k, rfl, hk, hp⟩
  · rw [lineAt_none hp, hp]
    rw [hp] at CH
    clear hv hp hb0
    go_enter Try.func61, Try.ntmps61
    go_wp2_with (go_at_call 74; refine (CH.out _).mono ?_; rintro e w1 ⟨rfl, hb⟩; have HB := Lib.hid (HB0.out.trans (hb.mono HB0.out.size)); obtain ⟨hbc, hbf⟩ := bcell hb; clear hb)
    refine bodyPost_ret (v := .tuple #[hlV zl, .bool false]) (by simp [results, Try.results61, go_sem, hbc]) rfl ⟨rfl, ?_⟩
    exact (HB.out.setCell (Nat.le_succ _) _).setCell (Nat.le_succ _) _
  · have hx : l[k]? = some l[k] := List.getElem?_eq_getElem hk
    rw [lineAt_some hk, hp]
    rw [hp] at CH
    obtain ⟨bb, off, rfl, hlt, c0, c1⟩ := (hv.below hb0).cell hx
    have HC := Lib.hid (And.intro hlt (And.intro c0 c1))
    clear hv hp hb0 hx hlt c0 c1
    generalize l[k] = x at *
    have i2 : ((k : Int) < (l.length : Int)) = True := by simp; exact hk
    generalize l.length = n at *
    go_enter Try.func61, Try.ntmps61
    go_wp2_with (go_at_call 74; refine (CH.out _).mono ?_; rintro e w1 ⟨rfl, hb⟩; have HB := Lib.hid (HB0.out.trans (hb.mono HB0.out.size)); have c0 := (hb.cell (p := ⟨bb, off + k * 2, none⟩) HC.out.1).trans HC.out.2.1; have c1 := (hb.cell (p := ⟨bb, off + k * 2 + 1, none⟩) HC.out.1).trans HC.out.2.2; obtain ⟨hbc, hbf⟩ := bcell hb; clear hb)
    refine bodyPost_ret (v := .tuple #[hlV x, .bool true]) (by simp [results, Try.results61, go_sem, hbc]) rfl ⟨rfl, ?_⟩
    exact (HB.out.setCell (Nat.le_succ _) _).setCell (Nat.le_succ _) _
set_option maxRecDepth 1000000 in
theorem num_any (w : World) (A : Option Addr) (n c : Nat) (b m i : Int) (l : List HL) (hv : HH w (.slice A n c) l) (hl : l.length ≤ 4096) (hb1 : 0 ≤ b ∧ b ≤ 4611686018427387904) (hi : -9223372036854775808 ≤ i ∧ i ≤ 9223372036854775807) : Calls Try.prog 60 #[.agg #[.slice A n c, .int .i64 b, .int .i64 m], .int .i64 i] w fun e w' => e = .returned (.tuple #[hlV (lineAt l (i - b)), .bool (plc l.length (i - b))]) ∧ Below w.heap.size w w' := by
  obtain rfl := hv.len
  have hb0 := ((Below.refl w.heap.size w).alloc (Nat.le_refl _) (.cells #[.slice A l.length c, .int .i64 b, .int .i64 m] 85)).alloc (by simp) (.cells #[.string ⟨#[]⟩, .int .i64 0] 69)
  have HB0 := Lib.hid hb0
  rcases plc_cases l.length (i - b) with hp | ⟨k, hik, hk, hp⟩
  · rw [lineAt_none hp, hp]
    have hp' : ¬ (0 ≤ i - b ∧ i - b < (l.length : Int)) := fun h => by rw [plc_iff.2 h] at hp; cases hp
    clear hv hp hb0
    generalize l.length = n at *
    by_cases h1 : i < b
    · have d1 : decide (i < b) = true := decide_eq_true h1
      clear hp' h1
      go_enter Try.func60, Try.ntmps60
      go_wp2
      refine bodyPost_ret (v := .tuple #[hlV zl, .bool false]) (by simp [results, Try.results60, go_sem]) rfl ⟨rfl, ?_⟩
      exact HB0.out
    · have d1 : decide (i < b) = false := decide_eq_false h1
      have d2 : decide (b + (n : Int) ≤ i) = true := decide_eq_true (by omega)
      have d3 : IntKind.i64.wrap (b + (n : Int)) = b + (n : Int) := IntWalk.i64_in _ (by omega)
      clear hp' h1
      go_enter Try.func60, Try.ntmps60
      go_wp2
      refine bodyPost_ret (v := .tuple #[hlV zl, .bool false]) (by simp [results, Try.results60, go_sem]) rfl ⟨rfl, ?_⟩
      exact HB0.out
  · have hx : l[k]? = some l[k] := List.getElem?_eq_getElem hk
    rw [hik, lineAt_some hk, hp]
    obtain ⟨bb, off, rfl, hlt, c0, c1⟩ := (hv.below hb0).cell hx
    have d1 : decide (i < b) = false := decide_eq_false (by omega)
    have d2 : decide (b + (l.length : Int) ≤ i) = false := decide_eq_false (by omega)
    have d3 : IntKind.i64.wrap (b + (l.length : Int)) = b + (l.length : Int) := IntWalk.i64_in _ (by omega)
    have d4 : wrap64 (i - b) = (k : Int) := by unfold wrap64; omega
    clear hv hp hb0 hx hlt hik
    generalize l[k] = x at *
    have i2 : ((k : Int) < (l.length : Int)) = True := by simp; exact hk
    generalize l.length = n at *
    go_enter Try.func60, Try.ntmps60
    go_wp2
    refine bodyPost_ret (v := .tuple #[hlV x, .bool true]) (by simp [results, Try.results60, go_sem]) rfl ⟨rfl, ?_⟩
    exact ((Below.refl w.heap.size w).alloc (Nat.le_refl _) _).alloc (by simp) _
section
variable (w : World) (g : Nat) (v : Value) (S : HS) (h : LAt w g v S)
include h
set_option maxRecDepth 1000000 in
theorem At_any (i : Int) : Calls Try.prog 31 #[.pointer (some ⟨g, 0, none⟩), .int .i64 i] w fun e w' => e = .returned (.tuple #[hlV (lineAt S.ls i), .bool (plc S.ls.length i)]) ∧ Below w.heap.size w w' := by
  obtain ⟨A, c, rfl⟩ := h.form
  have hb0 := ((Below.refl w.heap.size w).alloc (Nat.le_refl _) (.cells #[.string ⟨#[]⟩, .int .i64 0] 69))
  have HB0 := Lib.hid hb0
  have CK := Lib.hid (kept_any _ g _ S (h.below hb0))
  have CA := Lib.hid fun W (hb : Below w.heap.size w W) => at_any W A S.ls.length c S.base S.most i S.ls (h.below hb).seg.holds
  clear h hb0
  generalize lineAt S.ls i = x at *
  generalize plc S.ls.length i = p at *
  go_enter Try.func31, Try.ntmps31
  go_wp2_with (first
    | (go_at_call 50; refine (CK.out).mono ?_; rintro e w1 ⟨rfl, hb⟩; have HB1 := Lib.hid (HB0.out.trans (hb.mono HB0.out.size)); obtain ⟨hbc, hbf⟩ := bcell hb; have hz : w.heap.size < w1.heap.size := by { have := hb.size; simp at this; omega }; clear hb)
    | (go_at_call 61; refine (CA.out _ HB1.out).mono ?_; rintro e w2 ⟨rfl, hb⟩; have HB2 := Lib.hid (HB1.out.trans (hb.mono HB1.out.size)); obtain ⟨hbc2, hbf2⟩ := bcell hb; clear hb))
  refine bodyPost_ret (v := .tuple #[hlV x, .bool p]) (by simp [results, Try.results31, go_sem, hbc, hbc2, hz]) rfl ⟨rfl, ?_⟩
  exact (HB2.out.setCell (Nat.le_refl _) _).setCell (Nat.le_refl _) _
set_option maxRecDepth 1000000 in
theorem Number_any (i : Int) (hb1 : 0 ≤ S.base ∧ S.base ≤ 4611686018427387904) (hi : -9223372036854775808 ≤ i ∧ i ≤ 9223372036854775807) : Calls Try.prog 29 #[.pointer (some ⟨g, 0, none⟩), .int .i64 i] w fun e w' => e = .returned (.tuple #[hlV (lineAt S.ls (i - S.base)), .bool (plc S.ls.length (i - S.base))]) ∧ Below w.heap.size w w' := by
  obtain ⟨A, c, rfl⟩ := h.form
  have hb0 := ((Below.refl w.heap.size w).alloc (Nat.le_refl _) (.cells #[.string ⟨#[]⟩, .int .i64 0] 69))
  have HB0 := Lib.hid hb0
  have CK := Lib.hid (kept_any _ g _ S (h.below hb0))
  have hle := h.len
  have CA := Lib.hid fun W (hb : Below w.heap.size w W) => num_any W A S.ls.length c S.base S.most i S.ls (h.below hb).seg.holds hle hb1 hi
  clear h hb0 hle hb1 hi
  generalize lineAt S.ls (i - S.base) = x at *
  generalize plc S.ls.length (i - S.base) = p at *
  go_enter Try.func29, Try.ntmps29
  go_wp2_with (first
    | (go_at_call 50; refine (CK.out).mono ?_; rintro e w1 ⟨rfl, hb⟩; have HB1 := Lib.hid (HB0.out.trans (hb.mono HB0.out.size)); obtain ⟨hbc, hbf⟩ := bcell hb; have hz : w.heap.size < w1.heap.size := by { have := hb.size; simp at this; omega }; clear hb)
    | (go_at_call 60; refine (CA.out _ HB1.out).mono ?_; rintro e w2 ⟨rfl, hb⟩; have HB2 := Lib.hid (HB1.out.trans (hb.mono HB1.out.size)); obtain ⟨hbc2, hbf2⟩ := bcell hb; clear hb))
  refine bodyPost_ret (v := .tuple #[hlV x, .bool p]) (by simp [results, Try.results29, go_sem, hbc, hbc2, hz]) rfl ⟨rfl, ?_⟩
  exact (HB2.out.setCell (Nat.le_refl _) _).setCell (Nat.le_refl _) _
end
end Go.Proofs.Ytojhppcnpjajaaa
