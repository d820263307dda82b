/-
  How package tparm reads a string: flags, integers, formats.
-/
import Derived.Test.YtapihomdfdhnnaaDoorTpLex
import Derived.Deep.RegionLaw
import Derived.Deep.Cut
namespace Go.Proofs.YtapihomdfdhnnaaDoor
open Go.RowKit Go.Shelf Go.Lib
attribute [local go_sem] Oper.semAt_some

def fmtCells (f : FmtD) : Array Value := #[.bool f.left, .bool f.plus, .bool f.sharp, .bool f.blank, .bool f.zero, .int .i64 f.width, .int .i64 f.prec]
/-- a format in its block -/
def FmtAt (W : World) (fb : Nat) (f : FmtD) : Prop := W.heap[fb]? = some (.cells (fmtCells f) 73 (0, 0))
theorem FmtAt.cells {W : World} {fb : Nat} {f : FmtD} (h : FmtAt W fb f) : ∀ i v, (fmtCells f)[i]? = some v → W.cell? ⟨fb, i, none⟩ = some v ∧ W.frozen? ⟨fb, i, none⟩ = false := by
  intro i v hi
  exact ⟨(cell_of_row W fb i _ _ _ h).trans hi, frozen_of_row W fb i _ _ h⟩
theorem FmtAt.set {W : World} {fb : Nat} {f f' : FmtD} (h : FmtAt W fb f) (i : Nat) (v : Value) (e : (fmtCells f).setIfInBounds i v = fmtCells f') : FmtAt (W.setCell ⟨fb, i, none⟩ v) fb f' := by
  unfold FmtAt
  rw [← e]
  exact heap_setCell_same W fb i _ _ v h
theorem FmtAt.lt {W : World} {fb : Nat} {f : FmtD} (h : FmtAt W fb f) : fb < W.heap.size := (Array.getElem?_eq_some_iff.1 h).1

theorem set_any (c : UInt8) (w : World) (fb : Nat) (f : FmtD) (h : FmtAt w fb f) : Calls Tryd.prog 74 #[.pointer (some ⟨fb, 0, none⟩), .int .u8 c.toNat] w fun e w' => e = .returned (.tuple #[]) ∧ FmtAt w' fb (setP f c) ∧ Touch (fun k => k = fb) w w' := by
  have c0 := h.cells 0 _ rfl
  have c1 := h.cells 1 _ rfl
  have c2 := h.cells 2 _ rfl
  have c3 := h.cells 3 _ rfl
  have c4 := h.cells 4 _ rfl
  obtain ⟨c0, f0⟩ := c0
  obtain ⟨c1, f1⟩ := c1
  obtain ⟨c2, f2⟩ := c2
  obtain ⟨c3, f3⟩ := c3
  obtain ⟨c4, f4⟩ := c4
  have H := Lib.hid h
  clear h
  unfold setP
  by_cases h0 : c = 45
  · subst h0
    go_enter Tryd.func74, Tryd.ntmps74
    go_wp2_with fail
    go_end0
    exact ⟨rfl, H.out.set 0 _ rfl, Touch.setCell w _ _ rfl⟩
  by_cases h1 : c = 43
  · subst h1
    go_enter Tryd.func74, Tryd.ntmps74
    go_wp2_with fail
    go_end0
    exact ⟨rfl, H.out.set 1 _ rfl, Touch.setCell w _ _ rfl⟩
  by_cases h2 : c = 35
  · subst h2
    go_enter Tryd.func74, Tryd.ntmps74
    go_wp2_with fail
    go_end0
    exact ⟨rfl, H.out.set 2 _ rfl, Touch.setCell w _ _ rfl⟩
  by_cases h3 : c = 32
  · subst h3
    go_enter Tryd.func74, Tryd.ntmps74
    go_wp2_with fail
    go_end0
    exact ⟨rfl, H.out.set 3 _ rfl, Touch.setCell w _ _ rfl⟩
  by_cases h4 : c = 48
  · subst h4
    go_enter Tryd.func74, Tryd.ntmps74
    go_wp2_with fail
    go_end0
    exact ⟨rfl, H.out.set 4 _ rfl, Touch.setCell w _ _ rfl⟩
  rw [if_neg h0, if_neg h1, if_neg h2, if_neg h3, if_neg h4]
  have ne : ∀ d : UInt8, ¬ c = d → (((c.toNat : Int) == (d.toNat : Int)) = false) := fun d hd => by
    have : c.toNat ≠ d.toNat := fun e => hd (UInt8.toNat_inj.1 e)
    simp; omega
  have n0 : ((c.toNat : Int) == 45) = false := ne 45 h0
  have n1 : ((c.toNat : Int) == 43) = false := ne 43 h1
  have n2 : ((c.toNat : Int) == 35) = false := ne 35 h2
  have n3 : ((c.toNat : Int) == 32) = false := ne 32 h3
  have n4 : ((c.toNat : Int) == 48) = false := ne 48 h4
  clear h0 h1 h2 h3 h4 ne
  go_enter Tryd.func74, Tryd.ntmps74
  go_wp2_with fail
  go_end0
  exact ⟨rfl, H.out, Touch.refl _ _⟩

/-- a sequence as a value -/
abbrev itemVal (i : ItemD) : Value := .agg #[.int .i64 i.pos, .int .u8 i.verb.toNat, .int .i32 i.num, str i.text, .bool i.form.left, .bool i.form.plus, .bool i.form.sharp, .bool i.form.blank, .bool i.form.zero, .int .i64 i.form.width, .int .i64 i.form.prec]
abbrev plainV (v n : Int) (t : List UInt8) : Value := .agg #[.int .i64 0, .int .u8 v, .int .i32 n, str t, .bool false, .bool false, .bool false, .bool false, .bool false, .int .i64 0, .int .i64 0]
def FirstPost (w : World) (r : ItemD × Nat) (e : Ending) (w' : World) : Prop := e = .returned (.tuple #[itemVal r.1, .int .i64 r.2]) ∧ Below w.heap.size w w'

theorem intBad_zero {s : List UInt8} (h : (intN s).2 = 0) : integerP s = (item0, 0) := by unfold integerP intBad; simp [h]
theorem intBad_many {s : List UInt8} (h : 9 < (intN s).2) : integerP s = (item0, 0) := by unfold integerP intBad; simp [h]
theorem intBad_end {s : List UInt8} (h : hasPrefix (s.drop (intAt s + (intN s).2)) [125] = false) : integerP s = (item0, 0) := by unfold integerP intBad; simp [h]
theorem int_good {s : List UInt8} (h0 : (intN s).2 ≠ 0) (h9 : ¬ 9 < (intN s).2) (h : hasPrefix (s.drop (intAt s + (intN s).2)) [125] = true) : integerP s = (⟨0, 123, (if intNeg s then -1 else 1) * (intN s).1, [], fmtZ⟩, intAt s + (intN s).2 + 1) := by unfold integerP intBad; simp [h, h0, h9]
theorem zero_item (w : World) (v : Value) (n : Nat) (h : v = itemVal item0) : FirstPost w (item0, n) (.returned (.tuple #[v, .int .i64 n])) w := ⟨by rw [h], Below.refl _ _⟩
theorem number_int (s : List UInt8) (hl : s.length ≤ 4000000) (w : World) : Calls Tryd.prog 73 #[str s, .int .i64 999999999] w fun e w' => e = .returned (.tuple #[.int .i64 (numP 999999999 s 0).1, .int .i64 (numP 999999999 s 0).2]) ∧ w = w' := number_any s 999999999 (Nat.le_refl _) hl w
theorem number_wid (s : List UInt8) (hl : s.length ≤ 4000000) (w : World) : Calls Tryd.prog 73 #[str s, .int .i64 1001] w fun e w' => e = .returned (.tuple #[.int .i64 (numP 1001 s 0).1, .int .i64 (numP 1001 s 0).2]) ∧ w = w' := number_any s 1001 (by omega) hl w
set_option maxRecDepth 100000 in
set_option maxHeartbeats 2000000 in
theorem integer_any (s : List UInt8) (h2 : 2 ≤ s.length) (hl : s.length ≤ 4000000) (w : World) : Calls Tryd.prog 61 #[str s] w (FirstPost w (integerP s)) := by
  have hx2 := drop_str s 2
  have CP := Lib.hid (fun W => prefix_any (s.drop 2) [45] W)
  have i2 : (2 : Int) ≤ (s.length : Int) := by omega
  cases hn : intNeg s with
  | true =>
    have ha : intAt s = 3 := by unfold intAt; rw [hn]; rfl
    have h3 := (prefix_one hn).1
    have i3 : (3 : Int) ≤ (s.length : Int) := by omega
    have hx3 := drop_str s 3
    have hgood := @int_good s
    have hb0 := @intBad_zero s
    have hb1 := @intBad_many s
    have hb2 := @intBad_end s
    have CN := Lib.hid (fun W => number_int (s.drop 3) (by rw [List.length_drop]; omega) W)
    have hN : intN s = numP 999999999 (s.drop 3) 0 := by unfold intN; rw [ha]
    have hk := numP_len 999999999 (s.drop 3) 0
    have hm := numP_le 999999999 (s.drop 3) 0 (Nat.zero_le _)
    rw [hn] at hgood
    rw [ha, hN] at hgood hb2
    rw [hN] at hb0 hb1
    unfold intNeg at hn
    rw [hn] at CP
    rw [List.length_drop] at hk
    generalize (numP 999999999 (s.drop 3) 0).1 = a at *
    generalize (numP 999999999 (s.drop 3) 0).2 = k at *
    have hxk := drop_str s (3 + k)
    have CE := Lib.hid (fun W => prefix_any (s.drop (3 + k)) [125] W)
    have HB0 := Lib.hid hb0
    have HB1 := Lib.hid hb1
    clear hN ha hn hb0 hb1
    by_cases hk0 : k = 0
    · have HGD := Lib.hid (HB0.out hk0)
      subst hk0
      clear hgood hb2 hk hm hxk CE
      go_enter Tryd.func61, Tryd.ntmps61
      go_wp2_with (first
        | (go_at_call 22; (with_reducible refine (CP.out _).mono ?_); rintro e w' ⟨rfl, rfl⟩)
        | (go_at_call 22; (with_reducible refine (CE.out _).mono ?_); rintro e w' ⟨rfl, rfl⟩)
        | (go_at_call 73; (with_reducible refine (CN.out _).mono ?_); rintro e w' ⟨rfl, rfl⟩))
      exact bodyPost_ret (v := .tuple #[plainV 0 0 [], .int .i64 0]) (by simp [results, Tryd.results61, go_sem]) rfl ⟨by rw [HGD.out]; rfl, (Below.refl _ _).alloc (Nat.le_refl _) _⟩
    have k0 : ((k : Int) == 0) = false := by simp; omega
    by_cases hk9 : 9 < k
    · have HGD := Lib.hid (HB1.out hk9)
      have k9 : (9 : Int) < (k : Int) := by omega
      clear hgood hb2 hk hm hk9 hk0
      go_enter Tryd.func61, Tryd.ntmps61
      go_wp2_with (first
        | (go_at_call 22; (with_reducible refine (CP.out _).mono ?_); rintro e w' ⟨rfl, rfl⟩)
        | (go_at_call 22; (with_reducible refine (CE.out _).mono ?_); rintro e w' ⟨rfl, rfl⟩)
        | (go_at_call 73; (with_reducible refine (CN.out _).mono ?_); rintro e w' ⟨rfl, rfl⟩))
      exact bodyPost_ret (v := .tuple #[plainV 0 0 [], .int .i64 0]) (by simp [results, Tryd.results61, go_sem]) rfl ⟨by rw [HGD.out]; rfl, (Below.refl _ _).alloc (Nat.le_refl _) _⟩
    have k9 : ¬ (9 : Int) < (k : Int) := by omega
    have ik : (0 : Int) ≤ 3 + (k : Int) ∧ 3 + (k : Int) ≤ (s.length : Int) := by omega
    have im : (a : Int) ≤ 999999999 := by omega
    cases hp : hasPrefix (s.drop (3 + k)) [125] with
    | true =>
      rw [hp] at CE
      have HGD := Lib.hid (hgood hk0 hk9 hp)
      clear hgood hp hb2 hk0 hk9 hk hm
      go_enter Tryd.func61, Tryd.ntmps61
      go_wp2_with (first
        | (go_at_call 22; (with_reducible refine (CP.out _).mono ?_); rintro e w' ⟨rfl, rfl⟩)
        | (go_at_call 22; (with_reducible refine (CE.out _).mono ?_); rintro e w' ⟨rfl, rfl⟩)
        | (go_at_call 73; (with_reducible refine (CN.out _).mono ?_); rintro e w' ⟨rfl, rfl⟩))
      exact bodyPost_ret (v := .tuple #[plainV 123 (-(a : Int)) [], .int .i64 (3 + (k : Int) + 1)]) (by simp [results, Tryd.results61, go_sem]) rfl ⟨by rw [HGD.out]; simp [fmtZ], (Below.refl _ _).alloc (Nat.le_refl _) _⟩
    | false =>
      rw [hp] at CE
      have HGD := Lib.hid (hb2 hp)
      clear hgood hp hb2 hk0 hk9 hk hm
      go_enter Tryd.func61, Tryd.ntmps61
      go_wp2_with (first
        | (go_at_call 22; (with_reducible refine (CP.out _).mono ?_); rintro e w' ⟨rfl, rfl⟩)
        | (go_at_call 22; (with_reducible refine (CE.out _).mono ?_); rintro e w' ⟨rfl, rfl⟩)
        | (go_at_call 73; (with_reducible refine (CN.out _).mono ?_); rintro e w' ⟨rfl, rfl⟩))
      exact bodyPost_ret (v := .tuple #[plainV 0 0 [], .int .i64 0]) (by simp [results, Tryd.results61, go_sem]) rfl ⟨by rw [HGD.out]; rfl, (Below.refl _ _).alloc (Nat.le_refl _) _⟩
  | false =>
    have ha : intAt s = 2 := by unfold intAt; rw [hn]; rfl
    have i3 : (2 : Int) ≤ (s.length : Int) := by omega
    have hx3 := drop_str s 2
    have hgood := @int_good s
    have hb0 := @intBad_zero s
    have hb1 := @intBad_many s
    have hb2 := @intBad_end s
    have CN := Lib.hid (fun W => number_int (s.drop 2) (by rw [List.length_drop]; omega) W)
    have hN : intN s = numP 999999999 (s.drop 2) 0 := by unfold intN; rw [ha]
    have hk := numP_len 999999999 (s.drop 2) 0
    have hm := numP_le 999999999 (s.drop 2) 0 (Nat.zero_le _)
    rw [hn] at hgood
    rw [ha, hN] at hgood hb2
    rw [hN] at hb0 hb1
    unfold intNeg at hn
    rw [hn] at CP
    rw [List.length_drop] at hk
    generalize (numP 999999999 (s.drop 2) 0).1 = a at *
    generalize (numP 999999999 (s.drop 2) 0).2 = k at *
    have hxk := drop_str s (2 + k)
    have CE := Lib.hid (fun W => prefix_any (s.drop (2 + k)) [125] W)
    have HB0 := Lib.hid hb0
    have HB1 := Lib.hid hb1
    clear hN ha hn hb0 hb1
    by_cases hk0 : k = 0
    · have HGD := Lib.hid (HB0.out hk0)
      subst hk0
      clear hgood hb2 hk hm hxk CE
      go_enter Tryd.func61, Tryd.ntmps61
      go_wp2_with (first
        | (go_at_call 22; (with_reducible refine (CP.out _).mono ?_); rintro e w' ⟨rfl, rfl⟩)
        | (go_at_call 22; (with_reducible refine (CE.out _).mono ?_); rintro e w' ⟨rfl, rfl⟩)
        | (go_at_call 73; (with_reducible refine (CN.out _).mono ?_); rintro e w' ⟨rfl, rfl⟩))
      exact bodyPost_ret (v := .tuple #[plainV 0 0 [], .int .i64 0]) (by simp [results, Tryd.results61, go_sem]) rfl ⟨by rw [HGD.out]; rfl, (Below.refl _ _).alloc (Nat.le_refl _) _⟩
    have k0 : ((k : Int) == 0) = false := by simp; omega
    by_cases hk9 : 9 < k
    · have HGD := Lib.hid (HB1.out hk9)
      have k9 : (9 : Int) < (k : Int) := by omega
      clear hgood hb2 hk hm hk9 hk0
      go_enter Tryd.func61, Tryd.ntmps61
      go_wp2_with (first
        | (go_at_call 22; (with_reducible refine (CP.out _).mono ?_); rintro e w' ⟨rfl, rfl⟩)
        | (go_at_call 22; (with_reducible refine (CE.out _).mono ?_); rintro e w' ⟨rfl, rfl⟩)
        | (go_at_call 73; (with_reducible refine (CN.out _).mono ?_); rintro e w' ⟨rfl, rfl⟩))
      exact bodyPost_ret (v := .tuple #[plainV 0 0 [], .int .i64 0]) (by simp [results, Tryd.results61, go_sem]) rfl ⟨by rw [HGD.out]; rfl, (Below.refl _ _).alloc (Nat.le_refl _) _⟩
    have k9 : ¬ (9 : Int) < (k : Int) := by omega
    have ik : (0 : Int) ≤ 2 + (k : Int) ∧ 2 + (k : Int) ≤ (s.length : Int) := by omega
    have im : (a : Int) ≤ 999999999 := by omega
    cases hp : hasPrefix (s.drop (2 + k)) [125] with
    | true =>
      rw [hp] at CE
      have HGD := Lib.hid (hgood hk0 hk9 hp)
      clear hgood hp hb2 hk0 hk9 hk hm
      go_enter Tryd.func61, Tryd.ntmps61
      go_wp2_with (first
        | (go_at_call 22; (with_reducible refine (CP.out _).mono ?_); rintro e w' ⟨rfl, rfl⟩)
        | (go_at_call 22; (with_reducible refine (CE.out _).mono ?_); rintro e w' ⟨rfl, rfl⟩)
        | (go_at_call 73; (with_reducible refine (CN.out _).mono ?_); rintro e w' ⟨rfl, rfl⟩))
      exact bodyPost_ret (v := .tuple #[plainV 123 (a : Int) [], .int .i64 (2 + (k : Int) + 1)]) (by simp [results, Tryd.results61, go_sem]) rfl ⟨by rw [HGD.out]; simp [fmtZ], (Below.refl _ _).alloc (Nat.le_refl _) _⟩
    | false =>
      rw [hp] at CE
      have HGD := Lib.hid (hb2 hp)
      clear hgood hp hb2 hk0 hk9 hk hm
      go_enter Tryd.func61, Tryd.ntmps61
      go_wp2_with (first
        | (go_at_call 22; (with_reducible refine (CP.out _).mono ?_); rintro e w' ⟨rfl, rfl⟩)
        | (go_at_call 22; (with_reducible refine (CE.out _).mono ?_); rintro e w' ⟨rfl, rfl⟩)
        | (go_at_call 73; (with_reducible refine (CN.out _).mono ?_); rintro e w' ⟨rfl, rfl⟩))
      exact bodyPost_ret (v := .tuple #[plainV 0 0 [], .int .i64 0]) (by simp [results, Tryd.results61, go_sem]) rfl ⟨by rw [HGD.out]; rfl, (Below.refl _ _).alloc (Nat.le_refl _) _⟩
end Go.Proofs.YtapihomdfdhnnaaDoor
