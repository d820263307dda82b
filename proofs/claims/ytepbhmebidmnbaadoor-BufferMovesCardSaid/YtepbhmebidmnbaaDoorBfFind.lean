/-
  Find, the program's and the document's.
-/
import Derived.Test.YtepbhmebidmnbaaDoorBfRefM
namespace Go.Proofs.YtepbhmebidmnbaaDoor
open Go.RowKit Go.Shelf Go.Lib
attribute [local go_sem] Oper.semAt_some

def otherP (r : Int) : Int → Bool := fun s => decide (s ≠ r)
def findF (l : List Int) (k r : Int) : Nat := aheadN l (otherP r) (placeN l.length ((placeN l.length k + 1 : Nat) : Int))
def findB (l : List Int) (k r : Int) : Nat := backN l (otherP r) (placeN l.length k)
def fRes (n q : Nat) : Value := if q = n then .tuple #[.int .i64 0, .bool false] else .tuple #[.int .i64 (q : Int), .bool true]
def bRes (q : Nat) : Value := if q = 0 then .tuple #[.int .i64 0, .bool false] else .tuple #[.int .i64 ((q - 1 : Nat) : Int), .bool true]
set_option maxRecDepth 1000000 in
theorem find1_any (w : World) (r : Int) (b : Nat) (hb : w.cell? ⟨b, 0, none⟩ = some (.int .i32 r)) (s : Int) : Calls Tryd.prog 61 #[.int .i32 s, .pointer (some ⟨b, 0, none⟩)] w fun e w' => e = .returned (.bool (otherP r s)) ∧ Below w.heap.size w w' := by
  by_cases h : s = r
  · subst h
    have HP : Hid (otherP s s = false) := Lib.hid (by simp [otherP])
    go_enter Tryd.func61, Tryd.ntmps61
    go_wp2
    go_ret
    exact ⟨by rw [HP.out]; rfl, Below.refl _ _⟩
  · have HP : Hid (otherP r s = true) := Lib.hid (by simp [otherP, h])
    have i0 : (s == r) = false := by simpa using h
    have i1 : (s = r) = False := by simpa using h
    have i2 : (s != r) = true := by simpa using h
    clear h
    go_enter Tryd.func61, Tryd.ntmps61
    go_wp2
    go_ret
    exact ⟨by rw [HP.out]; rfl, Below.refl _ _⟩
theorem FV.other (w : World) (r : Int) : FV (w.alloc (.cells #[.int .i32 r] 21)) (.func (.func 61) #[] #[.pointer (some ⟨w.heap.size, 0, none⟩)]) (otherP r) :=
  ⟨61, #[.pointer (some ⟨w.heap.size, 0, none⟩)], rfl, enters_of Tryd.func61 (by kernel_rfl) rfl, fun W hW s => find1_any W r w.heap.size (cell_of_row W w.heap.size 0 _ _ _ ((hW.block _ (by simp)).trans (alloc_new _ _))) s⟩
set_option maxRecDepth 1000000 in
set_option maxHeartbeats 4000000 in
theorem findF_any (w : World) (l : List Int) (A : Option Addr) (c : Nat) (hl : Holds1 w (.slice A l.length c) (runeVals l)) (hlen : l.length ≤ 140737488355328) (k r : Int) :
    Calls Tryd.prog 19 #[.slice A l.length c, .int .i64 k, .int .i32 r, .bool true] w fun e w' => e = .returned (fRes l.length (findF l k r)) ∧ Below w.heap.size w w' := by
  have hb0 : Below w.heap.size w (w.alloc (.cells #[.int .i32 r] 21)) := (Below.refl _ _).alloc (Nat.le_refl _) _
  have hb1 : Below (w.alloc (.cells #[.int .i32 r] 21)).heap.size (w.alloc (.cells #[.int .i32 r] 21)) ((w.alloc (.cells #[.int .i32 r] 21)).alloc (.cells #[.func (.func 61) #[] #[.pointer (some ⟨w.heap.size, 0, none⟩)]] kindsT)) := (Below.refl _ _).alloc (Nat.le_refl _) _
  have hb2 := hb0.trans (hb1.mono hb0.size)
  have CP := Lib.hid fun W => place_any W A l.length c k
  have hpl := placeN_le l.length k
  obtain ⟨q, hq⟩ : ∃ q, q = placeN l.length k := ⟨_, rfl⟩
  rw [← hq] at CP hpl
  obtain ⟨q1, hq1⟩ : ∃ q1, q1 = q + 1 := ⟨_, rfl⟩
  have i1 : IntKind.i64.wrap ((q : Int) + 1) = (q1 : Int) := by rw [IntWalk.i64_in _ (by omega)]; omega
  have i2 : wrap64 ((q : Int) + 1) = (q1 : Int) := by unfold wrap64; omega
  obtain ⟨t, ht⟩ : ∃ t, t = findF l k r := ⟨_, rfl⟩
  have htl : t ≤ l.length := by rw [ht]; exact aheadN_le _ _ _ (placeN_le _ _)
  have hks : (w.alloc (.cells #[.int .i32 r] 21)).heap.size = w.heap.size + 1 := by simp
  have CA0 := ahead_any _ l A c (hl.below hb2) hlen (q1 : Int) _ 1 1 _ (kinds_one (FV.other w r)) (by omega)
  rw [hks] at CA0
  have CA : Hid (Calls Tryd.prog 62 #[.slice A l.length c, .int .i64 (q1 : Int), .slice (some ⟨w.heap.size + 1, 0, none⟩) 1 1] ((w.alloc (.cells #[.int .i32 r] 21)).alloc (.cells #[.func (.func 61) #[] #[.pointer (some ⟨w.heap.size, 0, none⟩)]] kindsT)) fun e w' => e = .returned (.int .i64 (t : Int)) ∧ Below w.heap.size w w') := Lib.hid (CA0.mono (by
    rintro e w' ⟨rfl, h⟩
    refine ⟨?_, hb2.trans (h.mono hb2.size)⟩
    rw [ht]
    unfold findF
    rw [← hq, ← hq1]
    rfl))
  rw [← ht]
  have j1 : ((t : Int) < 0) = False := by simp
  by_cases he : t = l.length
  · have HR : Hid (fRes l.length t = .tuple #[.int .i64 0, .bool false]) := Lib.hid (if_pos he)
    have j2 : ((t : Int) == (l.length : Int)) = true := by simp; omega
    have j3 : ((t : Int) = (l.length : Int)) = True := by simp; omega
    have j4 : (t = l.length) = True := by simp [he]
    generalize l.length = n at *
    clear CA0 hb0 hb1 hb2 hl hlen hq hpl hq1 ht htl hks he
    go_enter Tryd.func19, Tryd.ntmps19
    go_wp2_with (first
      | (go_at_call 63; refine (CP.out _).mono ?_; rintro e w1 ⟨rfl, rfl⟩)
      | (go_at_call 62; refine (CA.out).mono ?_; rintro e w2 ⟨rfl, hb⟩))
    go_ret2
    exact ⟨by rw [HR.out]; rfl, hb⟩
  · have HR : Hid (fRes l.length t = .tuple #[.int .i64 (t : Int), .bool true]) := Lib.hid (if_neg he)
    have j2 : ((t : Int) == (l.length : Int)) = false := by simp; omega
    have j3 : ((t : Int) = (l.length : Int)) = False := by simp; omega
    have j4 : (t = l.length) = False := by simp [he]
    generalize l.length = n at *
    clear CA0 hb0 hb1 hb2 hl hlen hq hpl hq1 ht htl hks he
    go_enter Tryd.func19, Tryd.ntmps19
    go_wp2_with (first
      | (go_at_call 63; refine (CP.out _).mono ?_; rintro e w1 ⟨rfl, rfl⟩)
      | (go_at_call 62; refine (CA.out).mono ?_; rintro e w2 ⟨rfl, hb⟩))
    go_ret2
    exact ⟨by rw [HR.out]; rfl, hb⟩
set_option maxRecDepth 1000000 in
set_option maxHeartbeats 4000000 in
theorem findB_any (w : World) (l : List Int) (A : Option Addr) (c : Nat) (hl : Holds1 w (.slice A l.length c) (runeVals l)) (hlen : l.length ≤ 140737488355328) (k r : Int) :
    Calls Tryd.prog 19 #[.slice A l.length c, .int .i64 k, .int .i32 r, .bool false] w fun e w' => e = .returned (bRes (findB l k r)) ∧ Below w.heap.size w w' := by
  have hb0 : Below w.heap.size w (w.alloc (.cells #[.int .i32 r] 21)) := (Below.refl _ _).alloc (Nat.le_refl _) _
  have hb1 : Below (w.alloc (.cells #[.int .i32 r] 21)).heap.size (w.alloc (.cells #[.int .i32 r] 21)) ((w.alloc (.cells #[.int .i32 r] 21)).alloc (.cells #[.func (.func 61) #[] #[.pointer (some ⟨w.heap.size, 0, none⟩)]] kindsT)) := (Below.refl _ _).alloc (Nat.le_refl _) _
  have hb2 := hb0.trans (hb1.mono hb0.size)
  have CP := Lib.hid fun W => place_any W A l.length c k
  have hpl := placeN_le l.length k
  obtain ⟨q, hq⟩ : ∃ q, q = placeN l.length k := ⟨_, rfl⟩
  rw [← hq] at CP hpl
  obtain ⟨q1, hq1⟩ : ∃ q1, q1 = q + 1 := ⟨_, rfl⟩
  have i1 : IntKind.i64.wrap ((q : Int) + 1) = (q1 : Int) := by rw [IntWalk.i64_in _ (by omega)]; omega
  have i2 : wrap64 ((q : Int) + 1) = (q1 : Int) := by unfold wrap64; omega
  obtain ⟨t, ht⟩ : ∃ t, t = findB l k r := ⟨_, rfl⟩
  have htl : t ≤ l.length := by rw [ht]; exact Nat.le_trans (backN_le _ _ _) (placeN_le _ _)
  have hks : (w.alloc (.cells #[.int .i32 r] 21)).heap.size = w.heap.size + 1 := by simp
  have CA0 := back_any _ l A c (hl.below hb2) hlen k _ 1 1 _ (kinds_one (FV.other w r)) (by omega)
  rw [hks] at CA0
  have CA : Hid (Calls Tryd.prog 64 #[.slice A l.length c, .int .i64 k, .slice (some ⟨w.heap.size + 1, 0, none⟩) 1 1] ((w.alloc (.cells #[.int .i32 r] 21)).alloc (.cells #[.func (.func 61) #[] #[.pointer (some ⟨w.heap.size, 0, none⟩)]] kindsT)) fun e w' => e = .returned (.int .i64 (t : Int)) ∧ Below w.heap.size w w') := Lib.hid (CA0.mono (by
    rintro e w' ⟨rfl, h⟩
    refine ⟨?_, hb2.trans (h.mono hb2.size)⟩
    rw [ht]
    rfl))
  rw [← ht]
  by_cases he : t = 0
  · have HR : Hid (bRes t = .tuple #[.int .i64 0, .bool false]) := Lib.hid (if_pos he)
    have j1 : IntKind.i64.wrap ((t : Int) - 1) = -1 := by rw [IntWalk.i64_in _ (by omega)]; omega
    have j2 : wrap64 ((t : Int) - 1) = -1 := by unfold wrap64; omega
    generalize l.length = n at *
    clear CA0 hb0 hb1 hb2 hl hlen hq hpl hq1 ht htl hks he i1 i2
    go_enter Tryd.func19, Tryd.ntmps19
    go_wp2_with (go_at_call 64; refine (CA.out).mono ?_; rintro e w2 ⟨rfl, hb⟩)
    go_ret2
    exact ⟨by rw [HR.out]; rfl, hb⟩
  · obtain ⟨m, hm⟩ : ∃ m, t = m + 1 := ⟨t - 1, by omega⟩
    have HR : Hid (bRes t = .tuple #[.int .i64 (m : Int), .bool true]) := Lib.hid (by unfold bRes; rw [if_neg he, hm]; rfl)
    have j1 : IntKind.i64.wrap ((t : Int) - 1) = (m : Int) := by rw [IntWalk.i64_in _ (by omega)]; omega
    have j2 : wrap64 ((t : Int) - 1) = (m : Int) := by unfold wrap64; omega
    have j3 : ((m : Int) < 0) = False := by simp
    have j4 : ((m : Int) == (l.length : Int)) = false := by simp; omega
    have j5 : ((m : Int) = (l.length : Int)) = False := by simp; omega
    have j6 : (m = l.length) = False := by simp; omega
    generalize l.length = n at *
    clear CA0 hb0 hb1 hb2 hl hlen hq hpl hq1 ht htl hks he hm i1 i2
    go_enter Tryd.func19, Tryd.ntmps19
    go_wp2_with (go_at_call 64; refine (CA.out).mono ?_; rintro e w2 ⟨rfl, hb⟩)
    go_ret2
    exact ⟨by rw [HR.out]; rfl, hb⟩
set_option maxRecDepth 1000000 in
set_option maxHeartbeats 4000000 in
theorem refFindF_any (w : World) (l : List Int) (A : Option Addr) (c : Nat) (hl : Holds1 w (.slice A l.length c) (runeVals l)) (hlen : l.length ≤ 140737488355328) (k r : Int) :
    Calls Tryd.prog 20 #[.slice A l.length c, .int .i64 k, .int .i32 r, .bool true] w fun e w' => e = .returned (fRes l.length (findF l k r)) ∧ Below w.heap.size w w' := by
  have CP := Lib.hid (cut_any w A l.length c k)
  have hpl := placeN_le l.length k
  obtain ⟨q0, hq0⟩ : ∃ q0, q0 = placeN l.length k := ⟨_, rfl⟩
  rw [← hq0] at CP hpl
  obtain ⟨q1, hq1⟩ : ∃ q1, q1 = q0 + 1 := ⟨_, rfl⟩
  have i1 : IntKind.i64.wrap ((q0 : Int) + 1) = (q1 : Int) := by rw [IntWalk.i64_in _ (by omega)]; omega
  have i2 : wrap64 ((q0 : Int) + 1) = (q1 : Int) := by unfold wrap64; omega
  obtain ⟨t, ht⟩ : ∃ t, t = findF l k r := ⟨_, rfl⟩
  have hstart : aheadN l (otherP r) (min q1 l.length) = t := by
    rw [ht]; unfold findF; rw [← hq0, ← hq1, show placeN l.length (q1 : Int) = min q1 l.length by unfold placeN; omega]
  rw [← ht]
  have HST := Lib.hid hstart
  have HL := Lib.hid hl
  have HLEN := Lib.hid hlen
  have HQ1 : Hid (q1 ≤ l.length + 1) := Lib.hid (by omega)
  clear hl hlen hq0 hpl hq1 ht hstart
  go_enter Tryd.func20, Tryd.ntmps20
  go_wp2_with (go_at_call 65; refine (CP.out).mono ?_; rintro e w1 ⟨rfl, rfl⟩)
  clear i1 i2
  go_loopw [10] (fun v wr => ∃ q : Nat, q ≤ l.length + 1 ∧ v = .int .i64 (q : Int) ∧ aheadN l (otherP r) (min q l.length) = t ∧ Below w.heap.size w wr) (fun v _ => l.length - (RowKit.intOf v).toNat)
  case atStart => exact ⟨q1, HQ1.out, rfl, HST.out, Below.refl _ _⟩
  case round =>
    obtain ⟨q, hq, rfl, heq, hb⟩ := hrel
    have B := Lib.hid hb
    by_cases hql : q < l.length
    · rw [Nat.min_eq_left (Nat.le_of_lt hql)] at heq
      obtain ⟨rb, off, rfl, hlt, hcr⟩ := rune_cell (HL.out.below hb) hql
      have j1 : (0 : Int) ≤ (q : Int) := by omega
      have j2 : ((q : Int) < (l.length : Int)) = True := by simp; exact hql
      have j3 : (q < l.length) = True := by simp; exact hql
      have hwq : wrap64 ((q : Int) + 1) = (q : Int) + 1 := by have := HLEN.out; unfold wrap64; omega
      by_cases hx : l[q] = r
      · have HR : Hid (fRes l.length t = .tuple #[.int .i64 (q : Int), .bool true]) := Lib.hid (by
          rw [← heq, aheadN_stop hql (by simp [otherP, hx])]
          exact if_neg (by omega))
        rw [hx] at hcr
        clear hx heq hb hq hql hlt hwq
        go_wp2
        go_ret2
        exact ⟨by rw [HR.out]; rfl, B.out⟩
      · have HS : Hid (aheadN l (otherP r) (min (q + 1) l.length) = t) := Lib.hid (by
          rw [Nat.min_eq_left (by omega), ← aheadN_step hql (by simp [otherP, hx])]
          exact heq)
        have HQN := Lib.hid hql
        have i3 : (l[q] == r) = false := beq_eq_false_iff_ne.mpr hx
        have i4 : (l[q] = r) = False := eq_false hx
        generalize l[q] = x at *
        clear hx heq hb hq hql hlt
        go_wp2
        go_roundw
        case rel => exact ⟨q + 1, by have := HQN.out; omega, next_val hwq, HS.out, B.out⟩
        case measure => exact measure_lt HQN.out hwq
    · have HR : Hid (fRes l.length t = .tuple #[.int .i64 0, .bool false]) := Lib.hid (by
        rw [← heq, Nat.min_eq_right (by omega), aheadN_end (Nat.le_refl _)]
        exact if_pos rfl)
      have j2 : ((q : Int) < (l.length : Int)) = False := by simp; omega
      have j3 : (q < l.length) = False := by simp; omega
      clear heq hb hq hql
      go_wp2
      go_ret2
      exact ⟨by rw [HR.out]; rfl, B.out⟩
set_option maxRecDepth 1000000 in
set_option maxHeartbeats 4000000 in
theorem refFindB_any (w : World) (l : List Int) (A : Option Addr) (c : Nat) (hl : Holds1 w (.slice A l.length c) (runeVals l)) (hlen : l.length ≤ 140737488355328) (k r : Int) :
    Calls Tryd.prog 20 #[.slice A l.length c, .int .i64 k, .int .i32 r, .bool false] w fun e w' => e = .returned (bRes (findB l k r)) ∧ Below w.heap.size w w' := by
  have CP := Lib.hid (cut_any w A l.length c k)
  have hpl := placeN_le l.length k
  obtain ⟨q0, hq0⟩ : ∃ q0, q0 = placeN l.length k := ⟨_, rfl⟩
  rw [← hq0] at CP hpl
  obtain ⟨z0, hz0⟩ : ∃ z0 : Int, z0 = (q0 : Int) - 1 := ⟨_, rfl⟩
  have i1 : IntKind.i64.wrap ((q0 : Int) - 1) = z0 := by rw [IntWalk.i64_in _ (by omega)]; omega
  have i2 : wrap64 ((q0 : Int) - 1) = z0 := by unfold wrap64; omega
  obtain ⟨t, ht⟩ : ∃ t, t = findB l k r := ⟨_, rfl⟩
  have HST : Hid (backN l (otherP r) q0 = t) := Lib.hid (by rw [ht]; unfold findB; rw [← hq0])
  rw [← ht]
  have HL := Lib.hid hl
  have HLEN := Lib.hid hlen
  have HQ0 := Lib.hid hpl
  have HZ0 := Lib.hid hz0
  clear hl hlen hq0 hpl ht hz0
  go_enter Tryd.func20, Tryd.ntmps20
  go_wp2_with (go_at_call 65; refine (CP.out).mono ?_; rintro e w1 ⟨rfl, rfl⟩)
  clear i1 i2
  go_loopw [11] (fun v wr => ∃ (q : Nat) (z : Int), q ≤ l.length ∧ v = .int .i64 z ∧ z = (q : Int) - 1 ∧ backN l (otherP r) q = t ∧ Below w.heap.size w wr) (fun v _ => (RowKit.intOf v + 1).toNat)
  case atStart => exact ⟨q0, z0, HQ0.out, rfl, HZ0.out, HST.out, Below.refl _ _⟩
  case round =>
    obtain ⟨q, z, hq, rfl, hz, heq, hb⟩ := hrel
    have B := Lib.hid hb
    by_cases h0 : q = 0
    · have HR : Hid (bRes t = .tuple #[.int .i64 0, .bool false]) := Lib.hid (by rw [← heq, h0]; rfl)
      have j2 : (0 ≤ z) = False := by simp; omega
      have j3 : (z ≥ 0) = False := by simp; omega
      clear heq hb hq h0 hz
      go_wp2
      go_ret2
      exact ⟨by rw [HR.out]; rfl, B.out⟩
    · obtain ⟨n, rfl⟩ : ∃ n, q = n + 1 := ⟨q - 1, by omega⟩
      obtain rfl : z = (n : Int) := by omega
      have hn : n < l.length := by omega
      obtain ⟨rb, off, rfl, hlt, hcr⟩ := rune_cell (HL.out.below hb) hn
      have j1 : (0 : Int) ≤ (n : Int) := by omega
      have j2 : ((n : Int) < (l.length : Int)) = True := by simp; exact hn
      have HN := Lib.hid hn
      obtain ⟨z2, hz2⟩ : ∃ z2 : Int, z2 = (n : Int) - 1 := ⟨_, rfl⟩
      have hwq : wrap64 ((n : Int) - 1) = z2 := by have := HLEN.out; unfold wrap64; omega
      have HZ2 := Lib.hid hz2
      obtain ⟨x, hx0⟩ : ∃ x, x = l[n]'hn := ⟨_, rfl⟩
      replace hcr : wr.cell? ⟨rb, off + n, none⟩ = some (.int .i32 x) := by rw [hx0]; exact hcr
      by_cases hx : x = r
      · have HR : Hid (bRes t = .tuple #[.int .i64 (n : Int), .bool true]) := Lib.hid (by
          rw [← heq, backN_stop hn (decide_eq_false fun h => h (hx0.symm.trans hx))]
          rfl)
        subst hx
        clear hx0 heq hb hq hn hlt hwq h0 hz hz2
        go_wp2
        go_ret2
        exact ⟨by rw [HR.out]; rfl, B.out⟩
      · have HS : Hid (backN l (otherP r) n = t) := Lib.hid (by rw [← backN_step hn (show decide (l[n]'hn ≠ r) = true from decide_eq_true fun h => hx (hx0.trans h))]; exact heq)
        have i3 : (x == r) = false := beq_eq_false_iff_ne.mpr hx
        have i4 : (x = r) = False := eq_false hx
        clear hx hx0 heq hb hq hn hlt h0 hz hz2
        go_wp2
        go_roundw
        case rel => exact ⟨n, z2, Nat.le_of_lt HN.out, by rw [hwq], HZ2.out, HS.out, B.out⟩
        case measure => rw [hwq]; clear hwq; have := HZ2.out; simp [RowKit.intOf]; omega
end Go.Proofs.YtepbhmebidmnbaaDoor
