/-
  Text is printed: the law holds.
-/
import Derived.Test.YtmmlaaigcnkomaaDoorVpText
namespace Go.Proofs.YtmmlaaigcnkomaaDoor
open Go.RowKit Go.Shelf Go.Lib
attribute [local go_sem] Oper.semAt_some

def flt (l : List Int) (k : Nat) : List Int := (l.take k).filter okR
theorem flt_snoc (l : List Int) {k : Nat} {r : Int} (h : l[k]? = some r) : flt l (k + 1) = flt l k ++ (if okR r = true then [r] else []) := by
  unfold flt
  rw [List.take_add_one, h]
  simp only [Option.toList_some, List.filter_append]
  by_cases hr : okR r = true <;> simp [hr]
theorem flt_len (l : List Int) (k : Nat) : (flt l k).length ≤ l.length := by
  unfold flt
  have := List.length_filter_le okR (l.take k)
  rw [List.length_take] at this
  omega
def TextI (w : World) (l : List Int) (v i : Value) (wr : World) : Prop := ∃ k : Nat, k ≤ l.length ∧ i = .int .i64 k ∧ wr.ownsRow w.heap.size 21 1 v (flt l k).length (runeVals (flt l k)) ∧ Below w.heap.size w wr
def SeenI (m : Nat) (w : World) (i : Value) (wr : World) : Prop := ∃ k : Nat, k ≤ m ∧ i = .int .i64 k ∧ Below w.heap.size w wr

set_option maxRecDepth 1000000 in
set_option maxHeartbeats 8000000 in
theorem prints_walk (w : World) (l : List Int) (A : Option Addr) (n c : Nat) (hT : Tabs w) (hv : Holds1 w (.slice A n c) (runeVals l)) (hlen : l.length ≤ 1048576) :
    Calls Tryd.prog 11 #[.slice A n c] w fun e w' => e = .returned (.bool true) ∧ Below w.heap.size w w' := by
  obtain ⟨i0, hi, hz0, hz1, hz2⟩ := info_parts info_rune
  obtain ⟨A', c', e0, _, hc⟩ := hv
  injection e0 with e1 e2 e3
  subst e1 e3
  have hl : (runeVals l).length = l.length := by simp [runeVals]
  rw [hl] at e2 hc
  have HC := Lib.hid hc
  have HN := Lib.hid e2
  have HLEN := Lib.hid hlen
  have HT := Lib.hid hT
  have CL := Lib.hid fun W (hW : Below w.heap.size w W) => live_any W (hT.below hW)
  unfold LivePost at CL
  clear hc e2 hlen hT hl
  go_enter Tryd.func11, Tryd.ntmps11
  go_wp2
  go_loopw [3, 11] (fun v i wr => TextI w l v i wr) (fun _ i _ => n - (RowKit.intOf i).toNat)
  case atStart => exact ⟨0, Nat.zero_le _, rfl, World.ownsRow_nil _ _ _ _, Below.refl _ _⟩
  case round =>
    obtain ⟨k, hk, rfl, ho, hb⟩ := hrel
    rw [← HN.out] at hk
    by_cases hlt : k < n
    · obtain ⟨r, hx⟩ : ∃ r, l[k]? = some r := ⟨_, List.getElem?_eq_getElem (by rw [← HN.out]; exact hlt)⟩
      obtain ⟨b, off, rfl, hbl, hcell⟩ := HC.out (by rw [← HN.out]; omega)
      have hl0 : wr.cell? ⟨b, off + k, none⟩ = some (.int .i32 r) := (hb.cell (p := ⟨b, off + k, none⟩) hbl).trans (hcell k _ (by simp [runeVals, hx]))
      have HS := Lib.hid (flt_snoc l hx)
      have HFL : Hid ((flt l k).length ≤ 1048576) := Lib.hid (Nat.le_trans (flt_len l k) HLEN.out)
      have i1 : (0 : Int) ≤ (k : Int) := by omega
      have i2 : ((k : Int) < (n : Int)) = True := by simp; exact hlt
      have hwk : wrap64 ((k : Int) + 1) = (k : Int) + 1 := by have := HLEN.out; have := HN.out; unfold wrap64; omega
      have HLT : Hid (k < n) := Lib.hid hlt
      have HO := Lib.hid ho
      have HB := Lib.hid hb
      obtain ⟨A2, c2, hv2, _⟩ := own_form ho
      generalize hq : (flt l k).length = q at hv2
      subst hv2
      clear hq ho hb hcell hlt hk hx
      have hg : (r < 32) ∨ (32 ≤ r ∧ r < 127) ∨ (r = 127) ∨ (128 ≤ r ∧ r ≤ 159) ∨ (160 ≤ r ∧ r < 55296) ∨ (55296 ≤ r ∧ r ≤ 57343) ∨ (57343 < r ∧ r ≤ 1114111) ∨ (1114111 < r) := by clear hwk; omega
      rcases hg with hg | hg | hg | hg | hg | hg | hg | hg
      · have t0 : ((32 : Int) ≤ r) = False := by simp; omega
        have t1 : (r != 127) = true := by simp; omega
        have t2 : ((128 : Int) ≤ r) = False := by simp; omega
        have t3 : (r ≤ 159) = True := by simp; omega
        have t4 : (r < 55296) = True := by simp; omega
        have t5 : ((57343 : Int) < r) = False := by simp; omega
        have t6 : (r ≤ 1114111) = True := by simp; omega
        have hok : okR r = false := by simp [okR, vld]; omega
        have HS2 : Hid (flt l (k + 1) = flt l k) := Lib.hid (by rw [HS.out, hok]; exact List.append_nil _)
        clear hok hg HS
        go_wp2
        go_roundw
        case rel => exact ⟨k + 1, by rw [← HN.out]; exact HLT.out, next_val hwk, by rw [HS2.out]; exact HO.out, HB.out⟩
        case measure => exact measure_lt HLT.out hwk
      · have t0 : ((32 : Int) ≤ r) = True := by simp; omega
        have t1 : (r != 127) = true := by simp; omega
        have t2 : ((128 : Int) ≤ r) = False := by simp; omega
        have t3 : (r ≤ 159) = True := by simp; omega
        have t4 : (r < 55296) = True := by simp; omega
        have t5 : ((57343 : Int) < r) = False := by simp; omega
        have t6 : (r ≤ 1114111) = True := by simp; omega
        have hok : okR r = true := by simp [okR, vld]; omega
        have HS2 : Hid (flt l (k + 1) = flt l k ++ [r]) := Lib.hid (by rw [HS.out, hok]; rfl)
        clear hok hg HS
        go_wp2_with (at_builtin; refine append_one wr rfl _ _ 49 rfl w.heap.size 21 i0 (.int .i32 0) 4 Tryd.underlying49 hi hz0 hz1 hz2 rfl (.slice A2 q c2) (flt l k).length (runeVals (flt l k)) rfl (by exact HO.out) (.int .i32 r) rfl rfl (by have := HFL.out; unfold maxLen; omega) (by have := HFL.out; omega) HB.out.size ?_; intro v' w4 hown' hb4; have HO4 := Lib.hid hown'; have HB4 := Lib.hid (HB.out.trans hb4); clear hown' hb4)
        go_roundw
        case rel => exact ⟨k + 1, by rw [← HN.out]; exact HLT.out, next_val hwk, by rw [HS2.out]; simpa [runeVals] using HO4.out, HB4.out⟩
        case measure => exact measure_lt HLT.out hwk
      · have t0 : ((32 : Int) ≤ r) = True := by simp; omega
        have t1 : (r != 127) = false := by simp; omega
        have t2 : ((128 : Int) ≤ r) = False := by simp; omega
        have t3 : (r ≤ 159) = True := by simp; omega
        have t4 : (r < 55296) = True := by simp; omega
        have t5 : ((57343 : Int) < r) = False := by simp; omega
        have t6 : (r ≤ 1114111) = True := by simp; omega
        have hok : okR r = false := by simp [okR, vld]; omega
        have HS2 : Hid (flt l (k + 1) = flt l k) := Lib.hid (by rw [HS.out, hok]; exact List.append_nil _)
        clear hok hg HS
        go_wp2
        go_roundw
        case rel => exact ⟨k + 1, by rw [← HN.out]; exact HLT.out, next_val hwk, by rw [HS2.out]; exact HO.out, HB.out⟩
        case measure => exact measure_lt HLT.out hwk
      · have t0 : ((32 : Int) ≤ r) = True := by simp; omega
        have t1 : (r != 127) = true := by simp; omega
        have t2 : ((128 : Int) ≤ r) = True := by simp; omega
        have t3 : (r ≤ 159) = True := by simp; omega
        have t4 : (r < 55296) = True := by simp; omega
        have t5 : ((57343 : Int) < r) = False := by simp; omega
        have t6 : (r ≤ 1114111) = True := by simp; omega
        have hok : okR r = false := by simp [okR, vld]; omega
        have HS2 : Hid (flt l (k + 1) = flt l k) := Lib.hid (by rw [HS.out, hok]; exact List.append_nil _)
        clear hok hg HS
        go_wp2
        go_roundw
        case rel => exact ⟨k + 1, by rw [← HN.out]; exact HLT.out, next_val hwk, by rw [HS2.out]; exact HO.out, HB.out⟩
        case measure => exact measure_lt HLT.out hwk
      · have t0 : ((32 : Int) ≤ r) = True := by simp; omega
        have t1 : (r != 127) = true := by simp; omega
        have t2 : ((128 : Int) ≤ r) = True := by simp; omega
        have t3 : (r ≤ 159) = False := by simp; omega
        have t4 : (r < 55296) = True := by simp; omega
        have t5 : ((57343 : Int) < r) = False := by simp; omega
        have t6 : (r ≤ 1114111) = True := by simp; omega
        have hok : okR r = true := by simp [okR, vld]; omega
        have HS2 : Hid (flt l (k + 1) = flt l k ++ [r]) := Lib.hid (by rw [HS.out, hok]; rfl)
        clear hok hg HS
        go_wp2_with (at_builtin; refine append_one wr rfl _ _ 49 rfl w.heap.size 21 i0 (.int .i32 0) 4 Tryd.underlying49 hi hz0 hz1 hz2 rfl (.slice A2 q c2) (flt l k).length (runeVals (flt l k)) rfl (by exact HO.out) (.int .i32 r) rfl rfl (by have := HFL.out; unfold maxLen; omega) (by have := HFL.out; omega) HB.out.size ?_; intro v' w4 hown' hb4; have HO4 := Lib.hid hown'; have HB4 := Lib.hid (HB.out.trans hb4); clear hown' hb4)
        go_roundw
        case rel => exact ⟨k + 1, by rw [← HN.out]; exact HLT.out, next_val hwk, by rw [HS2.out]; simpa [runeVals] using HO4.out, HB4.out⟩
        case measure => exact measure_lt HLT.out hwk
      · have t0 : ((32 : Int) ≤ r) = True := by simp; omega
        have t1 : (r != 127) = true := by simp; omega
        have t2 : ((128 : Int) ≤ r) = True := by simp; omega
        have t3 : (r ≤ 159) = False := by simp; omega
        have t4 : (r < 55296) = False := by simp; omega
        have t5 : ((57343 : Int) < r) = False := by simp; omega
        have t6 : (r ≤ 1114111) = True := by simp; omega
        have hok : okR r = false := by simp [okR, vld]; omega
        have HS2 : Hid (flt l (k + 1) = flt l k) := Lib.hid (by rw [HS.out, hok]; exact List.append_nil _)
        clear hok hg HS
        go_wp2
        go_roundw
        case rel => exact ⟨k + 1, by rw [← HN.out]; exact HLT.out, next_val hwk, by rw [HS2.out]; exact HO.out, HB.out⟩
        case measure => exact measure_lt HLT.out hwk
      · have t0 : ((32 : Int) ≤ r) = True := by simp; omega
        have t1 : (r != 127) = true := by simp; omega
        have t2 : ((128 : Int) ≤ r) = True := by simp; omega
        have t3 : (r ≤ 159) = False := by simp; omega
        have t4 : (r < 55296) = False := by simp; omega
        have t5 : ((57343 : Int) < r) = True := by simp; omega
        have t6 : (r ≤ 1114111) = True := by simp; omega
        have hok : okR r = true := by simp [okR, vld]; omega
        have HS2 : Hid (flt l (k + 1) = flt l k ++ [r]) := Lib.hid (by rw [HS.out, hok]; rfl)
        clear hok hg HS
        go_wp2_with (at_builtin; refine append_one wr rfl _ _ 49 rfl w.heap.size 21 i0 (.int .i32 0) 4 Tryd.underlying49 hi hz0 hz1 hz2 rfl (.slice A2 q c2) (flt l k).length (runeVals (flt l k)) rfl (by exact HO.out) (.int .i32 r) rfl rfl (by have := HFL.out; unfold maxLen; omega) (by have := HFL.out; omega) HB.out.size ?_; intro v' w4 hown' hb4; have HO4 := Lib.hid hown'; have HB4 := Lib.hid (HB.out.trans hb4); clear hown' hb4)
        go_roundw
        case rel => exact ⟨k + 1, by rw [← HN.out]; exact HLT.out, next_val hwk, by rw [HS2.out]; simpa [runeVals] using HO4.out, HB4.out⟩
        case measure => exact measure_lt HLT.out hwk
      · have t0 : ((32 : Int) ≤ r) = True := by simp; omega
        have t1 : (r != 127) = true := by simp; omega
        have t2 : ((128 : Int) ≤ r) = True := by simp; omega
        have t3 : (r ≤ 159) = False := by simp; omega
        have t4 : (r < 55296) = False := by simp; omega
        have t5 : ((57343 : Int) < r) = True := by simp; omega
        have t6 : (r ≤ 1114111) = False := by simp; omega
        have hok : okR r = false := by simp [okR, vld]; omega
        have HS2 : Hid (flt l (k + 1) = flt l k) := Lib.hid (by rw [HS.out, hok]; exact List.append_nil _)
        clear hok hg HS
        go_wp2
        go_roundw
        case rel => exact ⟨k + 1, by rw [← HN.out]; exact HLT.out, next_val hwk, by rw [HS2.out]; exact HO.out, HB.out⟩
        case measure => exact measure_lt HLT.out hwk
    · obtain rfl : k = n := by omega
      have i2 : ((k : Int) < (k : Int)) = False := by simp
      have hokL : ∀ r ∈ flt l k, okR r = true := fun r hr => (List.mem_filter.1 hr).2
      have hvld : ∀ r ∈ flt l k, vld r = true := fun r hr => by
        have := hokL r hr
        simp only [okR, Bool.and_eq_true] at this
        exact this.1.1.1
      have hfl := flt_len l k
      have t1 := text_run ho hvld
      obtain ⟨c3, w2, t2, hh2, hb2⟩ := bytes_run wr (encAll (flt l k))
      have hB2 := hb.trans (hb2.mono hb.size)
      have hel := encAll_len (flt l k)
      have CA := Lib.hid (all_any w2 (encAll (flt l k)) _ (HT.out.below hB2) hh2 (by have := HLEN.out; omega) (by have := many_le (encAll (flt l k)); have := HLEN.out; omega))
      unfold AllPost at CA
      rw [all_text _ hokL] at CA
      have HO := Lib.hid ho
      have HB2 := Lib.hid hB2
      have HO2 := Lib.hid (own_below ho hb2)
      have HFL : Hid ((flt l k).length ≤ 1048576) := Lib.hid (Nat.le_trans hfl HLEN.out)
      obtain ⟨A2, c2, hv2, _⟩ := own_form ho
      generalize flt l k = L at *
      generalize hq : L.length = q at hv2
      subst hv2
      have HQ := Lib.hid hq
      generalize (encAll L).length = q3 at *
      clear hq ho hb hb2 hB2 hokL hvld hel hfl hh2 hlt hk
      go_wp2_with (first
        | (go_at_call 14; refine (CA.out).mono ?_; rintro e w3 ⟨v3, rfl, hr3, hb3⟩; obtain ⟨A3, c4, hv3⟩ := hr3.form; rw [List.length_map, HQ.out] at hv3; subst hv3; have HR3 := Lib.hid hr3; have HB3 := Lib.hid (HB2.out.trans (hb3.mono HB2.out.size)); have HO3 := Lib.hid (own_below HO2.out hb3); clear hr3 hb3)
        | (go_at_call 12; refine (CL.out _ HB3.out).mono ?_; rintro e w4 ⟨rfl, hb4⟩; have HR4 := Lib.hid (HR3.out.below hb4); have HB4 := Lib.hid (HB3.out.trans (hb4.mono HB3.out.size)); have HO4 := Lib.hid (own_below HO3.out hb4); clear hb4))
      clear t1 t2
      go_loopw [62] (fun i wr' => SeenI q w4 i wr') (fun i _ => q - (RowKit.intOf i).toNat)
      case atStart => exact ⟨0, Nat.zero_le _, rfl, Below.refl _ _⟩
      case round =>
        obtain ⟨j, hj, rfl, hb⟩ := hrel
        by_cases hjl : j < q
        · obtain ⟨r, hx⟩ : ∃ r, L[j]? = some r := ⟨_, List.getElem?_eq_getElem (by rw [HQ.out]; exact hjl)⟩
          have hx2 : (L.map printA)[j]? = some (printA r) := by rw [List.getElem?_map, hx]; rfl
          obtain ⟨g, cap, pv, hv1, hgl, hi1, k0, k1, k2, k3, k4, k5, k6⟩ := (HR4.out.below hb).at hx2
          injection hv1 with e1 e2 e3
          subst e1 e3
          clear e2
          obtain ⟨A5, c5, rfl, _⟩ := own_form hi1
          obtain ⟨A6, c6, e6, _, hc6⟩ := (Holds1.of_own HO4.out).below hb
          injection e6 with e1 e2 e3
          subst e1 e3
          clear e2
          obtain ⟨b6, o6, rfl, hbl6, hc6⟩ := hc6 (by rw [show (runeVals L).length = q by simp [runeVals]; exact HQ.out]; omega)
          have l6 := hc6 j (.int .i32 r) (by simp [runeVals, hx])
          have j1 : (0 : Int) ≤ (j : Int) := by omega
          have j2 : ((j : Int) < (q : Int)) = True := by simp; exact hjl
          have hwj : wrap64 ((j : Int) + 1) = (j : Int) + 1 := by have := HFL.out; have := HQ.out; unfold wrap64; omega
          have HJ := Lib.hid hb
          have HJL := Lib.hid hjl
          clear hc6 hjl hj hb hi1 hx hx2
          go_wp2
          have hX := heap_alloc_new wr (actObj (printA r) (.slice A5 (printA r).ps.length c5))
          have hba := (Below.refl wr.heap.size wr).alloc (Nat.le_refl _) (actObj (printA r) (.slice A5 (printA r).ps.length c5))
          have x0 : (wr.alloc (actObj (printA r) (.slice A5 (printA r).ps.length c5))).cell? ⟨wr.heap.size, 0, none⟩ = some (.int .i64 1) := cell_of_row _ _ 0 _ _ _ hX
          have x1 : (wr.alloc (actObj (printA r) (.slice A5 (printA r).ps.length c5))).cell? ⟨wr.heap.size, 1, none⟩ = some (.int .i32 r) := cell_of_row _ _ 1 _ _ _ hX
          have l7 := (hba.cell (p := ⟨b6, o6 + j, none⟩) hbl6).trans l6
          have HJ2 := Lib.hid (HJ.out.trans (hba.mono HJ.out.size))
          clear hX hba l6 k0 k1 k2 k3 k4 k5 k6
          generalize wr.alloc (actObj (printA r) (.slice A5 (printA r).ps.length c5)) = W2 at *
          generalize wr.heap.size = bx at *
          go_region
          go_wp2
          go_roundw
          case rel => exact ⟨j + 1, HJL.out, next_val hwj, HJ2.out.drew⟩
          case measure => exact measure_lt HJL.out hwj
        · obtain rfl : j = q := by omega
          have j2 : ((j : Int) < (j : Int)) = False := by simp
          have HJ := Lib.hid (HB4.out.trans (hb.mono HB4.out.size))
          clear hjl hj hb
          go_wp2
          go_ret
          exact ⟨rfl, HJ.out⟩
end Go.Proofs.YtmmlaaigcnkomaaDoor
