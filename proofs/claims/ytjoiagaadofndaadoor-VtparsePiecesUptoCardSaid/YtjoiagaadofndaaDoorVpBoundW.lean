/-
  The law on bounds holds.
-/
import Derived.Test.YtjoiagaadofndaaDoorVpLive
import Derived.Test.YtjoiagaadofndaaDoorVpBound
namespace Go.Proofs.YtjoiagaadofndaaDoor
open Go.RowKit Go.Shelf Go.Lib
attribute [local go_sem] Oper.semAt_some

/-- an action of a row: its cells, its parameters -/
theorem ActRow.at {W : World} {B : Nat} {v : Value} {al : List ActD} (h : ActRow W B v al) {i : Nat} {a : ActD} (hi : al[i]? = some a) : ∃ g cap pv, v = .slice (some ⟨g, 0, none⟩) al.length cap ∧ g < W.heap.size ∧ IntRow W B pv a.ps ∧
    W.cell? ⟨g, i * 7, none⟩ = some (.int .i64 a.kind) ∧ W.cell? ⟨g, i * 7 + 1, none⟩ = some (.int .i32 a.rune) ∧ W.cell? ⟨g, i * 7 + 2, none⟩ = some (.int .u8 a.fin.toNat) ∧ W.cell? ⟨g, i * 7 + 3, none⟩ = some (.int .u8 a.priv.toNat) ∧ W.cell? ⟨g, i * 7 + 4, none⟩ = some pv ∧ W.cell? ⟨g, i * 7 + 5, none⟩ = some (str a.inter) ∧ W.cell? ⟨g, i * 7 + 6, none⟩ = some (str a.text) := by
  obtain ⟨xs, e1, ⟨h1, h2⟩, h3⟩ := h
  have hil := (List.getElem?_eq_some_iff.1 hi).1
  have hxl : xs.length = al.length := by rw [← e1, List.length_map]
  obtain ⟨x, hx⟩ : ∃ x, xs[i]? = some x := ⟨_, List.getElem?_eq_getElem (by omega)⟩
  have hxa : x.1 = a := by
    rw [← e1, List.getElem?_map, hx] at hi
    exact Option.some.inj hi
  subst hxa
  rcases h2 with ⟨_, h0⟩ | ⟨g, cap, cur, hv, hb, hg, hn, hcm, hs, ht⟩
  · omega
  · have hc : ∀ j u, j < 7 → (actCells x)[j]? = some u → W.cell? ⟨g, i * 7 + j, none⟩ = some u := fun j u hj hu => by
      rw [cell_of_row W g (i * 7 + j) cur _ (0, 0) hg, ← Array.getElem?_toList]
      have : (cur.toList.take (al.length * 7))[i * 7 + j]? = some u := by
        rw [ht, ← hu]
        clear ht hcm hs h1 h3 e1 hi hxl hil
        induction xs generalizing i with
        | nil => simp at hx
        | cons y ys ih =>
          cases i with
          | zero =>
            simp at hx
            subst hx
            show (actCells y ++ actVals ys)[0 * 7 + j]? = _
            rw [List.getElem?_append_left (by simp [actCells]; omega)]
            simp
          | succ i =>
            show (actCells y ++ actVals ys)[(i + 1) * 7 + j]? = _
            rw [List.getElem?_append_right (by simp [actCells]; omega)]
            have := ih (i := i) (by simpa using hx)
            rw [← this]
            congr 1
            simp [actCells]
            omega
      rw [List.getElem?_take_of_lt (by omega)] at this
      exact this
    exact ⟨g, cap, x.2, hv, (Array.getElem?_eq_some_iff.1 hg).1, h3 x (List.mem_of_getElem? hx), hc 0 _ (by omega) rfl, hc 1 _ (by omega) rfl, hc 2 _ (by omega) rfl, hc 3 _ (by omega) rfl, hc 4 _ (by omega) rfl, hc 5 _ (by omega) rfl, hc 6 _ (by omega) rfl⟩
theorem measure_lt {j p : Nat} (h : j < p) (hw : wrap64 ((j : Int) + 1) = (j : Int) + 1) : p - (RowKit.intOf (.int .i64 (wrap64 ((j : Int) + 1)))).toNat < p - (RowKit.intOf (.int .i64 (j : Int))).toNat := by
  rw [hw]
  clear hw
  simp [RowKit.intOf]
  omega
theorem next_val {j : Nat} (hw : wrap64 ((j : Int) + 1) = (j : Int) + 1) : Value.int .i64 (wrap64 ((j : Int) + 1)) = .int .i64 ((j + 1 : Nat) : Int) := by
  rw [hw]
  rfl
theorem str_size (l : List UInt8) : (⟨l.toArray⟩ : ByteArray).size = l.length := by simp [ByteArray.size]
def BoundI (w1 : World) (B : Nat) (v : Value) (al : List ActD) (i : Value) (wr : World) : Prop := ∃ k : Nat, k ≤ al.length ∧ i = .int .i64 k ∧ ActRow wr B v al ∧ Below w1.heap.size w1 wr
def ParI (m : Nat) (W : World) (i : Value) (wr : World) : Prop := (∃ j : Nat, j ≤ m ∧ i = .int .i64 j) ∧ wr = W

set_option maxRecDepth 1000000 in
set_option maxHeartbeats 4000000 in
theorem bounds_walk (w : World) (bs : List UInt8) (A : Option Addr) (n c : Nat) (hT : Tabs w) (hv : Holds1 w (.slice A n c) (byteVals bs)) (hlen : bs.length ≤ 200000000) :
    Calls Tryd.prog 6 #[.slice A n c] w fun e w' => e = .returned (.bool true) ∧ Below w.heap.size w w' := by
  obtain rfl : n = bs.length := by
    obtain ⟨A', c', e, _⟩ := hv
    injection e with e1 e2 e3
    rw [e2, byteVals_length]
  have CA := Lib.hid (all_any w bs _ hT hv hlen (by have := many_le bs; omega))
  have HT : Hid (∀ W, Below w.heap.size w W → Tabs W) := Lib.hid fun W hW => hT.below hW
  have CL := Lib.hid fun W (hW : Tabs W) => live_any W hW
  obtain ⟨hok, hle⟩ := all_ok bs
  have HOK := Lib.hid hok
  clear hT hv hok
  unfold AllPost at CA
  unfold LivePost at CL
  generalize hL : allP bs = al at *
  clear hL
  generalize bs.length = n at *
  have HLE := Lib.hid hle
  have HN := Lib.hid hlen
  have hi : ((n : Int) + 1 < (al.length : Int)) = False := by simp; omega
  have hwn : wrap64 ((n : Int) + 1) = (n : Int) + 1 := by unfold wrap64; omega
  clear hle hlen
  generalize hm : al.length = m at *
  have HM := Lib.hid hm
  clear hm
  go_enter Tryd.func6, Tryd.ntmps6
  go_wp2_with (go_at_call 14; refine (CA.out).mono ?_; rintro e w1 ⟨v1, rfl, hr1, hb1⟩; have HR1 := Lib.hid hr1; have HB1 := Lib.hid hb1; obtain ⟨A1, c1, hv1⟩ := hr1.form; rw [HM.out] at hv1; subst hv1; clear hr1 hb1)
  go_loopw [18] (fun i wr => BoundI w1 w.heap.size (.slice A1 m c1) al i wr) (fun i _ => m - (RowKit.intOf i).toNat)
  case atStart => exact ⟨0, Nat.zero_le _, rfl, HR1.out, Below.refl _ _⟩
  case round =>
    obtain ⟨k, hk, rfl, hrow, hb⟩ := hrel
    rw [HM.out] at hk
    by_cases hlt : k < m
    · obtain ⟨a, hx⟩ : ∃ a, al[k]? = some a := ⟨_, List.getElem?_eq_getElem (by rw [HM.out]; exact hlt)⟩
      have hok := HOK.out a (List.mem_of_getElem? hx)
      obtain ⟨g, cap, pv, hv1, hgl, hi1, k0, k1, k2, k3, k4, k5, k6⟩ := hrow.at hx
      injection hv1 with e1 e2 e3
      subst e1 e3
      clear e2
      obtain ⟨A2, c2, rfl, _⟩ := own_form hi1
      have hsl : a.ps.length ≤ 16 := hok.ps16
      have b1 : ((a.kind : Int) < 1) = False := by simp; have := hok.kind.1; omega
      have b2 : ((6 : Int) < (a.kind : Int)) = False := by simp; have := hok.kind.2; omega
      have b3 : ((16 : Int) < (a.ps.length : Int)) = False := by simp; omega
      have b4 : ((2 : Int) < (a.inter.length : Int)) = False := by simp; have := hok.inter2; omega
      have b5 : ((1024 : Int) < (a.text.length : Int)) = False := by simp; have := hok.text; omega
      have HINT := Lib.hid hok.ints
      have HSL := Lib.hid hsl
      have hba := (Below.refl wr.heap.size wr).alloc (Nat.le_refl _) (actObj a (.slice A2 a.ps.length c2))
      have HB2 := Lib.hid (hb.trans (hba.mono hb.size))
      have HW2 := Lib.hid (hrow.touch (Touch.of_below (T := fun _ => False) hba) (fun k hk => hk.elim))
      have HI2 := Lib.hid (Holds1.of_own (own_below hi1 hba))
      have i1 : (0 : Int) ≤ (k : Int) := by omega
      have i2 : ((k : Int) < (m : Int)) = True := by simp; exact hlt
      have hwk : wrap64 ((k : Int) + 1) = (k : Int) + 1 := by have := HLE.out; have := HN.out; unfold wrap64; omega
      have HLT := Lib.hid hlt
      clear hrow hb hba hi1 hok hsl hlt hk hx
      go_wp2
      generalize wr.alloc (actObj a (.slice A2 a.ps.length c2)) = W2 at *
      have hq := HI2.out
      obtain ⟨A', c', e0, _, hc⟩ := hq
      injection e0 with e1 e2 e3
      subst e1 e3
      clear e2
      have HC := Lib.hid hc
      clear hc
      have hpl : (intVals a.ps).length = a.ps.length := intVals_length _
      have HPL := Lib.hid hpl
      clear hpl
      generalize hps : a.ps = ps at *
      clear hps
      generalize hp : ps.length = p at *
      have HP := Lib.hid hp
      clear hp b1 b2 b3 b4 b5
      go_loopw [51] (fun i wr' => ParI p W2 i wr') (fun i _ => p - (RowKit.intOf i).toNat)
      case atStart => exact ⟨⟨0, Nat.zero_le _, rfl⟩, rfl⟩
      case round =>
        obtain ⟨⟨j, hj, rfl⟩, rfl⟩ := hrel
        by_cases hjl : j < p
        · obtain ⟨x, hx⟩ : ∃ x, ps[j]? = some x := ⟨_, List.getElem?_eq_getElem (by rw [HP.out]; exact hjl)⟩
          obtain ⟨b, off, rfl, _, hcell⟩ := HC.out (by rw [HPL.out]; omega)
          have hl0 := hcell j (.int .i64 x) (by simp [intVals, hx])
          have hxi := HINT.out x (List.mem_of_getElem? hx)
          have d1 : (x < -1) = False := by simp; omega
          have d2 : ((65535 : Int) < x) = False := by simp; omega
          have j1 : (0 : Int) ≤ (j : Int) := by omega
          have j2 : ((j : Int) < (p : Int)) = True := by simp; exact hjl
          have hwj : wrap64 ((j : Int) + 1) = (j : Int) + 1 := by have := HSL.out; unfold wrap64; omega
          have HJL := Lib.hid hjl
          clear hcell hxi hjl hj hx
          go_wp2
          go_roundw
          case rel => exact ⟨⟨j + 1, by clear hwj hwk hwn; have := HJL.out; omega, next_val hwj⟩, rfl⟩
          case measure => exact measure_lt HJL.out hwj
        · obtain rfl : j = p := by clear hwk hwn; omega
          have j2 : ((j : Int) < (j : Int)) = False := by simp
          clear hjl hj
          go_wp2
          go_roundw
          case rel => exact ⟨k + 1, by clear hwk hwn; have := HLT.out; have := HM.out; omega, next_val hwk, HW2.out, HB2.out⟩
          case measure => exact measure_lt HLT.out hwk
    · obtain rfl : k = m := by clear hwn; omega
      have i2 : ((k : Int) < (k : Int)) = False := by simp
      have HB2 := Lib.hid (HB1.out.trans (hb.mono HB1.out.size))
      clear hlt hk hrow hb
      go_wp2_with (go_at_call 12; refine (CL.out _ (HT.out _ HB2.out)).mono ?_; rintro e w3 ⟨rfl, hb3⟩; have HB3 := Lib.hid (HB2.out.trans (hb3.mono HB2.out.size)); clear hb3)
      go_ret
      exact ⟨rfl, HB3.out⟩
end Go.Proofs.YtjoiagaadofndaaDoor
