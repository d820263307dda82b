/-
  What From answers: slices.Backward's iterator, and the ring that is filled.
-/
import Derived.Test.YtknekldnipdpeaaKrFrom
namespace Go.Proofs.Ytknekldnipdpeaa
open Go.RowKit Go.Shelf Go.Lib
attribute [local go_sem] Oper.semAt_some

/-- the index that is m - 1 -/
def idx : Nat → Int
  | 0 => -1
  | m + 1 => (m : Int)
theorem idx_wrap {m : Nat} (h : m ≤ 140737488355328) : wrap64 ((m : Int) - 1) = idx m := by
  cases m with
  | zero => show wrap64 (((0 : Nat) : Int) - 1) = -1; unfold wrap64; omega
  | succ m => show wrap64 (((m + 1 : Nat) : Int) - 1) = (m : Int); unfold wrap64; omega
theorem idx_meas (m : Nat) : (RowKit.intOf (.int .i64 (idx m)) + 1).toNat = m := by
  cases m with
  | zero => rfl
  | succ m => show ((m : Int) + 1).toNat = m + 1; omega
/-- what is given in a round -/
def BackR (w0 : World) (ls : List (List Int)) (k : Nat) (_ y : Value) (bb : Nat) (W : World) : Prop := bb ≤ W.heap.size ∧ ∃ l A c, ls[ls.length - 1 - k]? = some l ∧ y = .slice A l.length c ∧ Holds1 w0 (.slice A l.length c) (runeVals l)
set_option maxRecDepth 1000000 in
set_option maxHeartbeats 4000000 in
theorem back_iter (w0 w : World) (b : Nat) (ls : List (List Int)) (A : Option Addr) (n c : Nat) (hm : Mat w0 (.slice A n c) ls) (hb : Box w b (.slice A n c) 26) (hB : Below w0.heap.size w0 w) :
    IterB Try.prog 38 #[.pointer (some ⟨b, 0, none⟩)] (fun k => k < w0.heap.size ∨ k = b) ls.length (BackR w0 ls) w := by
  intro n' l J Jx W hs hJ hJx hY h0
  have hn : n = ls.length := by
    obtain ⟨A', c', e⟩ := hm.form
    injection e
  have HM := Lib.hid hm
  have HB := Lib.hid hB
  have HBX := Lib.hid hb
  have HLEN := Lib.hid hm.len
  have HS0 := Lib.hid hs
  have HY := Lib.hid hY
  have H0 := Lib.hid h0
  have hdep : Fence.wide.depth.isSome = false := rfl
  have c0 : W.cell? ⟨b, 0, none⟩ = some (.slice A n c) := Box.cell (Box.same hb (hs.block b (.inr rfl)))
  obtain ⟨z0, hz0⟩ : ∃ z0, z0 = idx n := ⟨_, rfl⟩
  have hix : wrap64 ((n : Int) - 1) = z0 := by rw [hz0]; exact idx_wrap (by rw [hn]; exact hm.len)
  have HZ0 := Lib.hid hz0
  have HN := Lib.hid hn
  rw [← hn]
  clear hm hb hB hs hJ hJx hY h0 hn hz0
  refine callsIn_of_wp Try.func38 rfl trivial ?_ rfl
  simp only [Try.ntmps38, List.size_toArray, List.length_cons, List.length_nil, Nat.reduceAdd, Nat.reduceSub, Array.replicate_succ, Array.replicate_zero, List.push_toArray, List.append_toArray, List.nil_append, List.cons_append]
  gi_wp2_with fail
  gi_loopw [3] (fun i wr => ∃ (m k : Nat) (z : Int), m + k = n ∧ i = .int .i64 z ∧ z = idx m ∧ Same (fun k => k < w0.heap.size ∨ k = b) W wr ∧ J k wr) (fun i _ => (RowKit.intOf i + 1).toNat)
  case atStart => exact ⟨n, 0, z0, rfl, rfl, HZ0.out, Same.refl _ _, H0.out⟩
  case round =>
    obtain ⟨m, k, z, hmk, rfl, hz, hs, hj⟩ := hrel
    have HS := Lib.hid hs
    have HJK := Lib.hid hj
    cases m with
    | zero =>
      obtain rfl : z = -1 := hz
      have hk : k = n := by omega
      have HK := Lib.hid hk
      clear hs hj hmk hk
      gi_wp2
      go_end0
      exact ⟨⟨_, rfl⟩, .inl (by have := HJK.out; rw [HK.out] at this; exact this)⟩
    | succ m =>
      obtain rfl : z = (m : Int) := hz
      have hc : wr.cell? ⟨b, 0, none⟩ = some (.slice A n c) := (Box.same (Box.same HBX.out (HS0.out.block b (.inr rfl))) (hs.block b (.inr rfl))).cell
      have hml : m < ls.length := by have := HN.out; omega
      have hkx : ls.length - 1 - k = m := by have := HN.out; omega
      obtain ⟨bb, off, A2, c2, hA, hlt, hcell, hh, _⟩ := HM.out.at (List.getElem?_eq_getElem hml)
      subst hA
      have hce : wr.cell? ⟨bb, off + m, none⟩ = some (.slice A2 ls[m].length c2) := by
        rw [World.cell?_of_block (w := W) (w' := wr) (hs.block bb (.inl hlt)), World.cell?_of_block (w := w) (w' := W) (HS0.out.block bb (.inl hlt))]
        exact (HB.out.cell (p := ⟨bb, off + m, none⟩) hlt).trans hcell
      obtain ⟨fn, tmps, assign, body, hy, hR⟩ := HY.out k (.int .i64 (m : Int)) (.slice A2 ls[m].length c2) W.heap.size wr (by have := HN.out; omega) ⟨hs.size, ls[m], A2, c2, by rw [hkx, List.getElem?_eq_getElem hml], rfl, hh⟩ (Nat.le_refl _) hj
      have i1 : ((m : Int) ≥ 0) = True := eq_true (by omega)
      have i2 : (0 : Int) ≤ (m : Int) := by omega
      have i3 : ((m : Int) < (n : Int)) = True := eq_true (by omega)
      have i4 : (m < n) = True := eq_true (by omega)
      obtain ⟨z2, hz2⟩ : ∃ z2, z2 = idx m := ⟨_, rfl⟩
      have hwm : wrap64 ((m : Int) - 1) = z2 := by rw [hz2]; exact idx_wrap (by have := HLEN.out; omega)
      have HZ2 := Lib.hid hz2
      have HMK : Hid (m + (k + 1) = n) := Lib.hid (by omega)
      generalize ls[m].length = xl at *
      clear hs hj hmk hcell hh hml hkx hz2
      gi_wp2_with fail
      refine hR.mono ?_
      rintro e W4 (⟨rfl, hJ4, hs4⟩ | ⟨rfl, hJx4⟩)
      · have J4 := Lib.hid hJ4
        have S4 := Lib.hid (HS.out.trans (hs4.mono fun j hj => .inl hj))
        clear hJ4 hs4 hy hR
        gi_wp2
        go_roundw
        case rel => exact ⟨m, k + 1, z2, HMK.out, by first | rfl | rw [hwm], HZ2.out, S4.out, J4.out⟩
        case measure =>
          have h1 := idx_meas m
          rw [← HZ2.out] at h1
          first
            | (show (RowKit.intOf (.int .i64 z2) + 1).toNat < (RowKit.intOf (.int .i64 (m : Int)) + 1).toNat; rw [h1]; simp [RowKit.intOf]; done)
            | (show (RowKit.intOf (.int .i64 (wrap64 ((m : Int) - 1))) + 1).toNat < (RowKit.intOf (.int .i64 (m : Int)) + 1).toNat; rw [hwm, h1]; simp [RowKit.intOf]; done)
      · have J4 := Lib.hid hJx4
        clear hJx4 hy hR
        gi_wp2
        refine bodyPost_ret (results_none rfl _ _ _) rfl ?_
        exact ⟨⟨_, rfl⟩, .inr J4.out⟩
end Go.Proofs.Ytknekldnipdpeaa
