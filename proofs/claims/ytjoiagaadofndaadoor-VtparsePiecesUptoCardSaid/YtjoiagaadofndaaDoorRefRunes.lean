/-
  What the document's own value and Runes return, for every slice of bytes.
-/
import Derived.Test.YtjoiagaadofndaaDoorRunes
import Derived.Test.YtjoiagaadofndaaDoorHeadP
namespace Go.Proofs.YtjoiagaadofndaaDoor
open Go.RowKit Go.Lib

theorem ret_rune {a b : Int} (h : a = b) : Ending.returned (.int .i32 a) = .returned (.int .i32 b) := by rw [h]

set_option maxRecDepth 100000 in
set_option maxHeartbeats 4000000 in
theorem value_any (b off c n b0 b1 b2 b3 : Nat) (w : World) (hn1 : 1 ≤ n) (hn4 : n ≤ 4) (h0 : w.cell? ⟨b, off, none⟩ = some (.int .u8 b0)) (h1 : 2 ≤ n → w.cell? ⟨b, off + 1, none⟩ = some (.int .u8 b1))
    (h2 : 3 ≤ n → w.cell? ⟨b, off + 2, none⟩ = some (.int .u8 b2)) (h3 : 4 ≤ n → w.cell? ⟨b, off + 3, none⟩ = some (.int .u8 b3)) (l0 : b0 < 256) (l1 : b1 < 256) (l2 : b2 < 256) (l3 : b3 < 256) :
    Calls Tryd.prog 64 #[.slice (some ⟨b, off, none⟩) n c] w fun e w' => e = .returned (.int .i32 (valN n b0 b1 b2 b3)) ∧ Drawn w w' := by
  rcases (show n = 1 ∨ n = 2 ∨ n = 3 ∨ n = 4 by omega) with rfl | rfl | rfl | rfl
  · have e : valN 1 b0 b1 b2 b3 = b0 := rfl
    rw [e]
    clear h1 h2 h3 e
    go_enter Tryd.func64, Tryd.ntmps64
    go_wp2
    go_ret
    exact ⟨ret_rune (by first | rfl | omega), 0, rfl⟩
  · have e : valN 2 b0 b1 b2 b3 = b0 % 32 * 64 + b1 % 64 := rfl
    rw [e]
    have g1 := h1 (by decide)
    clear h1 h2 h3 e
    go_enter Tryd.func64, Tryd.ntmps64
    go_wp2
    go_quiet (fail)
    go_wp2
    go_ret
    exact ⟨ret_rune (by omega), _, rfl⟩
  · have e : valN 3 b0 b1 b2 b3 = b0 % 16 * 4096 + b1 % 64 * 64 + b2 % 64 := rfl
    rw [e]
    have g1 := h1 (by decide)
    have g2 := h2 (by decide)
    clear h1 h2 h3 e
    go_enter Tryd.func64, Tryd.ntmps64
    go_wp2
    go_quiet (fail)
    go_wp2
    go_ret
    exact ⟨ret_rune (by omega), _, rfl⟩
  · have e : valN 4 b0 b1 b2 b3 = b0 % 8 * 262144 + b1 % 64 * 4096 + b2 % 64 * 64 + b3 % 64 := rfl
    rw [e]
    have g1 := h1 (by decide)
    have g2 := h2 (by decide)
    have g3 := h3 (by decide)
    clear h1 h2 h3 e
    go_enter Tryd.func64, Tryd.ntmps64
    go_wp2
    go_quiet (fail)
    go_wp2
    go_ret
    exact ⟨ret_rune (by omega), _, rfl⟩

/-- the first bytes of a slice, as value asks for them -/
theorem value_of (s : List UInt8) (A : Option Addr) (c n : Nat) (w : World) (hv : Holds1 w (.slice A s.length c) (byteVals s)) (hn1 : 1 ≤ n) (hn4 : n ≤ 4) (hn : n ≤ s.length) (c' : Nat) :
    Calls Tryd.prog 64 #[.slice A n c'] w fun e w' => e = .returned (.int .i32 (valN n (byteAt s 0) (byteAt s 1) (byteAt s 2) (byteAt s 3))) ∧ Drawn w w' := by
  obtain ⟨A', c1, e, hc, h⟩ := hv
  injection e with e1 e2 e3
  subst e1 e3
  obtain ⟨b, off, rfl, hlt, hcell⟩ := h (by simp [byteVals]; omega)
  have hat : ∀ j, j < s.length → w.cell? ⟨b, off + j, none⟩ = some (.int .u8 (byteAt s j)) := fun j hj => hcell j _ (by simp [byteVals, byteAt, hj])
  clear h hcell
  exact value_any b off c' n _ _ _ _ w hn1 hn4 (hat 0 (by omega)) (fun h => hat 1 (by omega)) (fun h => hat 2 (by omega)) (fun h => hat 3 (by omega)) (byteAt_lt s 0) (byteAt_lt s 1) (byteAt_lt s 2) (byteAt_lt s 3)

theorem full_facts {s : List UInt8} (h : s ≠ []) (hf : isFull s = true) : (headP s).1 = (headP s).2 ∧ 1 ≤ (headP s).2 ∧ (headP s).2 ≤ 4 ∧ (headP s).2 ≤ s.length ∧ dec s = (valN (headP s).2 (byteAt s 0) (byteAt s 1) (byteAt s 2) (byteAt s 3), (headP s).2) := by
  have hd := head_dec s h
  rw [if_pos hf] at hd
  have hb := dec_bounds s h
  rw [hd] at hb
  simp only [isFull, decide_eq_true_eq] at hf
  exact ⟨hf.1, hf.2, hb.2.2.1, hb.2.1, hd⟩

set_option maxRecDepth 1000000 in
set_option maxHeartbeats 2000000 in
theorem refRunes_any (s : List UInt8) (v : Value) (w : World) (hv : Holds1 w v (byteVals s)) (hroom : s.length ≤ 4000000000) :
    Calls Tryd.prog 47 #[v] w fun e w' => ∃ r, e = .returned r ∧ w'.ownsRow w.heap.size 21 1 r (decAll s).length (runeVals (decAll s)) ∧ Below w.heap.size w w' := by
  obtain ⟨i0, hi, hz0, hz1, hz2⟩ := info_parts info_rune
  obtain ⟨A, c, hvv, hc, h⟩ := hv
  have hl : (byteVals s).length = s.length := by simp [byteVals]
  rw [hl] at hvv
  subst hvv
  have HV := Lib.hid (p := Holds1 w (.slice A s.length c) (byteVals s)) ⟨A, c, by rw [hl], hc, h⟩
  clear h hl hc
  go_enter Tryd.func47, Tryd.ntmps47
  go_wp2
  go_loopw [0, 3] (fun b l wr => RunesRel s w b l wr) (fun b _ _ => lenOf b)
  case atStart => exact ⟨s, [], A, c, rfl, HV.out, rfl, by simp, World.ownsRow_nil _ _ _ _, Below.refl _ _⟩
  case round =>
    obtain ⟨rest, out, A, c, rfl, hr, hout, hlen, hown, hb⟩ := hrel
    have HO := Lib.hid hout
    have HR := Lib.hid hr
    have HW := Lib.hid hown
    clear hout hr HV hown
    by_cases hlt : rest = []
    · subst hlt
      go_wp2
      go_ret
      have e : decAll s = out := by rw [← HO.out]; simp [decAll_nil]
      rw [e]
      exact ⟨_, rfl, HW.out, hb⟩
    · have hp : 0 < rest.length := List.length_pos_iff.2 hlt
      have CH := Lib.hid (head_any rest A c wr (HR.out.below hb) (by omega))
      have hstep := decAll_step rest hlt
      have hcl : rest.length ≤ c := by
        obtain ⟨A', c', e, hc, _⟩ := HR.out
        injection e with e1 e2 e3
        subst e3
        simpa [byteVals] using hc.1
      have hcut : ∀ k, k ≤ rest.length → Holds1 w (.slice (cutA A c k) (rest.drop k).length (c - k)) (byteVals (rest.drop k)) := fun k hk => by
        have := HR.out.cut hk
        rw [List.length_drop]
        simpa [byteVals] using this
      have hsz := hb.size
      have hroom' : (out.length + 1) * 4 ≤ 140737488355328 := by omega
      have h63 : out.length + 1 ≤ maxLen := by unfold maxLen; omega
      have HM := Lib.hid hroom'
      clear hroom'
      by_cases hf : isFull rest = true
      · obtain ⟨q1, q2, q3, q4, q5⟩ := full_facts hlt hf
        rw [q5] at hstep
        have HS := Lib.hid hstep
        have HC := Lib.hid (hcut _ q4)
        rw [q1] at CH
        have CV := Lib.hid (fun W (hW : Below wr.heap.size wr W) c' => value_of rest A c (headP rest).2 W ((HR.out.below hb).below hW) q2 q3 q4 c')
        clear hcut hstep q5 hf q1 hlt
        generalize (headP rest).2 = k at *
        generalize valN k (byteAt rest 0) (byteAt rest 1) (byteAt rest 2) (byteAt rest 3) = x at *
        have hk0 : (0 : Int) < (k : Int) := by omega
        rcases Decidable.em (c = k) with rfl | hck
        all_goals
          go_wp2_with (first
            | (go_at_call 63; refine (CH.out).mono ?_; rintro e w1 ⟨rfl, hd1⟩; have hb1 := hd1.below; clear hd1)
            | (go_at_call 64; refine (CV.out _ (by exact hb1) _).mono ?_; rintro e w2 ⟨rfl, hd2⟩; have hb2 := hd2.below; clear hd2)
            | (at_builtin; refine append_one w2 rfl _ _ 49 rfl w.heap.size 21 i0 (.int .i32 0) 4 Tryd.underlying49 hi hz0 hz1 hz2 rfl _ out.length (runeVals out) rfl (by exact own_below (own_below HW.out hb1) hb2) (.int .i32 x) rfl rfl h63 HM.out (Nat.le_trans hsz (Nat.le_trans hb1.size hb2.size)) ?_; intro v' w3 hown' hb3))
          go_roundw
          case rel => exact runes_step (A := A) (c := c) q2 hlen q4 (by omega) (by omega) (by simp [cutA, *]) HC.out HO.out HS.out hown' (hb.trans ((hb1.mono hsz).trans ((hb2.mono (Nat.le_trans hsz hb1.size)).trans hb3)))
          case measure => simp [lenOf]; omega
      · have hd := head_dec rest hlt
        rw [if_neg hf] at hd
        rw [hd] at hstep
        have HS := Lib.hid hstep
        have HC := Lib.hid (hcut 1 (by omega))
        have hno : ¬ ((headP rest).1 = (headP rest).2 ∧ 0 < (headP rest).2) := by simpa [isFull] using hf
        clear hcut hstep hd hf hlt
        generalize (headP rest).1 = a at *
        generalize (headP rest).2 = n at *
        by_cases hcase : a = n
        · have hn0 : n = 0 := by omega
          subst hcase hn0
          clear hno
          rcases Decidable.em (c = 1) with rfl | hck
          all_goals
            go_wp2_with (first
              | (go_at_call 63; refine (CH.out).mono ?_; rintro e w1 ⟨rfl, hd1⟩; have hb1 := hd1.below; clear hd1)
              | (at_builtin; refine append_one w1 rfl _ _ 49 rfl w.heap.size 21 i0 (.int .i32 0) 4 Tryd.underlying49 hi hz0 hz1 hz2 rfl _ out.length (runeVals out) rfl (by exact own_below HW.out hb1) (.int .i32 (65533 : Nat)) rfl rfl h63 HM.out (Nat.le_trans hsz hb1.size) ?_; intro v' w3 hown' hb3))
            go_roundw
            case rel => exact runes_step (A := A) (k := 1) (x := 65533) (by omega) hlen (by omega) (by omega) (by first | rfl | omega) (by simp [cutA, Addr.add, *]) HC.out HO.out HS.out hown' (hb.trans ((hb1.mono hsz).trans hb3))
            case measure => simp [lenOf]; omega
        · have hq : ((a : Int) == (n : Int)) = false := by rw [beq_eq_false_iff_ne]; omega
          clear hno
          rcases Decidable.em (c = 1) with rfl | hck
          all_goals
            go_wp2_with (first
              | (go_at_call 63; refine (CH.out).mono ?_; rintro e w1 ⟨rfl, hd1⟩; have hb1 := hd1.below; clear hd1)
              | (at_builtin; refine append_one w1 rfl _ _ 49 rfl w.heap.size 21 i0 (.int .i32 0) 4 Tryd.underlying49 hi hz0 hz1 hz2 rfl _ out.length (runeVals out) rfl (by exact own_below HW.out hb1) (.int .i32 (65533 : Nat)) rfl rfl h63 HM.out (Nat.le_trans hsz hb1.size) ?_; intro v' w3 hown' hb3))
            go_roundw
            case rel => exact runes_step (A := A) (k := 1) (x := 65533) (by omega) hlen (by omega) (by omega) (by first | rfl | omega) (by simp [cutA, Addr.add, *]) HC.out HO.out HS.out hown' (hb.trans ((hb1.mono hsz).trans hb3))
            case measure => simp [lenOf]; omega

end Go.Proofs.YtjoiagaadofndaaDoor
