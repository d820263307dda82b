/-
  What the document's own need, second and Head return, for every byte and every slice of bytes.
-/
import Derived.Test.YtjoiagaadofndaaDoorMem
import Derived.Deep.QuietTactic
import Derived.BigQuiet
namespace Go.Proofs.YtjoiagaadofndaaDoor
open Go.RowKit Go.Lib

def needP (b : Nat) : Nat := if b < 128 then 1 else if 194 ≤ b ∧ b ≤ 223 then 2 else if 224 ≤ b ∧ b ≤ 239 then 3 else if 240 ≤ b ∧ b ≤ 244 then 4 else 0
def loP (x : Nat) : Nat := if x = 224 then 160 else if x = 240 then 144 else 128
def hiP (x : Nat) : Nat := if x = 237 then 159 else if x = 244 then 143 else 191
def secP (x y : Nat) : Bool := decide (loP x ≤ y ∧ y ≤ hiP x)

set_option maxRecDepth 20000 in
theorem need_any (b : Nat) (w : World) :
    Calls Tryd.prog 78 #[.int .u8 b] w fun e w' => e = .returned (.int .i64 (needP b)) ∧ w = w' := by
  have hcases : (b < 128 ∧ needP b = 1) ∨ (128 ≤ b ∧ b < 194 ∧ needP b = 0) ∨ (194 ≤ b ∧ b ≤ 223 ∧ needP b = 2) ∨ (224 ≤ b ∧ b ≤ 239 ∧ needP b = 3) ∨ (240 ≤ b ∧ b ≤ 244 ∧ needP b = 4) ∨ (245 ≤ b ∧ needP b = 0) := by
    unfold needP
    repeat' split
    all_goals omega
  rcases hcases with ⟨h1, e⟩ | ⟨h1, h2, e⟩ | ⟨h1, h2, e⟩ | ⟨h1, h2, e⟩ | ⟨h1, h2, e⟩ | ⟨h1, e⟩
  all_goals
    rw [e]
    clear e
    go_enter Tryd.func78, Tryd.ntmps78
    go_wp2
    go_ret
    exact ⟨rfl, rfl⟩

theorem second_any (x y : Nat) (w : World) :
    Calls Tryd.prog 79 #[.int .u8 x, .int .u8 y] w fun e w' => e = .returned (.bool (secP x y)) ∧ w = w' := by
  have hd : ∀ (lo hi : Nat), loP x = lo → hiP x = hi → secP x y = (decide (lo ≤ y) && decide (y ≤ hi)) := fun lo hi h1 h2 => by
    unfold secP
    rw [h1, h2, Bool.eq_iff_iff]
    simp
  by_cases h224 : x = 224
  · subst h224
    rw [hd 160 191 rfl rfl]
    clear hd
    rcases (show y < 160 ∨ (160 ≤ y ∧ y ≤ 191) ∨ (160 ≤ y ∧ 191 < y) by omega) with g1 | ⟨g1, g2⟩ | ⟨g1, g2⟩
    all_goals
      go_enter Tryd.func79, Tryd.ntmps79
      go_wp2
      go_ret
      exact ⟨ret_bool (by rw [Bool.eq_iff_iff]; simp; omega), rfl⟩
  · by_cases h237 : x = 237
    · subst h237
      rw [hd 128 159 rfl rfl]
      clear hd
      rcases (show y < 128 ∨ (128 ≤ y ∧ y ≤ 159) ∨ (128 ≤ y ∧ 159 < y) by omega) with g1 | ⟨g1, g2⟩ | ⟨g1, g2⟩
      all_goals
        go_enter Tryd.func79, Tryd.ntmps79
        go_wp2
        go_ret
        exact ⟨ret_bool (by rw [Bool.eq_iff_iff]; simp; omega), rfl⟩
    · by_cases h240 : x = 240
      · subst h240
        rw [hd 144 191 rfl rfl]
        clear hd
        rcases (show y < 144 ∨ (144 ≤ y ∧ y ≤ 191) ∨ (144 ≤ y ∧ 191 < y) by omega) with g1 | ⟨g1, g2⟩ | ⟨g1, g2⟩
        all_goals
          go_enter Tryd.func79, Tryd.ntmps79
          go_wp2
          go_ret
          exact ⟨ret_bool (by rw [Bool.eq_iff_iff]; simp; omega), rfl⟩
      · by_cases h244 : x = 244
        · subst h244
          rw [hd 128 143 rfl rfl]
          clear hd
          rcases (show y < 128 ∨ (128 ≤ y ∧ y ≤ 143) ∨ (128 ≤ y ∧ 143 < y) by omega) with g1 | ⟨g1, g2⟩ | ⟨g1, g2⟩
          all_goals
            go_enter Tryd.func79, Tryd.ntmps79
            go_wp2
            go_ret
            exact ⟨ret_bool (by rw [Bool.eq_iff_iff]; simp; omega), rfl⟩
        · rw [hd 128 191 (by simp [loP, h224, h240]) (by simp [hiP, h237, h244])]
          have b1 : ((x : Int) == 224) = false := by rw [beq_eq_false_iff_ne]; omega
          have b2 : ((x : Int) == 237) = false := by rw [beq_eq_false_iff_ne]; omega
          have b3 : ((x : Int) == 240) = false := by rw [beq_eq_false_iff_ne]; omega
          have b4 : ((x : Int) == 244) = false := by rw [beq_eq_false_iff_ne]; omega
          clear hd h224 h237 h240 h244
          rcases (show y < 128 ∨ (128 ≤ y ∧ y ≤ 191) ∨ (128 ≤ y ∧ 191 < y) by omega) with g1 | ⟨g1, g2⟩ | ⟨g1, g2⟩
          all_goals
            go_enter Tryd.func79, Tryd.ntmps79
            go_wp2
            go_ret
            exact ⟨ret_bool (by rw [Bool.eq_iff_iff]; simp; omega), rfl⟩

theorem second_quiet (x y : Nat) (z : Bool) (hz : secP x y = z) (w : World) (n : Nat) :
    Calls Tryd.prog 79 #[.int .u8 x, .int .u8 y] (w.drewN n) fun e w'' => e = .returned (.bool z) ∧ ∃ m, w'' = w.drewN m :=
  (second_any x y (w.drewN n)).mono fun _ _ ⟨he, hw⟩ => ⟨by rw [he, hz], n, hw.symm⟩

/-- a byte that does not go on with a form -/
def badAt (s : List UInt8) (h : Nat) : Bool := (decide (h = 1) && !secP (byteAt s 0) (byteAt s 1)) || decide (byteAt s h < 128) || decide (191 < byteAt s h)
def headFrom (s : List UInt8) (n : Nat) : Nat → Nat → Nat × Nat
  | 0, h => (h, n)
  | f + 1, h => if h < n ∧ h < s.length then (if badAt s h = true then (0, n) else headFrom s n f (h + 1)) else (h, n)
/-- how many bytes of a form stand at the beginning, and how many the form has -/
def headP (s : List UInt8) : Nat × Nat := if s.length = 0 then (0, 0) else if needP (byteAt s 0) = 0 then (0, 0) else headFrom s (needP (byteAt s 0)) (needP (byteAt s 0)) 1

/-- only draws have been made -/
def Drawn (w wr : World) : Prop := ∃ m, wr = w.drewN m
theorem Drawn.more {w wr : World} (h : Drawn w wr) (n : Nat) : Drawn w (wr.drewN n) := by
  obtain ⟨m, rfl⟩ := h
  exact ⟨m + n, by rw [World.drewN_drewN]⟩
theorem Drawn.below {w wr : World} (h : Drawn w wr) : Below w.heap.size w wr := by
  obtain ⟨m, rfl⟩ := h
  exact ⟨rfl, rfl, rfl, Nat.le_refl _, fun _ _ => rfl⟩
theorem ret_pair {a b c d : Int} (h1 : a = c) (h2 : b = d) : Ending.returned (.tuple #[.int .i64 a, .int .i64 b]) = .returned (.tuple #[.int .i64 c, .int .i64 d]) := by rw [h1, h2]
theorem needP_le (b : Nat) : needP b ≤ 4 := by
  unfold needP
  repeat' split
  all_goals omega
theorem secP_in {x y : Nat} (h : secP x y = true) : 128 ≤ y ∧ y ≤ 191 := by
  simp only [secP, decide_eq_true_eq] at h
  obtain ⟨h1, h2⟩ := h
  unfold loP at h1
  unfold hiP at h2
  constructor
  · split at h1
    · omega
    · split at h1 <;> omega
  · split at h2
    · omega
    · split at h2 <;> omega

set_option maxRecDepth 100000 in
set_option maxHeartbeats 2000000 in
theorem head_any (s : List UInt8) (A : Option Addr) (c : Nat) (w : World) (hv : Holds1 w (.slice A s.length c) (byteVals s)) (hl : s.length ≤ 4611686018427387904) :
    Calls Tryd.prog 63 #[.slice A s.length c] w fun e w' => e = .returned (.tuple #[.int .i64 (headP s).1, .int .i64 (headP s).2]) ∧ Drawn w w' := by
  by_cases h0 : s.length = 0
  · have e : headP s = (0, 0) := by simp [headP, h0]
    rw [e, h0]
    clear e hv
    go_enter Tryd.func63, Tryd.ntmps63
    go_wp2
    go_ret2
    exact ⟨rfl, 0, rfl⟩
  · obtain ⟨A', c', e, hc, h⟩ := hv
    injection e with e1 e2 e3
    subst e1 e3
    obtain ⟨b, off, rfl, hlt, hcell⟩ := h (by simp [byteVals]; omega)
    have hat : ∀ j, j < s.length → w.cell? ⟨b, off + j, none⟩ = some (.int .u8 (byteAt s j)) := fun j hj => hcell j _ (by simp [byteVals, byteAt, hj])
    clear h hcell hc
    have hs0 : w.cell? ⟨b, off, none⟩ = some (.int .u8 (byteAt s 0)) := hat 0 (by omega)
    have hz : ((s.length : Int) == 0) = false := by rw [beq_eq_false_iff_ne]; omega
    have CN := Lib.hid (need_any (byteAt s 0) w)
    have hn4 := needP_le (byteAt s 0)
    by_cases hn0 : needP (byteAt s 0) = 0
    · have e : headP s = (0, 0) := by simp [headP, h0, hn0]
      rw [e]
      rw [hn0] at CN
      clear e hn0 hn4
      generalize byteAt s 0 = b0 at *
      go_enter Tryd.func63, Tryd.ntmps63
      go_wp2_with (go_at_call 78; refine (CN.out).mono ?_; rintro e w' ⟨rfl, rfl⟩)
      go_ret2
      exact ⟨rfl, 0, rfl⟩
    · have e : headP s = headFrom s (needP (byteAt s 0)) (needP (byteAt s 0)) 1 := by simp [headP, h0, hn0]
      rw [e]
      have HB := Lib.hid (show ∀ h, badAt s h = ((decide (h = 1) && !secP (byteAt s 0) (byteAt s 1)) || decide (byteAt s h < 128) || decide (191 < byteAt s h)) from fun _ => rfl)
      have HAT := Lib.hid hat
      clear e hat
      generalize hN : needP (byteAt s 0) = N at *
      have hNz : ((N : Int) == 0) = false := by rw [beq_eq_false_iff_ne]; omega
      clear hN
      go_enter Tryd.func63, Tryd.ntmps63
      go_wp2_with (go_at_call 78; refine (CN.out).mono ?_; rintro e w' ⟨rfl, rfl⟩)
      go_loopw [5] (fun i wr => ∃ h f : Nat, 1 ≤ h ∧ h ≤ N ∧ h ≤ s.length ∧ N ≤ f + h ∧ i = .int .i64 h ∧ headFrom s N f h = headFrom s N N 1 ∧ Drawn w wr) (fun i _ => 4 - (RowKit.intOf i).toNat)
      case atStart => exact ⟨1, N, by omega, by omega, by omega, by omega, rfl, rfl, 0, rfl⟩
      case round =>
        obtain ⟨h, f, hh1, hhN, hhl, hf, rfl, hfrom, hdr⟩ := hrel
        have HF := Lib.hid hfrom
        have HD := Lib.hid hdr
        clear hfrom hdr
        by_cases hgo : h < N ∧ h < s.length
        · obtain ⟨g1, g2⟩ := hgo
          obtain ⟨f', rfl⟩ : ∃ f', f = f' + 1 := ⟨f - 1, by omega⟩
          have hstep : headFrom s N (f' + 1) h = if badAt s h = true then (0, N) else headFrom s N f' (h + 1) := by simp only [headFrom]; rw [if_pos ⟨g1, g2⟩]
          have HS := Lib.hid hstep
          have hx := HB.out h
          have hch : wr.cell? ⟨b, off + h, none⟩ = some (.int .u8 (byteAt s h)) := (HD.out.below.cell (p := ⟨b, off + h, none⟩) hlt).trans (HAT.out h g2)
          have hc0 : wr.cell? ⟨b, off, none⟩ = some (.int .u8 (byteAt s 0)) := (HD.out.below.cell (p := ⟨b, off, none⟩) hlt).trans hs0
          clear hstep
          have hend : badAt s h = false → headFrom s N f' (h + 1) = headFrom s N N 1 := fun hb => by rw [← HF.out, HS.out, hb]; rfl
          have hbad : badAt s h = true → headFrom s N N 1 = (0, N) := fun hb => by rw [← HF.out, HS.out, hb]; rfl
          have HE := Lib.hid hend
          have HZ := Lib.hid hbad
          clear hend hbad HS HF
          by_cases h1 : h = 1
          · subst h1
            generalize byteAt s 0 = b0 at *
            generalize byteAt s 1 = b1 at *
            cases hsec : secP b0 b1
            · rw [hsec] at hx
              have HR := Lib.hid (HZ.out (by rw [hx]; rfl))
              have CS := Lib.hid (second_quiet b0 b1 false hsec wr)
              clear hx hsec HE HZ HB HAT CN
              go_wp2
              go_quiet ((go_at_call 79; exact CS.out _))
              go_wp2
              go_ret2
              rw [HR.out]
              exact ⟨rfl, HD.out.more _⟩
            · have hin := secP_in hsec
              rw [hsec] at hx
              have HR := Lib.hid (HE.out (by rw [hx]; simp; omega))
              have CS := Lib.hid (second_quiet b0 b1 true hsec wr)
              have q1 : decide ((b1 : Int) < 128) = false := by simp; omega
              have q2 : decide ((191 : Int) < (b1 : Int)) = false := by simp; omega
              clear hx hsec HE HZ HB HAT CN
              go_wp2
              go_quiet ((go_at_call 79; exact CS.out _))
              go_wp2
              go_roundw
              case rel => exact ⟨2, f', by omega, by omega, by omega, by omega, rfl, HR.out, HD.out.more _⟩
              case measure => simp [RowKit.intOf]
          · have e1 : ((h : Int) == 1) = false := by rw [beq_eq_false_iff_ne]; omega
            have d1 : decide (h = 1) = false := by simp [h1]
            rw [d1] at hx
            generalize byteAt s h = bh at *
            clear d1 h1
            rcases (show bh < 128 ∨ (128 ≤ bh ∧ bh ≤ 191) ∨ (128 ≤ bh ∧ 191 < bh) by omega) with q | ⟨q, q'⟩ | ⟨q, q'⟩
            · have q1 : decide ((bh : Int) < 128) = true := by simp; omega
              have HR := Lib.hid (HZ.out (by rw [hx]; simp; omega))
              clear hx HE HZ HB HAT CN
              go_wp2
              go_quiet (fail)
              go_wp2
              go_ret2
              rw [HR.out]
              exact ⟨rfl, HD.out.more _⟩
            · have q1 : decide ((bh : Int) < 128) = false := by simp; omega
              have q2 : decide ((191 : Int) < (bh : Int)) = false := by simp; omega
              have HR := Lib.hid (HE.out (by rw [hx]; simp; omega))
              clear hx HE HZ HB HAT CN
              go_wp2
              go_quiet (fail)
              go_wp2
              go_roundw
              case rel => exact ⟨h + 1, f', by omega, by omega, by omega, by omega, by go_num, HR.out, HD.out.more _⟩
              case measure => simp [RowKit.intOf]; omega
            · have q1 : decide ((bh : Int) < 128) = false := by simp; omega
              have q2 : decide ((191 : Int) < (bh : Int)) = true := by simp; omega
              have HR := Lib.hid (HZ.out (by rw [hx]; simp; omega))
              clear hx HE HZ HB HAT CN
              go_wp2
              go_quiet (fail)
              go_wp2
              go_ret2
              rw [HR.out]
              exact ⟨rfl, HD.out.more _⟩
        · have hstop : headFrom s N f h = (h, N) := by cases f with | zero => rfl | succ f => simp only [headFrom]; rw [if_neg hgo]
          have hv : headFrom s N N 1 = (h, N) := by rw [← HF.out, hstop]
          have HV := Lib.hid hv
          clear hstop hv
          rcases Nat.lt_or_ge h N with g1 | g1
          · have g2 : ¬ h < s.length := by omega
            clear hgo
            go_wp2
            go_ret2
            rw [HV.out]
            exact ⟨rfl, HD.out⟩
          · clear hgo
            go_wp2
            go_ret2
            rw [HV.out]
            exact ⟨rfl, HD.out⟩

end Go.Proofs.YtjoiagaadofndaaDoor
