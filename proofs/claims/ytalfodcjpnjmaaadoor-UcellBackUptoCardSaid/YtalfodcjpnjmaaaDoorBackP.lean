/-
  Plain lemmas: runes that are written as bytes and read again are these. No program is walked here, and nothing is assumed.
-/
import Derived.Test.YtalfodcjpnjmaaaDoorBytes
namespace Go.Proofs.YtalfodcjpnjmaaaDoor
open Go.Lib

theorem u8_nat (x : Int) (h0 : 0 ≤ x) (h1 : x < 256) : (x.toNat.toUInt8).toNat = x.toNat := by
  show (UInt8.ofNat x.toNat).toNat = x.toNat
  rw [UInt8.toNat_ofNat']
  omega
theorem decodeN_enc2 (n : Nat) (r : Int) (b2 b3 : Nat) (h0 : 128 ≤ r) (h1 : r ≤ 2047) (hn : 2 ≤ n) : decodeN n (192 + r / 64).toNat (128 + r % 64).toNat b2 b3 = (r.toNat, 2) := by
  obtain ⟨m, rfl⟩ := Int.eq_ofNat_of_zero_le (show 0 ≤ r by omega)
  unfold decodeN
  repeat' split
  all_goals first | (exfalso; omega) | (apply Prod.ext <;> simp only <;> omega)
theorem decodeN_enc3 (n : Nat) (r : Int) (b3 : Nat) (h : (2048 ≤ r ∧ r < 55296) ∨ (57343 < r ∧ r ≤ 65535)) (hn : 3 ≤ n) : decodeN n (224 + r / 4096).toNat (128 + r / 64 % 64).toNat (128 + r % 64).toNat b3 = (r.toNat, 3) := by
  obtain ⟨m, rfl⟩ := Int.eq_ofNat_of_zero_le (show 0 ≤ r by omega)
  unfold decodeN
  repeat' split
  all_goals first | (exfalso; omega) | (apply Prod.ext <;> simp only <;> omega)
theorem decodeN_enc4 (n : Nat) (r : Int) (h0 : 65536 ≤ r) (h1 : r ≤ 1114111) (hn : 4 ≤ n) : decodeN n (240 + r / 262144).toNat (128 + r / 4096 % 64).toNat (128 + r / 64 % 64).toNat (128 + r % 64).toNat = (r.toNat, 4) := by
  obtain ⟨m, rfl⟩ := Int.eq_ofNat_of_zero_le (show 0 ≤ r by omega)
  unfold decodeN
  repeat' split
  all_goals first | (exfalso; omega) | (apply Prod.ext <;> simp only <;> omega)

theorem dec_enc (r : Int) (t : List UInt8) (hv : vld r = true) : dec (encodeRune r ++ t) = (r.toNat, (encodeRune r).length) := by
  have hr : 0 ≤ r ∧ r < 55296 ∨ 57343 < r ∧ r ≤ 1114111 := by simpa [vld] using hv
  rcases (show (0 ≤ r ∧ r ≤ 127) ∨ (128 ≤ r ∧ r ≤ 2047) ∨ (2048 ≤ r ∧ r ≤ 65535) ∨ (65536 ≤ r ∧ r ≤ 1114111) by omega) with ⟨g0, g1⟩ | ⟨g0, g1⟩ | ⟨g0, g1⟩ | ⟨g0, g1⟩
  · have e : encodeRune r = [r.toNat.toUInt8] := by rw [encodeRune, encodeRuneZ_one g0 g1]; rfl
    rw [e]
    have hb := u8_nat r g0 (by omega)
    have hlt : r.toNat < 128 := by omega
    simp only [dec, byteAt, List.cons_append, List.nil_append, List.getD_cons_zero, hb]
    simp [decodeN, hlt]
  · have e : encodeRune r = [(192 + r / 64).toNat.toUInt8, (128 + r % 64).toNat.toUInt8] := by rw [encodeRune, encodeRuneZ_two g0 g1]; rfl
    rw [e]
    have ha := u8_nat (192 + r / 64) (by omega) (by omega)
    have hb := u8_nat (128 + r % 64) (by omega) (by omega)
    simp only [dec, byteAt, List.cons_append, List.nil_append, List.getD_cons_zero, List.getD_cons_succ, ha, hb, List.length_cons]
    exact decodeN_enc2 _ r _ _ g0 g1 (by omega)
  · have e : encodeRune r = [(224 + r / 4096).toNat.toUInt8, (128 + r / 64 % 64).toNat.toUInt8, (128 + r % 64).toNat.toUInt8] := by rw [encodeRune, encodeRuneZ_three (by omega)]; rfl
    rw [e]
    have ha := u8_nat (224 + r / 4096) (by omega) (by omega)
    have hb := u8_nat (128 + r / 64 % 64) (by omega) (by omega)
    have hc := u8_nat (128 + r % 64) (by omega) (by omega)
    simp only [dec, byteAt, List.cons_append, List.nil_append, List.getD_cons_zero, List.getD_cons_succ, ha, hb, hc, List.length_cons]
    exact decodeN_enc3 _ r _ (by omega) (by omega)
  · have e : encodeRune r = [(240 + r / 262144).toNat.toUInt8, (128 + r / 4096 % 64).toNat.toUInt8, (128 + r / 64 % 64).toNat.toUInt8, (128 + r % 64).toNat.toUInt8] := by rw [encodeRune, encodeRuneZ_four g0 g1]; rfl
    rw [e]
    have ha := u8_nat (240 + r / 262144) (by omega) (by omega)
    have hb := u8_nat (128 + r / 4096 % 64) (by omega) (by omega)
    have hc := u8_nat (128 + r / 64 % 64) (by omega) (by omega)
    have hd := u8_nat (128 + r % 64) (by omega) (by omega)
    simp only [dec, byteAt, List.cons_append, List.nil_append, List.getD_cons_zero, List.getD_cons_succ, ha, hb, hc, hd, List.length_cons]
    exact decodeN_enc4 _ r g0 g1 (by omega)

/-- THERE AND BACK -/
theorem back_all (l : List Int) (h : ∀ z ∈ l, vld z = true) : decAll (encAll l) = l := by
  induction l with
  | nil => rfl
  | cons r l ih =>
    have hr := h r List.mem_cons_self
    have h0 : 0 ≤ r := by have : 0 ≤ r ∧ r < 55296 ∨ 57343 < r ∧ r ≤ 1114111 := by simpa [vld] using hr
                          omega
    have hne : encodeRune r ++ encAll l ≠ [] := by
      have := (enc_len r).1
      intro e
      have h2 : (encodeRune r ++ encAll l).length = 0 := by rw [e]; rfl
      rw [List.length_append] at h2
      omega
    have e : encAll (r :: l) = encodeRune r ++ encAll l := by simp [encAll]
    rw [e, decAll_step _ hne, dec_enc r _ hr]
    simp only [List.drop_left]
    rw [ih fun z hz => h z (List.mem_cons_of_mem _ hz)]
    congr 1
    omega

theorem decodeN_vld (n b0 b1 b2 b3 : Nat) (h0 : b0 < 256) (h1 : b1 < 256) : vld ((decodeN n b0 b1 b2 b3).1 : Int) = true := by
  unfold decodeN vld
  simp only [decide_eq_true_eq]
  repeat' split
  all_goals simp only
  all_goals omega
theorem decAll_vld (n : Nat) : ∀ s : List UInt8, s.length ≤ n → ∀ x ∈ decAll s, vld x = true := by
  induction n with
  | zero =>
    intro s hs x hx
    obtain rfl : s = [] := List.eq_nil_of_length_eq_zero (by omega)
    simp [decAll, decF] at hx
  | succ n ih =>
    intro s hs x hx
    by_cases h : s = []
    · subst h; simp [decAll, decF] at hx
    · have hb := dec_bounds s h
      rw [decAll_step s h] at hx
      rcases List.mem_cons.1 hx with rfl | hx
      · exact decodeN_vld _ _ _ _ _ (byteAt_lt s 0) (byteAt_lt s 1)
      · exact ih (s.drop (dec s).2) (by simp; omega) x hx
theorem back_some (s : List UInt8) : decAll (encAll (decAll s)) = decAll s := back_all _ (decAll_vld s.length s (Nat.le_refl _))
theorem vld_range {z : Int} (h : vld z = true) : -2147483648 ≤ z ∧ z ≤ 2147483647 := by
  have : 0 ≤ z ∧ z < 55296 ∨ 57343 < z ∧ z ≤ 1114111 := by simpa [vld] using h
  omega

end Go.Proofs.YtalfodcjpnjmaaaDoor
