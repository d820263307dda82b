/-
  A text of runes as a string, and its bytes.
-/
import Derived.Test.YtmmlaaigcnkomaaDoorVpEnc
import Derived.Test.YtmmlaaigcnkomaaDoorVpSame
import Derived.Laws.Cover4
import Derived.Lib.ConvBytes
namespace Go.Proofs.YtmmlaaigcnkomaaDoor
open Go.RowKit Go.Shelf Go.Lib

theorem encode_eq {r : Int} (hv : vld r = true) : Utf8.encode r = ⟨(encodeRune r).toArray⟩ := by
  have hr : 0 ≤ r ∧ r < 55296 ∨ 57343 < r ∧ r ≤ 1114111 := by simpa [vld] using hv
  have hval : Utf8.valid r = true := by simp [Utf8.valid]; omega
  obtain ⟨n, rfl⟩ := Int.eq_ofNat_of_zero_le (show 0 ≤ r by omega)
  rcases (show ((n : Int) ≤ 127) ∨ (128 ≤ (n : Int) ∧ (n : Int) ≤ 2047) ∨ (2048 ≤ (n : Int) ∧ (n : Int) ≤ 65535) ∨ (65536 ≤ (n : Int) ∧ (n : Int) ≤ 1114111) by omega) with g1 | ⟨g0, g1⟩ | ⟨g0, g1⟩ | ⟨g0, g1⟩
  · have e : encodeRune (n : Int) = [(n : Int).toNat.toUInt8] := by rw [encodeRune, encodeRuneZ_one (by omega) g1]; rfl
    rw [e]
    unfold Utf8.encode
    simp only [hval, if_true, Int.toNat_natCast]
    rw [if_pos (by omega)]
  · have e : encodeRune (n : Int) = [(192 + (n : Int) / 64).toNat.toUInt8, (128 + (n : Int) % 64).toNat.toUInt8] := by rw [encodeRune, encodeRuneZ_two g0 g1]; rfl
    rw [e]
    unfold Utf8.encode
    simp only [hval, if_true, Int.toNat_natCast]
    rw [if_neg (by omega), if_pos (by omega), show (192 + (n : Int) / 64).toNat = 0xC0 + n / 64 by omega, show (128 + (n : Int) % 64).toNat = 0x80 + n % 64 by omega]
  · have e : encodeRune (n : Int) = [(224 + (n : Int) / 4096).toNat.toUInt8, (128 + (n : Int) / 64 % 64).toNat.toUInt8, (128 + (n : Int) % 64).toNat.toUInt8] := by rw [encodeRune, encodeRuneZ_three (by omega)]; rfl
    rw [e]
    unfold Utf8.encode
    simp only [hval, if_true, Int.toNat_natCast]
    rw [if_neg (by omega), if_neg (by omega), if_pos (by omega), show (224 + (n : Int) / 4096).toNat = 0xE0 + n / 4096 by omega, show (128 + (n : Int) / 64 % 64).toNat = 0x80 + n / 64 % 64 by omega, show (128 + (n : Int) % 64).toNat = 0x80 + n % 64 by omega]
  · have e : encodeRune (n : Int) = [(240 + (n : Int) / 262144).toNat.toUInt8, (128 + (n : Int) / 4096 % 64).toNat.toUInt8, (128 + (n : Int) / 64 % 64).toNat.toUInt8, (128 + (n : Int) % 64).toNat.toUInt8] := by rw [encodeRune, encodeRuneZ_four g0 g1]; rfl
    rw [e]
    unfold Utf8.encode
    simp only [hval, if_true, Int.toNat_natCast]
    rw [if_neg (by omega), if_neg (by omega), if_neg (by omega), show (240 + (n : Int) / 262144).toNat = 0xF0 + n / 262144 by omega, show (128 + (n : Int) / 4096 % 64).toNat = 0x80 + n / 4096 % 64 by omega, show (128 + (n : Int) / 64 % 64).toNat = 0x80 + n / 64 % 64 by omega, show (128 + (n : Int) % 64).toNat = 0x80 + n % 64 by omega]
theorem runes_bytes (l : List Int) (h : ∀ r ∈ l, vld r = true) : ∀ s : ByteArray, l.foldl (fun r n => r ++ Utf8.encode n) s = s ++ ⟨(encAll l).toArray⟩ := by
  induction l with
  | nil => intro s; apply ByteArray.ext; simp [encAll]
  | cons r l ih =>
    intro s
    rw [List.foldl_cons, ih (fun x hx => h x (List.mem_cons_of_mem _ hx)), encode_eq (h r (by simp))]
    apply ByteArray.ext
    have e : encAll (r :: l) = encodeRune r ++ encAll l := rfl
    rw [e]
    simp
/-- the string of a row of runes -/
theorem text_run {w : World} {B : Nat} {v : Value} {l : List Int} (h : w.ownsRow B 21 1 v l.length (runeVals l)) (hv : ∀ r ∈ l, vld r = true) : (convert 49 9 v).run Tryd.prog w = .ok (str (encAll l)) w := by
  rcases Holds1.of_own h with ⟨A, c, rfl, ⟨_, hn⟩, hc⟩
  have hl : (runeVals l).length = l.length := by simp [runeVals]
  rw [hl] at hc ⊢
  cases A with
  | none =>
    rw [run_convert_runes_nil (P := Tryd.prog) w 49 9 21 _ _ Tryd.underlying49 Tryd.underlying21 Tryd.underlying9]
    have : l = [] := by
      rcases h.2 with ⟨_, h0⟩ | ⟨g, cap, cur, e, _⟩
      · exact List.eq_nil_of_length_eq_zero h0
      · cases e
    subst this
    rfl
  | some a =>
    have hr := run_convert_runes (P := Tryd.prog) w 49 9 21 a l.length c l (Nat.le_refl _) Tryd.underlying49 Tryd.underlying21 Tryd.underlying9 (fun j hj => by
      obtain ⟨b, off, e, _, hcell⟩ := hc (by omega)
      injection e with e
      subst e
      rw [add_off]
      exact hcell j _ (by simp [runeVals, List.getD, List.getElem?_eq_getElem hj]))
    rw [hr, List.take_length]
    have := runes_bytes l hv ByteArray.empty
    unfold runesBytes
    rw [this]
    congr 2
/-- the bytes of a string -/
theorem bytes_run (w : World) (t : List UInt8) : ∃ c w', (convert 9 22 (str t)).run Tryd.prog w = .ok (.slice (some ⟨w.heap.size, 0, none⟩) t.length c) w' ∧ Holds1 w' (.slice (some ⟨w.heap.size, 0, none⟩) t.length c) (byteVals t) ∧ Below w.heap.size w w' := by
  have hsz : (⟨t.toArray⟩ : ByteArray).size = t.length := by simp [ByteArray.size]
  have hr := Lib.run_convert_string_bytes (P := Tryd.prog) w 9 22 5 ⟨t.toArray⟩ Tryd.underlying9 Tryd.underlying22 Tryd.underlying5
  rw [hsz] at hr
  refine ⟨_, _, hr, ⟨_, _, by rw [byteVals_length], ⟨?_, fun h => by cases h⟩, fun hp => ⟨w.heap.size, 0, rfl, by rw [bytesWorld_size]; omega, fun j u hu => ?_⟩⟩, rfl, rfl, rfl, by rw [bytesWorld_size]; omega, fun k hk => bytesWorld_at_old w _ _ k hk⟩
  · rw [byteVals_length]
    exact grownCap_ge w _ _ _
  · have hj : j < t.length := by
      have := (List.getElem?_eq_some_iff.1 hu).1
      rwa [byteVals_length] at this
    rw [Nat.zero_add, bytesWorld_cell w _ _ j (by rw [hsz]; exact hj), ← hu]
    simp [byteVals, List.getD, hj]
end Go.Proofs.YtmmlaaigcnkomaaDoor
