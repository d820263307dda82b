/-
  Plain lemmas: the bytes of a rune tell it, and nothing else. No program is spoken of here, and nothing is assumed.
-/
import Derived.Test.YtmmlaaigcnkomaaDoorVpCancelP
import Derived.Test.YtmmlaaigcnkomaaDoorStreamP
import Derived.Test.YtmmlaaigcnkomaaDoorPlain
import Derived.Lib.RuneBytes
namespace Go.Proofs.YtmmlaaigcnkomaaDoor
open Go.Lib

/-- the bytes of runes -/
def encAll (l : List Int) : List UInt8 := l.flatMap Lib.encodeRune
theorem enc_len (r : Int) : 1 ≤ (Lib.encodeRune r).length ∧ (Lib.encodeRune r).length ≤ 4 := by
  have := Lib.runeCells_le r
  rw [Lib.runeCells_length] at this
  exact this
theorem encAll_len (l : List Int) : (encAll l).length ≤ 4 * l.length := by
  induction l with
  | nil => simp [encAll]
  | cons r l ih =>
    have := (enc_len r).2
    simp only [encAll, List.flatMap_cons, List.length_append, List.length_cons] at ih ⊢
    omega
theorem encAll_snoc (l : List Int) (r : Int) : encAll (l ++ [r]) = encAll l ++ Lib.encodeRune r := by simp [encAll]

theorem u8_nat (x : Int) (h0 : 0 ≤ x) (h1 : x < 256) : (x.toNat.toUInt8).toNat = x.toNat := by
  show (UInt8.ofNat x.toNat).toNat = x.toNat
  rw [UInt8.toNat_ofNat']
  omega
theorem decodeN_enc2 (n : Nat) (r : Int) (b2 b3 : Nat) (h0 : 128 ≤ r) (h1 : r ≤ 2047) (hn : 2 ≤ n) : decodeN n (192 + r / 64).toNat (128 + r % 64).toNat b2 b3 = (r.toNat, 2) := by
  obtain ⟨m, rfl⟩ := Int.eq_ofNat_of_zero_le (show 0 ≤ r by omega)
  unfold decodeN
  repeat' split
  all_goals first | (exfalso; omega) | (apply Prod.ext <;> simp only <;> omega)
theorem decodeN_enc3 (n : Nat) (r : Int) (b3 : Nat) (h : (2048 ≤ r ∧ r < 55296) ∨ (57343 < r ∧ r ≤ 65535)) (hn : 3 ≤ n) : decodeN n (224 + r / 4096).toNat (128 + r / 64 % 64).toNat (128 + r % 64).toNat b3 = (r.toNat, 3) := by
  obtain ⟨m, rfl⟩ := Int.eq_ofNat_of_zero_le (show 0 ≤ r by omega)
  unfold decodeN
  repeat' split
  all_goals first | (exfalso; omega) | (apply Prod.ext <;> simp only <;> omega)
theorem decodeN_enc4 (n : Nat) (r : Int) (h0 : 65536 ≤ r) (h1 : r ≤ 1114111) (hn : 4 ≤ n) : decodeN n (240 + r / 262144).toNat (128 + r / 4096 % 64).toNat (128 + r / 64 % 64).toNat (128 + r % 64).toNat = (r.toNat, 4) := by
  obtain ⟨m, rfl⟩ := Int.eq_ofNat_of_zero_le (show 0 ≤ r by omega)
  unfold decodeN
  repeat' split
  all_goals first | (exfalso; omega) | (apply Prod.ext <;> simp only <;> omega)

theorem dec_enc (r : Int) (t : List UInt8) (hv : vld r = true) : dec (encodeRune r ++ t) = (r.toNat, (encodeRune r).length) := by
  have hr : 0 ≤ r ∧ r < 55296 ∨ 57343 < r ∧ r ≤ 1114111 := by simpa [vld] using hv
  rcases (show (0 ≤ r ∧ r ≤ 127) ∨ (128 ≤ r ∧ r ≤ 2047) ∨ (2048 ≤ r ∧ r ≤ 65535) ∨ (65536 ≤ r ∧ r ≤ 1114111) by omega) with ⟨g0, g1⟩ | ⟨g0, g1⟩ | ⟨g0, g1⟩ | ⟨g0, g1⟩
  · have e : encodeRune r = [r.toNat.toUInt8] := by rw [encodeRune, encodeRuneZ_one g0 g1]; rfl
    rw [e]
    have hb := u8_nat r g0 (by omega)
    have hlt : r.toNat < 128 := by omega
    simp only [dec, byteAt, List.cons_append, List.nil_append, List.getD_cons_zero, hb]
    simp [decodeN, hlt]
  · have e : encodeRune r = [(192 + r / 64).toNat.toUInt8, (128 + r % 64).toNat.toUInt8] := by rw [encodeRune, encodeRuneZ_two g0 g1]; rfl
    rw [e]
    have ha := u8_nat (192 + r / 64) (by omega) (by omega)
    have hb := u8_nat (128 + r % 64) (by omega) (by omega)
    simp only [dec, byteAt, List.cons_append, List.nil_append, List.getD_cons_zero, List.getD_cons_succ, ha, hb, List.length_cons]
    exact decodeN_enc2 _ r _ _ g0 g1 (by omega)
  · have e : encodeRune r = [(224 + r / 4096).toNat.toUInt8, (128 + r / 64 % 64).toNat.toUInt8, (128 + r % 64).toNat.toUInt8] := by rw [encodeRune, encodeRuneZ_three (by omega)]; rfl
    rw [e]
    have ha := u8_nat (224 + r / 4096) (by omega) (by omega)
    have hb := u8_nat (128 + r / 64 % 64) (by omega) (by omega)
    have hc := u8_nat (128 + r % 64) (by omega) (by omega)
    simp only [dec, byteAt, List.cons_append, List.nil_append, List.getD_cons_zero, List.getD_cons_succ, ha, hb, hc, List.length_cons]
    exact decodeN_enc3 _ r _ (by omega) (by omega)
  · have e : encodeRune r = [(240 + r / 262144).toNat.toUInt8, (128 + r / 4096 % 64).toNat.toUInt8, (128 + r / 64 % 64).toNat.toUInt8, (128 + r % 64).toNat.toUInt8] := by rw [encodeRune, encodeRuneZ_four g0 g1]; rfl
    rw [e]
    have ha := u8_nat (240 + r / 262144) (by omega) (by omega)
    have hb := u8_nat (128 + r / 4096 % 64) (by omega) (by omega)
    have hc := u8_nat (128 + r / 64 % 64) (by omega) (by omega)
    have hd := u8_nat (128 + r % 64) (by omega) (by omega)
    simp only [dec, byteAt, List.cons_append, List.nil_append, List.getD_cons_zero, List.getD_cons_succ, ha, hb, hc, hd, List.length_cons]
    exact decodeN_enc4 _ r g0 g1 (by omega)


theorem notfull_dec {s : List UInt8} (h : fullP s = false) (hne : s ≠ []) : (dec s).2 = 1 := by
  have hp : 1 ≤ s.length := List.length_pos_iff.2 hne
  have hf : fullN s.length (byteAt s 0) (byteAt s 1) (byteAt s 2) = false := by
    unfold fullP at h
    have : decide (0 < s.length) = true := by simp; omega
    rw [this] at h
    simpa using h
  unfold fullN at hf
  simp only [Bool.or_eq_false_iff, decide_eq_false_iff_not] at hf
  have h1 := hf.1.1
  unfold dec
  rcases firstT_cases (byteAt s 0) with hX | hX | hX | hX | hX | hX | hX | hX | hX
  · rw [hX] at h1; omega
  · rw [hX] at h1; omega
  all_goals
    rw [← slow_eq s.length _ _ _ _ hp (byteAt_lt s 1) (byteAt_lt s 2) (byteAt_lt s 3) (by rw [hX]; omega), hX]
    rw [hX] at h1
    have : s.length < _ := Nat.lt_of_not_le h1
    simp only [slowN, if_pos this]
/-- a rune above ASCII: two bytes and more, all of them high -/
theorem enc_high {r : Int} (hv : vld r = true) (h : 128 ≤ r) : 2 ≤ (encodeRune r).length ∧ ∀ b ∈ encodeRune r, 128 ≤ b := by
  have hr : 0 ≤ r ∧ r < 55296 ∨ 57343 < r ∧ r ≤ 1114111 := by simpa [vld] using hv
  have key : ∀ x : Int, 128 ≤ x → x < 256 → 128 ≤ x.toNat.toUInt8 := fun x h0 h1 => by
    rw [UInt8.le_iff_toNat_le, u8_nat x (by omega) h1]
    show 128 ≤ x.toNat
    omega
  rcases (show (128 ≤ r ∧ r ≤ 2047) ∨ (2048 ≤ r ∧ r ≤ 65535) ∨ (65536 ≤ r ∧ r ≤ 1114111) by omega) with ⟨g0, g1⟩ | ⟨g0, g1⟩ | ⟨g0, g1⟩
  · have e : encodeRune r = [(192 + r / 64).toNat.toUInt8, (128 + r % 64).toNat.toUInt8] := by rw [encodeRune, encodeRuneZ_two g0 g1]; rfl
    rw [e]
    refine ⟨by simp, fun b hb => ?_⟩
    simp only [List.mem_cons, List.not_mem_nil, or_false] at hb
    rcases hb with rfl | rfl <;> exact key _ (by omega) (by omega)
  · have e : encodeRune r = [(224 + r / 4096).toNat.toUInt8, (128 + r / 64 % 64).toNat.toUInt8, (128 + r % 64).toNat.toUInt8] := by rw [encodeRune, encodeRuneZ_three (by omega)]; rfl
    rw [e]
    refine ⟨by simp, fun b hb => ?_⟩
    simp only [List.mem_cons, List.not_mem_nil, or_false] at hb
    rcases hb with rfl | rfl | rfl <;> exact key _ (by omega) (by omega)
  · have e : encodeRune r = [(240 + r / 262144).toNat.toUInt8, (128 + r / 4096 % 64).toNat.toUInt8, (128 + r / 64 % 64).toNat.toUInt8, (128 + r % 64).toNat.toUInt8] := by rw [encodeRune, encodeRuneZ_four g0 g1]; rfl
    rw [e]
    refine ⟨by simp, fun b hb => ?_⟩
    simp only [List.mem_cons, List.not_mem_nil, or_false] at hb
    rcases hb with rfl | rfl | rfl | rfl <;> exact key _ (by omega) (by omega)
theorem put_whole {r : Int} (hv : vld r = true) (h : 128 ≤ r) : putAll (encodeRune r) = ([r], []) := by
  have hd := dec_enc r [] hv
  rw [List.append_nil] at hd
  have h2 := (enc_high hv h).1
  have hne : encodeRune r ≠ [] := fun e => by rw [e] at h2; simp at h2
  have hf : fullP (encodeRune r) = true := by
    cases hx : fullP (encodeRune r) with
    | true => rfl
    | false => have := notfull_dec hx hne; rw [hd] at this; simp only at this; omega
  rw [putAll_step hf, hd]
  simp only [List.drop_length]
  rw [putAll_stop fullP_nil]
  have : ((r.toNat : Nat) : Int) = r := by omega
  rw [this]
theorem put_part {r : Int} (hv : vld r = true) {p t : List UInt8} (e : p ++ t = encodeRune r) (ht : t ≠ []) : putAll p = ([], p) := by
  refine putAll_stop ?_
  cases hx : fullP p with
  | false => rfl
  | true =>
    exfalso
    have hm := dec_more p t hx
    rw [e] at hm
    have hd := dec_enc r [] hv
    rw [List.append_nil, hm] at hd
    have hb := dec_bounds p (fullP_ne hx)
    rw [hd] at hb
    have hl := congrArg List.length e
    rw [List.length_append] at hl
    have := List.length_pos_iff.2 ht
    simp only at hb
    omega
/-- a rune that is printed -/
def okR (r : Int) : Bool := vld r && decide (32 ≤ r) && !decide (r = 127) && !decide (128 ≤ r ∧ r ≤ 159)
theorem put_high {r : Int} (hv : vld r = true) (h : 160 ≤ r) (S : PS) (hs : S.st = 0) : ∀ (t p : List UInt8), p ++ t = encodeRune r → t ≠ [] → putPS { S with held := p } t = ({ S with held := [] }, [printA r]) := by
  have hhi := (enc_high hv (by omega)).2
  intro t
  induction t with
  | nil => intro p _ ht; exact absurd rfl ht
  | cons b t ih =>
    intro p e _
    have hb : 128 ≤ b := hhi b (by rw [← e]; simp)
    have htk : takeP { S with held := p } b = ({ S with held := (putAll (p ++ [b])).2 }, printsP (putAll (p ++ [b])).1) := by
      unfold takeP
      rw [if_pos ⟨hs, hb⟩]
    have e2 : (p ++ [b]) ++ t = encodeRune r := by rw [← e]; simp
    by_cases ht : t = []
    · subst ht
      rw [List.append_nil] at e2
      have hpr : printsP [r] = [printA r] := by
        have : ctrlP r = false := by simp [ctrlP]; omega
        simp [printsP, this]
      simp only [putPS, htk, e2, put_whole hv (by omega), hpr, List.append_nil]
    · have hpp := put_part hv e2 ht
      have hpn : printsP [] = [] := rfl
      simp only [putPS, htk, hpp, hpn, List.nil_append]
      exact ih (p ++ [b]) e2 ht
theorem put_rune {r : Int} (h : okR r = true) {S : PS} (hr : Rest S) : Rest (putPS S (encodeRune r)).1 ∧ (putPS S (encodeRune r)).2 = [printA r] := by
  simp only [okR, Bool.and_eq_true, Bool.not_eq_true', decide_eq_true_eq, decide_eq_false_iff_not] at h
  obtain ⟨⟨⟨hv, h32⟩, h127⟩, h159⟩ := h
  have hr2 : 0 ≤ r ∧ r < 55296 ∨ 57343 < r ∧ r ≤ 1114111 := by simpa [vld] using hv
  by_cases hlo : r < 128
  · have e : encodeRune r = [r.toNat.toUInt8] := by rw [encodeRune, encodeRuneZ_one (by omega) (by omega)]; rfl
    rw [e]
    have hb := u8_nat r (by omega) (by omega)
    have hS : { S with held := [] } = S := by
      have := hr.2
      cases S
      simp at this
      subst this
      rfl
    have hgr : groundA r.toNat.toUInt8 = printA r := by
      have hc : classP r.toNat.toUInt8 ≠ 0 ∧ classP r.toNat.toUInt8 ≠ 6 := by
        have h127n : r.toNat ≠ 127 := by omega
        unfold classP
        have l1 : ¬ r.toNat.toUInt8 < 32 := by rw [UInt8.lt_iff_toNat_lt, hb]; show ¬ r.toNat < 32; omega
        have l2 : r.toNat.toUInt8 < 127 := by rw [UInt8.lt_iff_toNat_lt, hb]; show r.toNat < 127; omega
        rw [if_neg l1]
        repeat' split
        all_goals first | omega | (exact absurd l2 (by assumption)) | simp
      unfold groundA
      rw [if_neg hc.1, if_neg hc.2, hb]
      have : ((r.toNat : Nat) : Int) = r := by omega
      rw [this]
    have hn : ∀ n : Nat, n < 32 → r.toNat.toUInt8 ≠ UInt8.ofNat n := fun n hn e => by
      have := congrArg UInt8.toNat e
      rw [hb] at this
      simp at this
      omega
    have hst : stepP S r.toNat.toUInt8 = (S, printA r) := by
      unfold stepP
      rw [if_neg (fun q => q.elim (hn 24 (by omega)) (hn 26 (by omega))), if_neg (show r.toNat.toUInt8 ≠ 27 from hn 27 (by omega))]
      have : inStateP S r.toNat.toUInt8 = (S, groundA r.toNat.toUInt8) := by simp only [inStateP, hr.1]
      rw [this, hgr]
    have htk : takeP S r.toNat.toUInt8 = (S, [printA r]) := by
      unfold takeP
      have hl : ¬ 128 ≤ r.toNat.toUInt8 := by rw [UInt8.le_iff_toNat_le, hb]; show ¬ 128 ≤ r.toNat; omega
      rw [if_neg (fun q => hl q.2), if_pos hr.1, hS, hst, hr.2]
      rfl
    simp only [putPS, htk, List.append_nil]
    exact ⟨hr, trivial⟩
  · have hS : S = { S with held := [] } := by
      have := hr.2
      cases S
      simp at this
      subst this
      rfl
    have hne : encodeRune r ≠ [] := fun e => by have := (enc_high hv (by omega)).1; rw [e] at this; simp at this
    have hp := put_high hv (by omega) S hr.1 (encodeRune r) [] (by simp) hne
    rw [← hS] at hp
    rw [hp]
    exact ⟨⟨hr.1, hr.2⟩, rfl⟩
theorem put_text (l : List Int) : ∀ {S : PS}, Rest S → (∀ r ∈ l, okR r = true) → Rest (putPS S (encAll l)).1 ∧ (putPS S (encAll l)).2 = l.map printA := by
  induction l with
  | nil => intro S h _; exact ⟨h, rfl⟩
  | cons r l ih =>
    intro S h hl
    have h1 := put_rune (hl r (by simp)) h
    have h2 := ih h1.1 (fun x hx => hl x (List.mem_cons_of_mem _ hx))
    have e : encAll (r :: l) = encodeRune r ++ encAll l := rfl
    rw [e, putPS_append]
    exact ⟨h2.1, by rw [h1.2, h2.2]; rfl⟩
theorem all_text (l : List Int) (h : ∀ r ∈ l, okR r = true) : allP (encAll l) = l.map printA := by
  obtain ⟨h1, h2⟩ := put_text l (S := ps0) ⟨rfl, rfl⟩ h
  unfold allP
  rw [h2, h1.2]
  simp [decAll_nil, printsP]
end Go.Proofs.YtmmlaaigcnkomaaDoor
