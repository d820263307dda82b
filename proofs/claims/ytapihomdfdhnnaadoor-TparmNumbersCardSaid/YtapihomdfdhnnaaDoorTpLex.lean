/-
  How package tparm reads a string: digits, letters, numbers, flags, what the library finds.
-/
import Derived.Test.YtapihomdfdhnnaaDoorTpP
import Derived.Test.YtapihomdfdhnnaaDoorTpLayA
namespace Go.Proofs.YtapihomdfdhnnaaDoor
open Go.RowKit Go.Shelf Go.Lib
attribute [local go_sem] Oper.semAt_some

theorem at_ba {l : List UInt8} {i : Nat} {c : UInt8} (h : l[i]? = some c) (hi : i < (⟨l.toArray⟩ : ByteArray).size) : (⟨l.toArray⟩ : ByteArray)[i]'hi = c := by
  have := (List.getElem?_eq_some_iff.1 h).2
  rw [← this]
  rfl
theorem at_byte {l : List UInt8} {i : Nat} (h : i < l.length) (hi : i < (⟨l.toArray⟩ : ByteArray).size) : (⟨l.toArray⟩ : ByteArray)[i]'hi = byteAt l i :=
  at_ba (by unfold byteAt; rw [List.getD_eq_getElem?_getD, List.getElem?_eq_getElem h]; rfl) hi
theorem extract_str (l : List UInt8) (f i : Nat) : (⟨l.toArray⟩ : ByteArray).extract f i = ⟨((l.drop f).take (i - f)).toArray⟩ := by
  apply ByteArray.ext
  rw [ByteArray.data_extract]
  simp

theorem index_any (s : List UInt8) (c : UInt8) (w : World) : Calls Tryd.prog 41 #[str s, .int .u8 c.toNat] w fun e w' => e = .returned (.int .i64 (indexByte s c)) ∧ w = w' :=
  (Any.strings_IndexByte Tryd.layIndexByte ⟨s.toArray⟩ c.toNat w).mono fun _ _ ⟨h1, h2⟩ => ⟨by simpa using h1, h2.symm⟩
theorem prefix_any (s p : List UInt8) (w : World) : Calls Tryd.prog 22 #[str s, str p] w fun e w' => e = .returned (.bool (hasPrefix s p)) ∧ w = w' :=
  (Any.strings_HasPrefix Tryd.layHasPrefix ⟨s.toArray⟩ ⟨p.toArray⟩ w).mono fun _ _ ⟨h1, h2⟩ => ⟨by simpa using h1, h2.symm⟩

theorem digit_any (c : UInt8) (w : World) : Calls Tryd.prog 78 #[.int .u8 c.toNat] w fun e w' => e = .returned (.bool (isDigitP c)) ∧ w = w' := by
  have hb : isDigitP c = (decide ((48 : Int) ≤ (c.toNat : Int)) && decide ((c.toNat : Int) ≤ 57)) := by
    unfold isDigitP
    congr 1 <;> exact decide_eq_decide.2 (by omega)
  rw [hb]
  clear hb
  generalize (c.toNat : Int) = n
  by_cases h1 : (48 : Int) ≤ n
  all_goals by_cases h2 : n ≤ 57
  all_goals
    go_enter Tryd.func78, Tryd.ntmps78
    go_wp2_with fail
    go_ret
    exact ⟨by simp [*], rfl⟩
theorem letter_any (c : UInt8) (w : World) : Calls Tryd.prog 60 #[.int .u8 c.toNat] w fun e w' => e = .returned (.bool (isLetterP c)) ∧ w = w' := by
  have hb : isLetterP c = (decide ((97 : Int) ≤ (c.toNat : Int)) && decide ((c.toNat : Int) ≤ 122) || decide ((65 : Int) ≤ (c.toNat : Int)) && decide ((c.toNat : Int) ≤ 90)) := by
    unfold isLetterP
    congr 1 <;> congr 1 <;> exact decide_eq_decide.2 (by omega)
  rw [hb]
  clear hb
  generalize (c.toNat : Int) = n
  by_cases h1 : (97 : Int) ≤ n
  all_goals by_cases h2 : n ≤ 122
  all_goals by_cases h3 : (65 : Int) ≤ n
  all_goals by_cases h4 : n ≤ 90
  all_goals
    go_enter Tryd.func60, Tryd.ntmps60
    go_wp2_with fail
    go_ret
    exact ⟨by simp [*], rfl⟩

theorem numP_at {g : Nat} {s : List UInt8} {k n : Nat} (h : k < s.length) : numP g (s.drop k) n = if isDigitP (byteAt s k) then ((numP g (s.drop (k + 1)) (min (10 * n + ((byteAt s k).toNat - 48)) g)).1, (numP g (s.drop (k + 1)) (min (10 * n + ((byteAt s k).toNat - 48)) g)).2 + 1) else (n, 0) := by
  have e : byteAt s k = s[k] := by unfold byteAt; rw [List.getD_eq_getElem?_getD, List.getElem?_eq_getElem h]; rfl
  rw [e, List.drop_eq_getElem_cons h]
  rfl
theorem numP_end {g : Nat} {s : List UInt8} {k n : Nat} (h : s.length ≤ k) : numP g (s.drop k) n = (n, 0) := by
  rw [List.drop_eq_nil_of_le h]
  rfl
/-- between two digits -/
def NumI (s : List UInt8) (g : Nat) (n k : Value) : Prop := ∃ a b : Nat, n = .int .i64 a ∧ k = .int .i64 b ∧ a ≤ g ∧ b ≤ s.length ∧ (numP g s 0).1 = (numP g (s.drop b) a).1 ∧ (numP g s 0).2 = b + (numP g (s.drop b) a).2
set_option maxRecDepth 100000 in
set_option maxHeartbeats 2000000 in
theorem number_any (s : List UInt8) (g : Nat) (hg : g ≤ 999999999) (hl : s.length ≤ 4000000) (w : World) : Calls Tryd.prog 73 #[str s, .int .i64 g] w fun e w' => e = .returned (.tuple #[.int .i64 (numP g s 0).1, .int .i64 (numP g s 0).2]) ∧ w = w' := by
  have HST := Lib.hid (show NumI s g (.int .i64 0) (.int .i64 0) from ⟨0, 0, rfl, rfl, Nat.zero_le _, Nat.zero_le _, rfl, by simp⟩)
  obtain ⟨r1, hr1⟩ : ∃ r, (numP g s 0).1 = r := ⟨_, rfl⟩
  obtain ⟨r2, hr2⟩ : ∃ r, (numP g s 0).2 = r := ⟨_, rfl⟩
  rw [hr1, hr2]
  have HR1 := Lib.hid hr1
  have HR2 := Lib.hid hr2
  have HL := Lib.hid hl
  have HG := Lib.hid hg
  clear hr1 hr2 hl hg
  go_enter Tryd.func73, Tryd.ntmps73
  go_wp2_with fail
  go_loop [6, 7] (fun a b => NumI s g a b) (fun _ b => s.length - (RowKit.intOf b).toNat)
  case atStart => exact HST.out
  case round =>
    obtain ⟨a, b, rfl, rfl, ha, hb, e1, e2⟩ := hrel
    have HE := Lib.hid (And.intro e1 e2)
    have HA := Lib.hid ha
    clear e1 e2
    by_cases hlt : b < s.length
    · have hi1 : (b : Int) < (s.length : Int) := by omega
      have hi2 : (0 : Int) ≤ (b : Int) := by omega
      have hi3 : (b : Int) ≤ 4000000 := by have := HL.out; omega
      have ec := at_byte hlt
      have HLT := Lib.hid hlt
      have CD := Lib.hid (fun W => digit_any (byteAt s b) W)
      have HN := Lib.hid (numP_at (g := g) (n := a) hlt)
      generalize byteAt s b = c at *
      cases hd : isDigitP c with
      | true =>
        have hd' : 48 ≤ c.toNat ∧ c.toNat ≤ 57 := by unfold isDigitP at hd; simpa using hd
        rw [hd] at CD HN
        have i1 : (48 : Int) ≤ (c.toNat : Int) := by omega
        have i2 : (c.toNat : Int) ≤ 57 := by omega
        have ia : (a : Int) ≤ 999999999 := by have := HG.out; omega
        have w1 : IntKind.u8.wrap ((c.toNat : Int) - 48) = (c.toNat : Int) - 48 := by rw [IntKind.wrap_u8]; omega
        clear hd hd' ha hb hlt
        go_wp2_with (go_at_call 78; (with_reducible refine (CD.out _).mono ?_); rintro e w' ⟨rfl, rfl⟩)
        have ⟨e1, e2⟩ := HE.out
        have hN := HN.out
        have hc : (min (10 * (a : Int) + ((c.toNat : Int) - 48)) (g : Int)) = ((min (10 * a + (c.toNat - 48)) g : Nat) : Int) := by omega
        rw [hc]
        refine ⟨⟨min (10 * a + (c.toNat - 48)) g, b + 1, rfl, by go_num, Nat.min_le_right _ _, HLT.out, by rw [e1, hN]; rfl, by rw [e2, hN]; simp; omega⟩, by simp [RowKit.intOf] <;> omega⟩
      | false =>
        rw [hd] at CD HN
        clear hd
        go_wp2_with (go_at_call 78; (with_reducible refine (CD.out _).mono ?_); rintro e w' ⟨rfl, rfl⟩)
        have ⟨e1, e2⟩ := HE.out
        have hN := HN.out
        refine bodyPost_ret (v := .tuple #[.int .i64 a, .int .i64 b]) (by simp [results, Tryd.results73, go_sem]) rfl ⟨?_, rfl⟩
        rw [← HR1.out, ← HR2.out, e1, e2, hN]
        rfl
    · have hi1 : ¬ (b : Int) < (s.length : Int) := by omega
      have HLT := Lib.hid hlt
      clear hlt
      go_wp2_with fail
      have ⟨e1, e2⟩ := HE.out
      have hN := numP_end (g := g) (n := a) (Nat.le_of_not_lt HLT.out)
      refine bodyPost_ret (v := .tuple #[.int .i64 a, .int .i64 b]) (by simp [results, Tryd.results73, go_sem]) rfl ⟨?_, rfl⟩
      rw [← HR1.out, ← HR2.out, e1, e2, hN]
      rfl
end Go.Proofs.YtapihomdfdhnnaaDoor
