/-
  What the document's Good returns, for every string: the paths that simfs.Good takes.
-/
import Derived.Test.YthpkfgjjaieikaaGreatDoorFsGood
import Derived.Lib.Hide
namespace Go.Proofs.YthpkfgjjaieikaaGreatDoor
open Go.RowKit Go.Shelf Go.Lib
attribute [local go_sem] Oper.semAt_some

/-- between two rounds -/
def GRel (l r : List UInt8) (a b : Value) : Prop :=
  ∃ f i : Nat, a = .int .i64 f ∧ b = .int .i64 i ∧ 1 ≤ f ∧ 1 ≤ i ∧ i ≤ l.length + 1 ∧
    ((i ≤ l.length ∧ f ≤ i ∧ (∀ k, f ≤ k → k < i → l[k]? ≠ some 47) ∧ (names r).all nameOk = (names (l.drop f)).all nameOk) ∨ (i = l.length + 1 ∧ (names r).all nameOk = true))

theorem names_step {l : List UInt8} {f i : Nat} (hfi : f ≤ i) (hs : ∀ k, f ≤ k → k < i → l[k]? ≠ some 47) (hi : l[i]? = some 47) : names (l.drop f) = (l.drop f).take (i - f) :: names (l.drop (i + 1)) := by
  rw [names_cut (l.drop f) (i - f) (by rw [List.getElem?_drop, show f + (i - f) = i by omega]; exact hi) (fun k hk => by rw [List.getElem?_drop]; exact hs _ (by omega) (by omega)), List.drop_drop]
  congr 3
  omega
theorem names_last {l : List UInt8} {f : Nat} (hs : ∀ k, f ≤ k → k < l.length → l[k]? ≠ some 47) : names (l.drop f) = [(l.drop f).take (l.length - f)] := by
  rw [names_plain (l.drop f) fun k hk => ?_]
  · rw [List.take_of_length_le (by rw [List.length_drop]; omega)]
  · rw [List.getElem?_drop] at hk
    have := (List.getElem?_eq_some_iff.1 hk).1
    exact hs _ (by omega) this hk
theorem extract_str (l : List UInt8) (f i : Nat) : (⟨l.toArray⟩ : ByteArray).extract f i = ⟨((l.drop f).take (i - f)).toArray⟩ := by
  apply ByteArray.ext
  rw [ByteArray.data_extract]
  simp

theorem at_ba {l : List UInt8} {i : Nat} {c : UInt8} (h : l[i]? = some c) (hi : i < (⟨l.toArray⟩ : ByteArray).size) : (⟨l.toArray⟩ : ByteArray)[i]'hi = c := by
  have := (List.getElem?_eq_some_iff.1 h).2
  rw [← this]
  rfl

theorem ret_all {r a n : List UInt8} {t : List (List UInt8)} (h : (names r).all nameOk = (names a).all nameOk) (hb : names a = n :: t) (ho : nameOk n = false) : Ending.returned (.bool false) = .returned (.bool ((names r).all nameOk)) := by
  rw [h, hb]
  simp [ho]

set_option maxRecDepth 100000 in
set_option maxHeartbeats 1000000 in
theorem refGood_root (l r : List UInt8) (w : World) (hlr : l = 47 :: r) (hl : l.length ≤ 1024) :
    Calls Tryz.prog 106 #[str l] w fun e w' => e = .returned (.bool ((names r).all nameOk)) ∧ w = w' := by
  have h0 : (l.length : Int) ≤ 1024 := by omega
  have h1 : 1 ≤ l.length := by rw [hlr]; simp
  have hne : l.isEmpty = false := by rw [hlr]; rfl
  have e0 : ∀ h, ((⟨l.toArray⟩ : ByteArray)[0]'h) = 47 := fun h => at_ba (by rw [hlr]; rfl) h
  have HSTART := Lib.hid (show GRel l r (.int .i64 1) (.int .i64 1) from ⟨1, 1, rfl, rfl, Nat.le_refl _, Nat.le_refl _, by omega, .inl ⟨h1, Nat.le_refl _, fun k h1 h2 => by omega, by rw [hlr]; rfl⟩⟩)
  clear hlr
  go_enter Tryz.func106, Tryz.ntmps106
  go_wp2_with fail
  clear e0 hne
  go_loop [3, 4] (fun a b => GRel l r a b) (fun _ b => l.length + 1 - (intOf b).toNat)
  case atStart => exact HSTART.out
  case round =>
    obtain ⟨f, i, rfl, rfl, hf1, hi1, hil, hor⟩ := hrel
    rcases hor with ⟨hile, hfi, hns, heq⟩ | ⟨hiE, hall⟩
    · have HNS := Lib.hid hns
      have HEQ := Lib.hid heq
      clear hns heq
      by_cases hend : i = l.length
      · have hb : names (l.drop f) = [(l.drop f).take (l.length - f)] := names_last (fun k a b => HNS.out k a (by omega))
        subst hend
        have HB := Lib.hid hb
        have hx := extract_str l f l.length
        clear hb
        generalize (l.drop f).take (l.length - f) = n at hx HB
        go_wp2_with fail
        · have e : n = [] := by assumption
          go_ret
          exact ⟨ret_all HEQ.out HB.out (e ▸ rfl), rfl⟩
        · have e : n = [46] := by assumption
          go_ret
          exact ⟨ret_all HEQ.out HB.out (e ▸ rfl), rfl⟩
        · have hb : (n.isEmpty = true ∨ (n == [46]) = true) ∨ (n == [46, 46]) = true := by assumption
          go_ret
          exact ⟨ret_all HEQ.out HB.out (bad_of hb), rfl⟩
        · have hb : (n.isEmpty = false ∧ (n == [46]) = false) ∧ (n == [46, 46]) = false := by assumption
          refine ⟨⟨l.length + 1, l.length + 1, by go_num, by go_num, by omega, by omega, Nat.le_refl _, .inr ⟨rfl, ?_⟩⟩, by simp [intOf] <;> omega⟩
          rw [HEQ.out, HB.out]
          simp [ok_of hb]
      · have hlt : i < l.length := by omega
        obtain ⟨c, hc⟩ : ∃ c, l[i]? = some c := ⟨_, List.getElem?_eq_getElem hlt⟩
        have ec : ∀ h, ((⟨l.toArray⟩ : ByteArray)[i]'h) = c := fun h => at_ba hc h
        by_cases h47 : c = 47
        · subst h47
          have hb := names_step hfi HNS.out hc
          have HB := Lib.hid hb
          have hx := extract_str l f i
          clear hb hc
          generalize (l.drop f).take (i - f) = n at hx HB
          go_wp2_with fail
          · have e : n = [] := by assumption
            go_ret
            exact ⟨ret_all HEQ.out HB.out (e ▸ rfl), rfl⟩
          · have e : n = [46] := by assumption
            go_ret
            exact ⟨ret_all HEQ.out HB.out (e ▸ rfl), rfl⟩
          · have hb : (n.isEmpty = true ∨ (n == [46]) = true) ∨ (n == [46, 46]) = true := by assumption
            go_ret
            exact ⟨ret_all HEQ.out HB.out (bad_of hb), rfl⟩
          · have hb : (n.isEmpty = false ∧ (n == [46]) = false) ∧ (n == [46, 46]) = false := by assumption
            refine ⟨⟨i + 1, i + 1, by go_num, by go_num, by omega, by omega, by omega, .inl ⟨by omega, Nat.le_refl _, fun k h1 h2 => by omega, ?_⟩⟩, by simp [intOf] <;> omega⟩
            rw [HEQ.out, HB.out]
            simp [ok_of hb]
        · have HC := Lib.hid hc
          have hq : ((c.toNat : Int) != 47) = true := by
            have : c.toNat ≠ 47 := fun e => h47 (UInt8.toNat_inj.1 e)
            simp; omega
          have HQ := Lib.hid h47
          clear hc h47
          go_wp2_with fail
          refine ⟨⟨f, i + 1, rfl, by go_num, hf1, by omega, by omega, .inl ⟨by omega, by omega, fun k a b => ?_, HEQ.out⟩⟩, by simp [intOf] <;> omega⟩
          by_cases hk : k = i
          · rw [hk, HC.out]
            exact fun e => HQ.out (Option.some.inj e)
          · exact HNS.out k a (by omega)
    · have hgt : l.length < i := by omega
      clear hiE
      have HALL := Lib.hid hall
      clear hall
      go_wp2_with fail
      go_ret
      exact ⟨by rw [HALL.out]; rfl, rfl⟩

set_option maxRecDepth 100000 in
theorem refGood_nil (w : World) : Calls Tryz.prog 106 #[str []] w fun e w' => e = .returned (.bool false) ∧ w = w' := by
  go_enter Tryz.func106, Tryz.ntmps106
  go_wp2_with fail
  go_ret
  exact ⟨rfl, rfl⟩
set_option maxRecDepth 100000 in
theorem refGood_long (l : List UInt8) (w : World) (h : 1024 < l.length) : Calls Tryz.prog 106 #[str l] w fun e w' => e = .returned (.bool false) ∧ w = w' := by
  have h0 : (1024 : Int) < (l.length : Int) := by omega
  have hne : l.isEmpty = false := by cases l with | nil => simp at h | cons => rfl
  clear h
  go_enter Tryz.func106, Tryz.ntmps106
  go_wp2_with fail
  go_ret
  exact ⟨rfl, rfl⟩
set_option maxRecDepth 100000 in
theorem refGood_not (c : UInt8) (r : List UInt8) (w : World) (h : c ≠ 47) (hl : (c :: r).length ≤ 1024) : Calls Tryz.prog 106 #[str (c :: r)] w fun e w' => e = .returned (.bool false) ∧ w = w' := by
  have h0 : (((c :: r).length : Nat) : Int) ≤ 1024 := by omega
  have e0 : ∀ h, ((⟨(c :: r).toArray⟩ : ByteArray)[0]'h) = c := fun h => rfl
  have hq : ((c.toNat : Int) != 47) = true := by
    have : c.toNat ≠ 47 := fun e => h (UInt8.toNat_inj.1 e)
    simp; omega
  have h1 : 1 ≤ (c :: r).length := by simp
  have hne : (c :: r).isEmpty = false := rfl
  clear h hl
  generalize c :: r = l at *
  go_enter Tryz.func106, Tryz.ntmps106
  go_wp2_with fail
  go_ret
  exact ⟨rfl, rfl⟩

theorem refGood_any (l : List UInt8) (w : World) : Calls Tryz.prog 106 #[str l] w fun e w' => e = .returned (.bool (goodP l)) ∧ w = w' := by
  by_cases hl : 1024 < l.length
  · rw [goodP_long hl]; exact refGood_long l w hl
  · cases l with
    | nil => exact refGood_nil w
    | cons c r =>
      by_cases hc : c = 47
      · subst hc
        rw [goodP_root, decide_eq_true (by simp at hl; omega), Bool.true_and]
        exact refGood_root _ r w rfl (by omega)
      · have : goodP (c :: r) = false := goodP_not (by simp [hasPrefix, List.isPrefixOf, Ne.symm hc])
        rw [this]
        exact refGood_not c r w hc (by omega)

end Go.Proofs.YthpkfgjjaieikaaGreatDoor
